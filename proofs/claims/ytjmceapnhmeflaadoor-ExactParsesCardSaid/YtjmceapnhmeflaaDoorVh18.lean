/- A runner over the virtual heap: for calls whose arguments are known. -/
import Derived.Test.YtjmceapnhmeflaaDoorV6
set_option linter.unusedSimpArgs false
set_option linter.unusedVariables false
namespace Go.Vh
open Go

/-! ### A call that keeps all -/
def demote (H : AHeap) : AHeap := H.map fun o => o.map fun row => { row with own := false }
def ownOnly : Option ARow → Option ARow
  | some row => if row.own = true then some row else none
  | none => none
def mergeK (H H0' : AHeap) : AHeap := H ++ (H0'.drop H.length).map ownOnly

theorem demote_length (H : AHeap) : (demote H).length = H.length := by simp [demote]
theorem demote_at {H : AHeap} {r : Nat} {row : ARow} : rowAt (demote H) r = some row ↔ ∃ row0, rowAt H r = some row0 ∧ row = { row0 with own := false } := by
  simp only [rowAt_some, demote, List.getElem?_map, Option.map_eq_some_iff]
  constructor
  · rintro ⟨o, h1, h2⟩
    obtain ⟨row0, rfl, rfl⟩ := h2
    exact ⟨row0, h1, rfl⟩
  · rintro ⟨row0, h1, rfl⟩
    exact ⟨some row0, h1, row0, rfl, rfl⟩

theorem mergeK_at {H H0' : AHeap} {r : Nat} {row : ARow} (h : rowAt (mergeK H H0') r = some row) : (r < H.length ∧ rowAt H r = some row) ∨ (H.length ≤ r ∧ rowAt H0' r = some row ∧ row.own = true) := by
  rw [rowAt_some] at h
  rcases Nat.lt_or_ge r H.length with hr | hr
  · left
    rw [mergeK, List.getElem?_append_left hr] at h
    exact ⟨hr, rowAt_some.2 h⟩
  · right
    rw [mergeK, List.getElem?_append_right hr] at h
    simp only [List.getElem?_map, List.getElem?_drop, Option.map_eq_some_iff] at h
    obtain ⟨o, h1, h2⟩ := h
    rw [show H.length + (r - H.length) = r by omega] at h1
    unfold ownOnly at h2
    split at h2
    · split at h2
      · rename_i row0 ho
        simp only [Option.some.injEq] at h2; subst h2
        exact ⟨hr, rowAt_some.2 h1, ho⟩
      · cases h2
    · cases h2

theorem ACallsG.keep {P : Program} {f : FuncId} {args : List AV} {H : AHeap} {W : List Nat} {R : AV → AHeap → Prop} {γ : Nat → AV} (h : ACallsG P γ f args (demote H) W R) : ACallsG P γ f args H [] fun v H' => ∃ H0', R v H0' ∧ H' = mergeK H H0' := by
  refine ⟨h.ent, fun ρ w vs hs hv hg => ?_⟩
  have noex : ∀ b, ¬ exOf ρ (demote H) b := fun b ⟨r, row, x, h1, h2, _⟩ => by
    obtain ⟨row0, _, rfl⟩ := demote_at.1 h1
    cases h2
  have hsim : Sim w.heap.size (exOf ρ (demote H)) ρ (demote H) w := by
    refine ⟨fun r hr => hs.dom r (by rwa [demote_length] at hr), fun r row hr => ?_, fun r row x hr hx => ?_, fun r row x hr ho => ?_, fun r r' row row' x x' hr _ ho => ?_, fun r row x hr hx hne => ?_⟩
    · obtain ⟨row0, h1, rfl⟩ := demote_at.1 hr
      exact hs.has r row0 h1
    · obtain ⟨row0, h1, rfl⟩ := demote_at.1 hr
      exact hs.cells r row0 x h1 hx
    · obtain ⟨row0, h1, rfl⟩ := demote_at.1 hr
      cases ho
    · obtain ⟨row0, h1, rfl⟩ := demote_at.1 hr
      cases ho
    · obtain ⟨row0, h1, rfl⟩ := demote_at.1 hr
      exact hs.room r row0 x h1 hx hne
  refine (h.calls ρ w vs hsim hv hg).mono fun e w' ⟨v0, v', ρ', H0', he, hR, hle, hrel, hsim', hfrm, hlen⟩ => ?_
  have same : ∀ k, k < w.heap.size → w'.heap[k]? = w.heap[k]? := fun k hk => hfrm.block k hk fun hx => noex k (exW_exOf hx)
  rw [demote_length] at hlen
  have old : ∀ {r x}, r < H.length → ρ' r = some x → (∃ row, rowAt H r = some row) → ρ r = some x := fun {r x} _ hx ⟨row, hr⟩ => by
    obtain ⟨y, hy⟩ := hs.has r row hr
    have := hle _ _ hy
    rw [hx] at this
    rw [hy]; exact this.symm
  have low : ∀ {r row x}, rowAt H r = some row → ρ r = some x → (row.own = true ∨ row.cells ≠ []) → x.n ≠ 0 → x.b < w.heap.size := fun {r row x} hr hx hne hn => hs.old_lt hr hx hne hn
  have new : ∀ {r row x}, rowAt H0' r = some row → row.own = true → ρ' r = some x → x.n ≠ 0 → w.heap.size ≤ x.b := fun {r row x} hr ho hx hn => by
    rcases ((hsim'.own r row x hr ho hx).2.2 hn).1 with hb | hb
    · exact hb
    · exact (noex _ hb).elim
  refine ⟨v0, v', ρ', mergeK H H0', he, ⟨H0', hR, rfl⟩, hle, hrel, ⟨fun r hr => ?_, fun r row hr => ?_, fun r row x hr hx k c hk => ?_, fun r row x hr ho hx => ?_, fun r1 r2 a b x y h1 h2 h3 h4 h5 hx hy nx ny => ?_, fun r row x hr hx hne => ?_⟩, ?_, ?_⟩
  · simp only [mergeK, List.length_append, List.length_map, List.length_drop] at hr
    exact hsim'.dom r (by omega)
  · rcases mergeK_at hr with ⟨_, h1⟩ | ⟨_, h1, _⟩
    · obtain ⟨x, hx⟩ := hs.has r row h1
      exact ⟨x, hle _ _ hx⟩
    · exact hsim'.has r row h1
  · rcases mergeK_at hr with ⟨hl, h1⟩ | ⟨_, h1, _⟩
    · have hx0 := old hl hx ⟨_, h1⟩
      obtain ⟨j1, v, j2, j3⟩ := hs.cells r row x h1 hx0 k c hk
      have hne : row.cells ≠ [] := by intro e0; rw [e0] at hk; simp at hk
      refine ⟨j1, v, ?_, j3.mono hle⟩
      rw [World.cell?_of_block (w := w) (same _ (low h1 hx0 (.inr hne) (hs.room r row x h1 hx0 hne)))]
      exact j2
    · exact hsim'.cells r row x h1 hx k c hk
  · rcases mergeK_at hr with ⟨hl, h1⟩ | ⟨_, h1, _⟩
    · have hx0 := old hl hx ⟨_, h1⟩
      obtain ⟨o1, o2, o3⟩ := hs.own r row x h1 ho hx0
      refine ⟨o1, o2, fun hn => ?_⟩
      obtain ⟨p1, p2, p3⟩ := o3 hn
      have q := same _ (low h1 hx0 (.inl ho) hn)
      exact ⟨p1, by rw [q]; exact p2, fun j hj => by rw [World.frozen?_of_block (w := w) q]; exact p3 j hj⟩
    · obtain ⟨o1, o2, o3⟩ := hsim'.own r row x h1 ho hx
      exact ⟨o1, o2, fun hn => ⟨.inl (new h1 ho hx hn), (o3 hn).2⟩⟩
  · rcases mergeK_at h1 with ⟨l1, k1⟩ | ⟨l1, k1, o1⟩
    · have hx0 := old l1 hx ⟨_, k1⟩
      have hb := low k1 hx0 (.inl h3) nx
      rcases mergeK_at h2 with ⟨l2, k2⟩ | ⟨l2, k2, o2⟩
      · exact hs.dist r1 r2 a b x y k1 k2 h3 h4 h5 hx0 (old l2 hy ⟨_, k2⟩) nx ny
      · have := new k2 o2 hy ny
        omega
    · have hb := new k1 o1 hx nx
      rcases mergeK_at h2 with ⟨l2, k2⟩ | ⟨l2, k2, o2⟩
      · have hy0 := old l2 hy ⟨_, k2⟩
        have := low k2 hy0 h5 ny
        omega
      · exact hsim'.dist r1 r2 a b x y k1 k2 h3 h4 h5 hx hy nx ny
  · rcases mergeK_at hr with ⟨hl, h1⟩ | ⟨_, h1, _⟩
    · exact hs.room r row x h1 (old hl hx ⟨_, h1⟩) hne
    · exact hsim'.room r row x h1 hx hne
  · refine ⟨hfrm.os, hfrm.tape, hfrm.output, hfrm.size, fun k hk _ => same k hk⟩
  · simp [mergeK]

/-! ### The runner -/
abbrev Res := AExit × List AV × AHeap
abbrev Caller := FuncId → List AV → AHeap → Option (AV × AHeap)

def envS (γ : Nat → AV) (l : List AV) : St := fun t => if t < 1048576 then l.getD t unv else γ (t - 1048576)
theorem gl_env {γ : Nat → AV} {l : List AV} : gl (envS γ l) = γ := by
  funext g
  unfold gl envS
  rw [if_neg (by omega), Nat.add_sub_cancel_left]

def putE (d : Option Nat) (l : List AV) (v : AV) : Option (List AV) := match d with
  | none => some l
  | some d => if d < l.length ∧ d < 1048576 then some (l.set d v) else none

theorem putE_ok {γ : Nat → AV} {d : Option Nat} {l l' : List AV} {v : AV} (h : putE d l v = some l') : putI d (envS γ l) v = envS γ l' := by
  cases d with
  | none => simp only [putE, Option.some.injEq] at h; subst h; rfl
  | some d =>
    simp only [putE] at h
    split at h
    · rename_i hd
      simp only [Option.some.injEq] at h; subst h
      funext t
      simp only [putI, upd, envS, List.getD_eq_getElem?_getD]
      by_cases ht : t = d
      · subst ht; simp [hd.1, hd.2]
      · rw [if_neg ht, List.getElem?_set_ne (Ne.symm ht)]
    · cases h

def rput (d : Option Nat) (l : List AV) (v : AV) (H : AHeap) : Option (List AV × AHeap) := (putE d l v).map fun l' => (l', H)

def rop (γ : Nat → AV) (call : Caller) (H0 : AHeap) (mode : Nat) (d : Option Nat) (o : IOp) (l : List AV) (H : AHeap) : Option (List AV × AHeap) :=
  match o with
  | .pure p => (ipure p (envS γ l)).bind fun v => rput d l v H
  | .eff e => match mode with
    | 1 => (ieff e (envS γ l) H0).bind fun r => rput d l r.1 H
    | _ => (ieff e (envS γ l) H).bind fun r => rput d l r.1 r.2
  | .call f args => match calleeOf (args.map (evo (envS γ l))) (evo (envS γ l) f) with
    | some (f, all) => match mode with
      | 2 => (call f all (demote H)).bind fun r => rput d l r.1 (mergeK H r.2)
      | _ => (call f all H).bind fun r => rput d l r.1 r.2
    | none => none

def rstep (γ : Nat → AV) (call : Caller) (H0 : AHeap) (mode : Nat) (st : IStep) (l : List AV) (H : AHeap) : Option (List AV × AHeap) :=
  match st.guard with
  | none => rop γ call H0 mode st.dst st.op l H
  | some (t, want) => match envS γ l t with
    | .bool b => if b = want then rop γ call H0 mode st.dst st.op l H else rput st.dst l unv H
    | .lit (.tuple _) => rput st.dst l unv H
    | _ => none

def rops (γ : Nat → AV) (call : Caller) : List IStep → List AV → AHeap → Option (List AV × AHeap)
  | [], l, H => some (l, H)
  | st :: r, l, H => (rstep γ call [] 0 st l H).bind fun x => rops γ call r x.1 x.2

def rdops (γ : Nat → AV) (call : Caller) (H0 : AHeap) : List DStep → List AV → AHeap → Option (List AV × AHeap)
  | [], l, H => some (l, H)
  | x :: r, l, H => (rstep γ call H0 x.mode x.st l H).bind fun y => rdops γ call H0 r y.1 y.2

def rloop (f : List AV → AHeap → Option Res) : Nat → List AV → AHeap → Option Res
  | 0, _, _ => none
  | n + 1, l, H => (f l H).bind fun r => match r.1 with
    | .normal => rloop f n r.2.1 r.2.2
    | _ => some r

def samePtr : AV → AV → Bool
  | .ptr r 0, .ptr r' 0 => r == r'
  | _, _ => false

/-- A loop over letters: 'body' is what comes behind each of them. -/
def rstr (f : List AV → AHeap → Option Res) (str : ByteArray) (id d it : Nat) : Nat → Nat → List AV → AHeap → Option Res
  | 0, _, _, _ => none
  | n + 1, pos, l, H => if samePtr (l.getD it unv) (l.getD it unv) = true ∧ it < 1048576 then
      (putE (some d) l (letter str pos)).bind fun l1 => (f l1 H).bind fun r => match r.1 with
        | .normal => if pos < str.size ∧ samePtr (r.2.1.getD it unv) (l.getD it unv) = true then rstr f str id d it n (further str pos) r.2.1 r.2.2 else none
        | .exit i => if i = id then some (.normal, r.2.1, r.2.2) else some r
        | .ret => some r
    else none

def rir (γ : Nat → AV) (call : Caller) (n : Nat) : IR → List AV → AHeap → Option Res
  | .skip, l, H => some (.normal, l, H)
  | .ops o, l, H => (rops γ call o l H).map fun x => (.normal, x.1, x.2)
  | .dops o, l, H => (rdops γ call H o l H).map fun x => (.normal, x.1, x.2)
  | .tops _, _, _ => none
  | .seq a b, l, H => (rir γ call n a l H).bind fun r => match r.1 with
    | .normal => rir γ call n b r.2.1 r.2.2
    | _ => some r
  | .cond c a b, l, H => match evo (envS γ l) c with
    | .bool true => rir γ call n a l H
    | .bool false => rir γ call n b l H
    | _ => none
  | .block id a, l, H => (rir γ call n a l H).map fun r => match r.1 with
    | .exit i => if i = id then (.normal, r.2.1, r.2.2) else r
    | _ => r
  | .loop a, l, H => rloop (rir γ call n a) n l H
  | .exit id, l, H => some (.exit id, l, H)
  | .ret, l, H => some (.ret, l, H)
  | .strLoop A x it id d B rest, l, H => (rops γ call A l H).bind fun y => match evo (envS γ y.1) x with
    | .str str => (putE (some it) y.1 (.ptr y.2.length 0)).bind fun l' => rstr (fun l1 H1 => (rops γ call B l1 H1).bind fun z => rir γ call n rest z.1 z.2) str id d it n 0 l' (y.2 ++ [some ⟨false, false, []⟩])
    | _ => none

/-- A function's text, found. -/
structure Found where
  ir : IR
  rs : List IRes
  nt : Nat

def find (P : Program) (f : FuncId) : Option Found :=
  match P.funcs[f]? with
  | some fn => match fn.body.bind (irOf P fn.ntmps), fn.results.toList.mapM (resOf P) with
    | some ir, some rs => if enters P f = true then some ⟨ir, rs, fn.ntmps⟩ else none
    | _, _ => none
  | none => none

def rfun (γ : Nat → AV) (look : FuncId → Option Found) (loops : Nat) : Nat → Caller
  | 0, _, _, _ => none
  | n + 1, f, args, H => (look f).bind fun F => if args.length ≤ F.nt ∧ F.nt ≤ 1048576 then
      (rir γ (rfun γ look loops n) loops F.ir (args ++ List.replicate (F.nt - args.length) unv) H).bind fun r => match r.1 with
        | .exit _ => none
        | _ => if H.length ≤ r.2.2.length then (ares (envS γ r.2.1) r.2.2 F.rs).map fun v => (v, r.2.2) else none
    else none

section
variable {P : Program} {γ : Nat → AV}

/-- What a caller's answers are worth. -/
def CallOK (P : Program) (γ : Nat → AV) (call : Caller) : Prop := ∀ f args H v H', call f args H = some (v, H') → ∃ W, ACallsG P γ f args H W fun v2 H2 => v2 = v ∧ H2 = H'

theorem rput_ok {d : Option Nat} {l : List AV} {v : AV} {H : AHeap} {x : List AV × AHeap} (h : rput d l v H = some x) {K : St → AHeap → Prop} (hK : K (envS γ x.1) x.2) : K (putI d (envS γ l) v) H := by
  simp only [rput, Option.map_eq_some_iff] at h
  obtain ⟨l', h1, rfl⟩ := h
  rw [putE_ok h1]; exact hK

theorem thenC_of {K : St → AHeap → Prop} {d : Option Nat} {s : St} {H : AHeap} {args all : List AV} {fv : AV} {c : FuncId} {W : List Nat} (hc : calleeOf args fv = some (c, all)) (h : ACallsG P (gl s) c all H W fun v H' => K (putI d s v) H') : thenC P K d s H args fv := by
  unfold calleeOf at hc
  unfold thenC
  split at hc
  · simp only [Option.some.injEq, Prod.mk.injEq] at hc
    obtain ⟨rfl, rfl⟩ := hc
    exact ⟨W, h⟩
  · simp only [Option.some.injEq, Prod.mk.injEq] at hc
    obtain ⟨rfl, rfl⟩ := hc
    exact ⟨W, h⟩
  · cases hc
theorem thenC0_of {K : St → AHeap → Prop} {d : Option Nat} {s : St} {H : AHeap} {args all : List AV} {fv : AV} {c : FuncId} (hc : calleeOf args fv = some (c, all)) (h : ACallsG P (gl s) c all H [] fun v H' => K (putI d s v) H') : thenC0 P K d s H args fv := by
  unfold calleeOf at hc
  unfold thenC0
  split at hc
  · simp only [Option.some.injEq, Prod.mk.injEq] at hc
    obtain ⟨rfl, rfl⟩ := hc
    exact h
  · simp only [Option.some.injEq, Prod.mk.injEq] at hc
    obtain ⟨rfl, rfl⟩ := hc
    exact h
  · cases hc

theorem rop_ok {call : Caller} (hc : CallOK P γ call) {H0 : AHeap} {mode : Nat} {d : Option Nat} {o : IOp} {l : List AV} {H : AHeap} {x : List AV × AHeap} (h : rop γ call H0 mode d o l H = some x) {K : St → AHeap → Prop} (hK : K (envS γ x.1) x.2) :
    iopD P H0 mode d o K (envS γ l) H := by
  cases o with
  | pure p =>
    simp only [rop, Option.bind_eq_some_iff] at h
    obtain ⟨v, h1, h2⟩ := h
    simp only [iopD, h1]
    exact rput_ok h2 hK
  | eff e =>
    simp only [rop] at h
    simp only [iopD]
    split at h
    · simp only [Option.bind_eq_some_iff] at h
      obtain ⟨⟨v, H1⟩, h1, h2⟩ := h
      simp only [h1]
      exact rput_ok h2 hK
    · rename_i hm
      simp only [Option.bind_eq_some_iff] at h
      obtain ⟨⟨v, H1⟩, h1, h2⟩ := h
      split
      · exact (hm rfl).elim
      · simp only [h1]
        exact rput_ok h2 hK
  | call f args =>
    simp only [rop] at h
    simp only [iopD]
    split at h
    · rename_i f' all hf
      split at h
      · simp only [Option.bind_eq_some_iff] at h
        obtain ⟨⟨v, H1⟩, h1, h2⟩ := h
        obtain ⟨W, hA⟩ := hc _ _ _ _ _ h1
        refine thenC0_of hf ?_
        rw [gl_env]
        refine hA.keep.mono fun v2 H2 ⟨H3, ⟨e1, e2⟩, e3⟩ => ?_
        subst e1; subst e2; subst e3
        exact rput_ok h2 hK
      · rename_i hm
        simp only [Option.bind_eq_some_iff] at h
        obtain ⟨⟨v, H1⟩, h1, h2⟩ := h
        obtain ⟨W, hA⟩ := hc _ _ _ _ _ h1
        split
        · exact (hm rfl).elim
        · refine thenC_of hf (W := W) ?_
          rw [gl_env]
          refine hA.mono fun v2 H2 ⟨e1, e2⟩ => ?_
          subst e1; subst e2
          exact rput_ok h2 hK
    · cases h

theorem iop_of_D {d : Option Nat} {o : IOp} {K : St → AHeap → Prop} {s : St} {H H0 : AHeap} (h : iopD P H0 0 d o K s H) : iop P d o K s H := by
  cases o <;> exact h

theorem rstepD_ok {call : Caller} (hc : CallOK P γ call) {H0 : AHeap} {dx : DStep} {l : List AV} {H : AHeap} {x : List AV × AHeap} (h : rstep γ call H0 dx.mode dx.st l H = some x) {K : St → AHeap → Prop} (hK : K (envS γ x.1) x.2) :
    istepD P H0 dx K (envS γ l) H := by
  unfold rstep at h
  unfold istepD
  split at h
  · rename_i hg
    simp only [hg]
    exact rop_ok hc h hK
  · rename_i t want hg
    simp only [hg]
    split at h
    · rename_i b hb
      simp only [hb, guardP]
      split at h
      · rename_i e; rw [if_pos e]; exact rop_ok hc h hK
      · rename_i e; rw [if_neg e]; exact rput_ok h hK
    · rename_i hb
      simp only [hb, guardP]
      exact rput_ok h hK
    · cases h

theorem rstep_ok {call : Caller} (hc : CallOK P γ call) {st : IStep} {l : List AV} {H : AHeap} {x : List AV × AHeap} (h : rstep γ call [] 0 st l H = some x) {K : St → AHeap → Prop} (hK : K (envS γ x.1) x.2) :
    istep P st K (envS γ l) H := by
  unfold rstep at h
  unfold istep
  split at h
  · rename_i hg
    simp only [hg]
    exact iop_of_D (rop_ok hc h hK)
  · rename_i t want hg
    simp only [hg]
    split at h
    · rename_i b hb
      simp only [hb, guardP]
      split at h
      · rename_i e; rw [if_pos e]; exact iop_of_D (rop_ok hc h hK)
      · rename_i e; rw [if_neg e]; exact rput_ok h hK
    · rename_i hb
      simp only [hb, guardP]
      exact rput_ok h hK
    · cases h

theorem rops_ok {call : Caller} (hc : CallOK P γ call) {K : St → AHeap → Prop} : ∀ (o : List IStep) (l : List AV) (H : AHeap) (x : List AV × AHeap), rops γ call o l H = some x → K (envS γ x.1) x.2 → iops P o K (envS γ l) H
  | [], l, H, x, h, hK => by simp only [rops, Option.some.injEq] at h; subst h; exact hK
  | st :: r, l, H, x, h, hK => by
    simp only [rops, Option.bind_eq_some_iff] at h
    obtain ⟨y, h1, h2⟩ := h
    exact rstep_ok hc h1 (K := iops P r K) (rops_ok hc r y.1 y.2 x h2 hK)

theorem rdops_ok {call : Caller} (hc : CallOK P γ call) {K : St → AHeap → Prop} {H0 : AHeap} : ∀ (o : List DStep) (l : List AV) (H : AHeap) (x : List AV × AHeap), rdops γ call H0 o l H = some x → K (envS γ x.1) x.2 → iopsD P H0 o K (envS γ l) H
  | [], l, H, x, h, hK => by simp only [rdops, Option.some.injEq] at h; subst h; exact hK
  | st :: r, l, H, x, h, hK => by
    simp only [rdops, Option.bind_eq_some_iff] at h
    obtain ⟨y, h1, h2⟩ := h
    exact rstepD_ok hc h1 (K := iopsD P H0 r K) (rdops_ok hc r y.1 y.2 x h2 hK)

theorem rir_ok' {call : Caller} (hc : CallOK P γ call) {n : Nat} : ∀ (ir : IR) (n0 : Nat) (l : List AV) (H : AHeap) (x : Res) (Q : AExit → St → AHeap → Prop), rir γ call n ir l H = some x → Q x.1 (envS γ x.2.1) x.2.2 → iwp P n0 ir Q (envS γ l) H := by
  intro ir
  induction ir with
  | skip => intro n0 l H x Q h hQ; simp only [rir, Option.some.injEq] at h; subst h; exact hQ
  | exit id => intro n0 l H x Q h hQ; simp only [rir, Option.some.injEq] at h; subst h; exact hQ
  | ret => intro n0 l H x Q h hQ; simp only [rir, Option.some.injEq] at h; subst h; exact hQ
  | ops o =>
    intro n0 l H x Q h hQ
    simp only [rir, Option.map_eq_some_iff] at h
    obtain ⟨y, h1, rfl⟩ := h
    exact rops_ok hc o l H y h1 hQ
  | dops o =>
    intro n0 l H x Q h hQ
    simp only [rir, Option.map_eq_some_iff] at h
    obtain ⟨y, h1, rfl⟩ := h
    exact rdops_ok hc o l H y h1 hQ
  | tops t => intro n0 l H x Q h hQ; simp only [rir] at h; cases h
  | seq a b iha ihb =>
    intro n0 l H x Q h hQ
    simp only [rir, Option.bind_eq_some_iff] at h
    obtain ⟨⟨e, l1, H1⟩, h1, h2⟩ := h
    refine iha _ l H _ _ h1 ?_
    cases e with
    | normal => exact ihb _ l1 H1 x Q h2 hQ
    | exit i => simp only [Option.some.injEq] at h2; subst h2; exact hQ
    | ret => simp only [Option.some.injEq] at h2; subst h2; exact hQ
  | cond c a b iha ihb =>
    intro n0 l H x Q h hQ
    simp only [rir] at h
    simp only [iwp]
    split at h
    · rename_i hb; rw [hb]; simp only [condPost, if_true]; exact iha _ l H x Q h hQ
    · rename_i hb; rw [hb]; simp only [condPost, Bool.false_eq_true, if_false]; exact ihb _ l H x Q h hQ
    · cases h
  | block id a iha =>
    intro n0 l H x Q h hQ
    simp only [rir, Option.map_eq_some_iff] at h
    obtain ⟨⟨e, l1, H1⟩, h1, h2⟩ := h
    refine iha _ l H _ _ h1 ?_
    cases e with
    | normal => simp only at h2; subst h2; exact hQ
    | ret => simp only at h2; subst h2; exact hQ
    | exit i =>
      simp only at h2
      simp only [blockPost]
      split at h2
      · rename_i e; rw [if_pos e]; subst h2; exact hQ
      · rename_i e; rw [if_neg e]; subst h2; exact hQ
  | loop a iha =>
    intro n0 l H x Q h hQ
    simp only [rir] at h
    refine ⟨fun m s H => ∃ l, s = envS γ l ∧ rloop (rir γ call n a) m l H = some x, n, ⟨l, rfl, h⟩, ?_⟩
    rintro m s H ⟨l, rfl, h⟩
    cases m with
    | zero => cases h
    | succ m =>
      simp only [rloop, Option.bind_eq_some_iff] at h
      obtain ⟨⟨e, l1, H1⟩, h1, h2⟩ := h
      refine iha _ l H _ _ h1 ?_
      cases e with
      | normal => exact ⟨_, _, Weak.refl, m, by omega, l1, rfl, h2⟩
      | exit i => simp only [Option.some.injEq] at h2; subst h2; exact hQ
      | ret => simp only [Option.some.injEq] at h2; subst h2; exact hQ
  | strLoop A X it id d B rest ih =>
    intro n0 l H x Q h hQ
    simp only [rir, Option.bind_eq_some_iff] at h
    obtain ⟨y, hA, h⟩ := h
    refine rops_ok hc A l H y hA ?_
    split at h
    case h_2 => cases h
    rename_i str hstr
    rw [hstr]
    simp only [Option.bind_eq_some_iff] at h
    obtain ⟨l', hl', h⟩ := h
    refine ⟨fun pos s H => ∃ m l, s = envS γ l ∧ rstr (fun l1 H1 => (rops γ call B l1 H1).bind fun z => rir γ call n rest z.1 z.2) str id d it m pos l H = some x, ⟨n, l', ?_, h⟩, ?_⟩
    · exact putE_ok hl'
    rintro pos s H ⟨m, l, rfl, h⟩
    cases m with
    | zero => cases h
    | succ m =>
      simp only [rstr] at h
      split at h
      case isFalse => cases h
      rename_i hsame
      have hptr : ∀ u v : AV, samePtr u v = true → ∃ r, u = .ptr r 0 ∧ v = .ptr r 0 := fun u v e => by
        unfold samePtr at e
        split at e
        · exact ⟨_, rfl, by simpa using (beq_iff_eq.1 e).symm⟩
        · cases e
      have hev : ∀ l : List AV, envS γ l it = l.getD it unv := fun l => by unfold envS; rw [if_pos hsame.2]
      refine ⟨let ⟨r, h1, _⟩ := hptr _ _ hsame.1; ⟨r, (hev _).trans h1⟩, ?_⟩
      simp only [Option.bind_eq_some_iff] at h
      obtain ⟨l1, hl1, ⟨e, l2, H2⟩, ⟨z, hB, hr⟩, h2⟩ := h
      have e1 : upd (envS γ l) d (letter str pos) = envS γ l1 := putE_ok hl1
      rw [e1]
      refine rops_ok hc B l1 H z hB ?_
      refine ih _ z.1 z.2 _ _ hr ?_
      cases e with
      | normal =>
        simp only at h2
        split at h2
        · rename_i hh
          obtain ⟨r, h1, h3⟩ := hptr _ _ hh.2
          exact ⟨hh.1, (hev _).trans ((h1.trans h3.symm).trans (hev _).symm), _, _, Weak.refl, m, l2, rfl, h2⟩
        · cases h2
      | exit i =>
        simp only at h2
        simp only [strPost]
        split at h2
        · rename_i e; rw [if_pos e]; simp only [Option.some.injEq] at h2; subst h2; exact hQ
        · rename_i e; rw [if_neg e]; simp only [Option.some.injEq] at h2; subst h2; exact hQ
      | ret => simp only [Option.some.injEq] at h2; subst h2; exact hQ

theorem rir_ok {call : Caller} (hc : CallOK P γ call) {n n0 : Nat} (ir : IR) (l : List AV) (H : AHeap) (x : Res) (Q : AExit → St → AHeap → Prop) (h : rir γ call n ir l H = some x) (hQ : Q x.1 (envS γ x.2.1) x.2.2) : iwp P n0 ir Q (envS γ l) H :=
  rir_ok' hc ir n0 l H x Q h hQ

theorem envS_pad {args : List AV} {k : Nat} (hl : args.length ≤ 1048576) : envS γ (args ++ List.replicate k unv) = s0G γ args := by
  funext t
  simp only [envS, s0G, List.getD_eq_getElem?_getD]
  rcases Nat.lt_or_ge t args.length with h | h
  · rw [List.getElem?_append_left h, if_pos (by omega), List.getElem?_eq_getElem h]; rfl
  · rw [List.getElem?_append_right h, List.getElem?_eq_none h, List.getElem?_replicate]
    simp only
    split
    · split <;> rfl
    · rfl

/-- **The runner's word is a contract.** -/
theorem rfun_ok {look : FuncId → Option Found} (hl : ∀ f F, look f = some F → find P f = some F) {loops : Nat} : ∀ n, CallOK P γ (rfun γ look loops n)
  | 0 => fun f args H v H' h => by simp [rfun] at h
  | n + 1 => fun f args H v H' h => by
    simp only [rfun, Option.bind_eq_some_iff] at h
    obtain ⟨F, hF, h⟩ := h
    have hF := hl _ _ hF
    unfold find at hF
    split at hF
    · rename_i fn hfn
      split at hF
      · rename_i ir rs hir hrs
        split at hF
        · rename_i hent
          simp only [Option.some.injEq] at hF; subst hF
          split at h
          · rename_i hargs
            simp only [Option.bind_eq_some_iff] at h
            obtain ⟨⟨e, l1, H1⟩, h1, h2⟩ := h
            refine ⟨List.range H.length, ?_⟩
            refine ACallsG.body hfn hent hir hrs rfl hargs.1 rfl ?_ hargs.2
            rw [← envS_pad (k := fn.ntmps - args.length) (by have := hargs.1; have := hargs.2; simp only at *; omega)]
            refine rir_ok (rfun_ok hl n) ir _ H _ _ h1 ?_
            have fin : (if H.length ≤ H1.length then (ares (envS γ l1) H1 rs).map fun v => (v, H1) else none) = some (v, H') → ∃ s' H2, Weak H.length (envS γ l1) H1 s' H2 ∧ H2.length ≥ H.length ∧ thenR (fun v2 H2 => v2 = v ∧ H2 = H') H2 (ares s' H2 rs) := fun h3 => by
              split at h3
              · rename_i hle
                simp only [Option.map_eq_some_iff, Prod.mk.injEq] at h3
                obtain ⟨v3, h4, rfl, rfl⟩ := h3
                exact ⟨_, _, Weak.refl, hle, by rw [h4]; exact ⟨rfl, rfl⟩⟩
              · cases h3
            cases e with
            | exit i => cases h2
            | normal => exact fin h2
            | ret => exact fin h2
          · cases h
        · cases hF
      · cases hF
    · cases hF

theorem run_calls {look : FuncId → Option Found} (hl : ∀ f F, look f = some F → find P f = some F) {loops n : Nat} {f : FuncId} {args : List AV} {H H' : AHeap} {v : AV} (h : rfun γ look loops n f args H = some (v, H')) :
    ∃ W, ACallsG P γ f args H W fun v2 H2 => v2 = v ∧ H2 = H' := rfun_ok hl n f args H v H' h
end
end Go.Vh

