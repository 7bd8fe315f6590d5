/- A region that draws its order: what computes and what reads is taken as soon as it may come; the rest comes one behind the other. -/
import Derived.Test.YtjmceapnhmeflaaDoorV3
import Derived.OrdersHeld
set_option linter.unusedSimpArgs false
set_option linter.unusedVariables false
namespace Go.Vh
open Go

section any
variable {P : Program} {ops : Array Oper} {Q : Exit → Act → World → Prop}

/-- Whatever is picked; of what operation number j does 'Φ j' holds. -/
def wpAnyS (P : Program) (ops : Array Oper) (Q : Exit → Act → World → Prop) (Φ : Nat → World → World → Prop) : Nat → Array Bool → Act → World → Prop
  | 0, listed, a, w => Region.ready .any ops listed = [] ∧ Q .normal a w
  | n + 1, listed, a, w => (Region.ready .any ops listed = [] → Q .normal a w) ∧
      ∀ i ∈ Region.ready .any ops listed, wpOp P ops Q i (fun a' w' => Φ i w w' ∧ wpAnyS P ops Q Φ n (listed.setIfInBounds i true) a' w') a w

theorem wpAny_of_S {Φ : Nat → World → World → Prop} : ∀ (n : Nat) (listed : Array Bool) (a : Act) (w : World), wpAnyS P ops Q Φ n listed a w → wpAny P .any ops Q n listed a w
  | 0, _, _, _, h => h
  | n + 1, _, _, _, h => ⟨h.1, fun i hi => wpOp_mono (fun a' w' h' => wpAny_of_S n _ a' w' h'.2) (h.2 i hi)⟩

/-- Does operation j wait for i, over others too? -/
def reachB (ops : Array Oper) : Nat → Nat → Nat → Bool
  | 0, _, _ => false
  | n + 1, j, i => match ops[j]? with
    | some o => o.after.any fun e => Region.binds .any e && (e.on == i || reachB ops n e.on i)
    | none => false

/-- What is listed has all that it waits for listed. -/
def Closed (ops : Array Oper) (listed : Array Bool) : Prop :=
  ∀ (k : Nat) (o : Oper), ops[k]? = some o → listed.getD k false = true → ∀ e ∈ o.after, Region.binds .any e = true → listed.getD e.on false = true

theorem Closed.reach {listed : Array Bool} (h : Closed ops listed) : ∀ (n j i : Nat), reachB ops n j i = true → (∀ o, ops[j]? = some o → ∀ e ∈ o.after, Region.binds .any e = true → listed.getD e.on false = true) → listed.getD i false = true
  | 0, _, _, hr, _ => by simp [reachB] at hr
  | n + 1, j, i, hr, hj => by
    simp only [reachB] at hr
    split at hr
    · rename_i o ho
      obtain ⟨e, he, hb⟩ := Array.any_eq_true'.1 hr
      simp only [Bool.and_eq_true, Bool.or_eq_true, beq_iff_eq] at hb
      have hl := hj o ho e he hb.1
      rcases hb.2 with h1 | h1
      · rw [← h1]; exact hl
      · exact h.reach n e.on i h1 fun o' ho' e' he' hb' => h e.on o' ho' hl e' he' hb'
    · cases hr

theorem Closed.set {listed : Array Bool} (h : Closed ops listed) {i : Nat} (hi : i ∈ Region.ready .any ops listed) : Closed ops (listed.setIfInBounds i true) := by
  intro k o ho hk e he hb
  by_cases hki : i = k
  · subst hki
    obtain ⟨_, o', ho', hall⟩ := mem_ready.1 hi
    have : o' = o := Option.some.inj (ho'.symm.trans ho)
    subst this
    exact getD_set_true (hall e he hb)
  · rw [getD_set_ne false hki] at hk
    exact getD_set_true (h k o ho hk e he hb)

/-- What yields in every world that meets S, and is passed by what keeps S alone, may be taken first. -/
theorem anyS_first {Φ : Nat → World → World → Prop} {S : World → Prop} {i : Nat} {oi : Oper} {v : Value} (hi : ops[i]? = some oi) (hsel : ∀ (j : Nat) (o : Oper) cs b, ops[j]? = some o → o.op ≠ .select cs b)
    (hQ : ∀ c a w, Q (.panic c) (a.put oi.dst v) w → Q (.panic c) a w) (hS : ∀ j, j ≠ i → reachB ops ops.size j i = false → (ops[j]?).isSome = true → ∀ w w', Φ j w w' → S w → S w') (hΦ : ∀ w, Φ i w w) :
    ∀ (n : Nat) (listed : Array Bool) (a : Act) (w : World), Closed ops listed →
      (∀ j oj, ops[j]? = some oj → j ≠ i → listed.getD j true = false → (∀ e ∈ oj.after, Region.binds .any e = true → e.on ≠ i) → oi.apart ops oj = true) →
      i ∈ Region.ready .any ops listed → YieldsIf P ops S oi v a → S w →
      wpAnyS P ops Q Φ n (listed.setIfInBounds i true) (a.put oi.dst v) w → wpAnyS P ops Q Φ (n + 1) listed a w := by
  intro n
  induction n with
  | zero =>
    intro listed a w _ _ hr hy hw hq
    refine ⟨fun h0 => by simp [h0] at hr, fun j hj => ?_⟩
    by_cases e : j = i
    · subst e; exact hy.wpOp hi hw ⟨hΦ w, hq⟩
    · have hm := ready_mono hj e
      rw [hq.1] at hm
      simp at hm
  | succ n ih =>
    intro listed a w hcl hfree hr hy hw hq
    refine ⟨fun h0 => by simp [h0] at hr, fun j hj => ?_⟩
    by_cases e : j = i
    · subst e; exact hy.wpOp hi hw ⟨hΦ w, hq⟩
    · obtain ⟨hju, oj, hoj, hja⟩ := mem_ready.1 hj
      have hiu : listed.getD i false = false := by
        have := (mem_ready.1 hr).1
        rcases Nat.lt_or_ge i listed.size with h' | h'
        · simp [h'] at this ⊢; exact this
        · simp [Array.getElem?_eq_none h'] at this
      have hnr : reachB ops ops.size j i = false := by
        cases hb : reachB ops ops.size j i with
        | false => rfl
        | true =>
          have := hcl.reach ops.size j i hb (fun o ho e' he' hb' => by
            have : o = oj := Option.some.inj (ho.symm.trans hoj)
            subst this; exact hja e' he' hb')
          rw [hiu] at this; cases this
      have hno : ∀ e' ∈ oj.after, Region.binds .any e' = true → e'.on ≠ i := fun e' he' hb' he => by
        have := hja e' he' hb'
        rw [he, hiu] at this; cases this
      have step := wpOp_putIf hoj (hfree j oj hoj e hju hno) (fun cs b => hsel i oi cs b hi) (fun cs b => hsel j oj cs b hoj) hQ hy (hq.2 j (ready_mono hj e))
      refine wpOp_mono (fun a' w' ⟨k1, k2, k3⟩ => ⟨k2, ?_⟩) step
      refine ih _ _ _ (hcl.set hj) (fun k ok hk hki hku hkn => ?_) (ready_mono hr (Ne.symm e)) k1 (hS j e hnr (by rw [hoj]; rfl) w w' k2 hw) ?_
      · refine hfree k ok hk hki ?_ hkn
        by_cases hjk : j = k
        · subst hjk; exact hju
        · rwa [getD_set_ne true hjk] at hku
      · rw [Array.setIfInBounds_comm _ _ e]
        exact k3
end any

/-- A step of a region that draws: the number of the operation, how it is met (0: it computes; 1: it reads what stood there at the region's start; 2: it keeps what stood there; 3: the rest). -/
structure DStep where
  st : IStep
  ix : Nat
  mode : Nat
  deriving Inhabited

def thenL (K : St → AHeap → Prop) (d : Option Nat) (s : St) (H : AHeap) : Option (AV × AHeap) → Prop
  | some (v, _) => K (putI d s v) H
  | none => False
def thenC0 (P : Program) (K : St → AHeap → Prop) (d : Option Nat) (s : St) (H : AHeap) (args : List AV) : AV → Prop
  | .func f caps => ACallsG P (gl s) f (args ++ caps) H [] fun v H' => K (putI d s v) H'
  | .bound f first caps => ACallsG P (gl s) f (first ++ (args ++ caps)) H [] fun v H' => K (putI d s v) H'
  | _ => False
theorem thenC0_spec {P : Program} {K : St → AHeap → Prop} {d : Option Nat} {s : St} {H : AHeap} {args : List AV} {fv : AV} (h : thenC0 P K d s H args fv) :
    ∃ c all, calleeOf args fv = some (c, all) ∧ ACallsG P (gl s) c all H [] (fun v H' => K (putI d s v) H') := by
  unfold thenC0 at h
  split at h
  · exact ⟨_, _, rfl, h⟩
  · exact ⟨_, _, rfl, h⟩
  · exact h.elim

def iopD (P : Program) (H0 : AHeap) (mode : Nat) (d : Option Nat) (o : IOp) (K : St → AHeap → Prop) (s : St) (H : AHeap) : Prop :=
  match o with
  | .pure p => thenP K d s H (ipure p s)
  | .eff e => match mode with
    | 1 => thenL K d s H (ieff e s H0)
    | _ => thenE K d s (ieff e s H)
  | .call f args => match mode with
    | 2 => thenC0 P K d s H (args.map (evo s)) (evo s f)
    | _ => thenC P K d s H (args.map (evo s)) (evo s f)

def istepD (P : Program) (H0 : AHeap) (x : DStep) (K : St → AHeap → Prop) (s : St) (H : AHeap) : Prop :=
  match x.st.guard with
  | none => iopD P H0 x.mode x.st.dst x.st.op K s H
  | some (t, want) => guardP (iopD P H0 x.mode x.st.dst x.st.op K s H) (K (putI x.st.dst s unv) H) want (s t)

def iopsD (P : Program) (H0 : AHeap) : List DStep → (St → AHeap → Prop) → St → AHeap → Prop
  | [], K, s, H => K s H
  | x :: l, K, s, H => istepD P H0 x (iopsD P H0 l K) s H

def isLoadOp : Op → Bool
  | .load _ _ => true
  | _ => false
theorem _root_.Go.Vh.RMap.le.le_trans' {ρ ρ' ρ'' : RMap} (h : ρ.le ρ') (h' : ρ'.le ρ'') : ρ.le ρ'' := RMap.le_trans h h'
theorem isLoadOp_spec {o : Op} (h : isLoadOp o = true) : ∃ t x, o = .load t x := by
  cases o <;> simp [isLoadOp] at h
  exact ⟨_, _, rfl⟩
def IOp.isPure : IOp → Bool
  | .pure _ => true
  | _ => false
def IOp.keeps : IOp → Bool
  | .pure _ => true
  | .eff e => e.safe
  | .call _ _ => true

/-- May the steps come so? 'early': nothing of mode 3 has come yet. -/
def goOK (ops : Array Oper) : List DStep → Array Bool → Bool → Bool
  | [], listed, _ => (Region.ready .any ops listed).isEmpty
  | x :: l, listed, early =>
    (match ops[x.ix]? with
      | some o => (match x.mode with
        | 0 => x.st.op.isPure && Region.free .any ops listed x.ix && (Region.ready .any ops listed).contains x.ix
        | 1 => isLoadOp o.op && early && Region.free .any ops listed x.ix && (Region.ready .any ops listed).contains x.ix
        | 2 => x.st.op.keeps && (Region.ready .any ops listed == [x.ix])
        | _ => Region.ready .any ops listed == [x.ix])
      | none => false) &&
    goOK ops l (listed.setIfInBounds x.ix true) (early && x.mode < 3)

/-- Those of mode 3. -/
def lateOf (L : List DStep) : List Nat := (L.filter fun x => 2 < x.mode).map (·.ix)
def loadsOf (L : List DStep) : List Nat := (L.filter fun x => x.mode == 1).map (·.ix)

/-- Each of mode 3 waits for each read. -/
def lateOK (ops : Array Oper) (L : List DStep) : Bool :=
  (lateOf L).all fun j => (loadsOf L).all fun k => reachB ops ops.size j k

def drawOK (ops : Array Oper) (L : List DStep) : Bool :=
  L.length == ops.size && (L.all fun x => (lateOf L).contains x.ix == decide (2 < x.mode)) && Region.noSelect ops && goOK ops L (Array.replicate ops.size false) true && lateOK ops L

section draw
variable {P : Program} {w0 : World} {ex : Nat → Prop} {N : Nat} {R0 : RMap}

/-- Every block that stood in wS is as it was. -/
def Old (wS w : World) : Prop := wS.heap.size ≤ w.heap.size ∧ ∀ k, k < wS.heap.size → w.heap[k]? = wS.heap[k]?

theorem Old.refl (w : World) : Old w w := ⟨Nat.le_refl _, fun _ _ => rfl⟩
theorem Old.step {wS w w' : World} (h : Old wS w) (hs : w.heap.size ≤ w'.heap.size) (hk : ∀ k, k < w.heap.size → w'.heap[k]? = w.heap[k]?) : Old wS w' :=
  ⟨Nat.le_trans h.1 hs, fun k hlt => (hk k (Nat.lt_of_lt_of_le hlt h.1)).trans (h.2 k hlt)⟩

/-- A read of what stood there gives the same in every world that has kept it. -/
theorem load_stable {ρ0 ρ : RMap} {H0 H' : AHeap} {wS : World} {s : St} {a : Act} {v : AV} {dst : Option Nat} {ty : TypeId} {pos : String} {af : Array Edge} {g : Option (Nat × Bool)} {t : TypeId} {x : Operand} {e : EOp}
    (inv : Inv w0 ex ρ0 H0 wS) (hle : ρ0.le ρ) (hs : SRel ρ s a) (hc : effOf P (.load t x) = some e) (h : ieff e s H0 = some (v, H')) :
    ∃ v', VRel ρ v v' ∧ ∀ w, Old wS w → (execOp a.eval ⟨dst, .load t x, ty, pos, af, g⟩).run P w = .ok (.value v') w := by
  simp only [effOf, Option.bind_eq_bind, Option.bind_eq_some_iff] at hc
  obtain ⟨x', hx', hc⟩ := hc
  have rx := evo_rel hs hx'
  have same : ∀ {r y}, ρ r = some y → ∀ row, rowAt H0 r = some row → ρ0 r = some y := fun {r y} hy row hr => by
    obtain ⟨z, hz⟩ := inv.sim.has r row hr
    have := hle _ _ hz
    rw [hy] at this; rw [hz]; exact this.symm
  have keep : ∀ w, Old wS w → ∀ {ad : Addr} {u : Value}, wS.cell? ad = some u → w.cell? ad = some u := fun w hw {ad u} hu => by
    have hlt := World.block_lt_of_cell? (w := wS) (a := ad) (u := u) hu
    rw [World.cell?_of_block (w := wS) (hw.2 ad.block hlt)]; exact hu
  split at hc
  · rename_i d n hd hn
    simp only [Option.some.injEq] at hc; subst hc
    split at h
    · rename_i hagg
      simp only [ieff] at h
      split at h
      · rename_i r off e; rw [e] at rx
        simp only [Option.map_eq_some_iff, Prod.mk.injEq] at h
        obtain ⟨l, hl, rfl, rfl⟩ := h
        obtain ⟨y, hy, hv⟩ := rx.ptr_inv
        obtain ⟨row, hr, hle', rfl⟩ := cellsAt_spec hl
        obtain ⟨vs, k1, k2, k3, k4⟩ := inv.sim.read hr (same hy row hr) hle'
        refine ⟨.agg vs.toArray, .agg _ _ (by simpa using k2.mono hle), fun w hw => ?_⟩
        have hl := run_loadCells_list (P := P) w ⟨y.b, y.d + off, none⟩ vs (fun j u hj => keep w hw (k4 j u hj))
        rw [k1] at hl
        simp [execOp, hv, Instr.loadAt, Instr.sureAddr, loadVar, run_isAgg hd, hagg, run_size hn, hl]
      · cases h
    · rename_i hagg
      simp only [ieff] at h
      split at h
      · rename_i r off e; rw [e] at rx
        simp only [Option.map_eq_some_iff, Option.bind_eq_some_iff, Prod.mk.injEq] at h
        obtain ⟨c, ⟨row, hr, hcell⟩, rfl, rfl⟩ := h
        obtain ⟨y, hy, hv⟩ := rx.ptr_inv
        obtain ⟨_, u, hu, hru⟩ := inv.sim.cells r row y hr (same hy row hr) off c hcell
        refine ⟨u, hru.mono hle, fun w hw => ?_⟩
        have hu' := keep w hw hu
        simp [execOp, hv, Instr.loadAt, Instr.sureAddr, loadVar, run_isAgg hd, hagg, run_load, hu']
      · cases h
  · cases hc

/-- No way out by a panic. -/
def NoP (Q : Exit → Act → World → Prop) : Exit → Act → World → Prop
  | .panic _, _, _ => False
  | e, a, w => Q e a w


/-- The step is that of its operation. -/
def Fits (P : Program) (N : Nat) (ops : Array Oper) (x : DStep) : Prop := ∃ o, ops[x.ix]? = some o ∧ stepOf P N ops o = some x.st

theorem stepOf_spec {ops : Array Oper} {o : Oper} {st : IStep} (h : stepOf P N ops o = some st) : opOf P o.op = some st.op ∧ st.dst = o.dst ∧ o.dst.all (· < N) = true ∧
    ((o.guard = none ∧ st.guard = none) ∨ ∃ j want t, o.guard = some (j, want) ∧ (ops[j]?).bind (·.dst) = some t ∧ t < N ∧ st.guard = some (t, want)) := by
  unfold stepOf at h
  split at h
  · rename_i op hop
    split at h
    · rename_i hd
      split at h
      · rename_i hg
        simp only [Option.some.injEq] at h; subst h
        exact ⟨hop, rfl, hd, .inl ⟨hg, rfl⟩⟩
      · rename_i j want hg
        split at h
        · rename_i t hj
          split at h
          · rename_i ht
            simp only [Option.some.injEq] at h; subst h
            exact ⟨hop, rfl, hd, .inr ⟨j, want, t, hg, hj, ht, rfl⟩⟩
          · cases h
        · cases h
    · cases h
  · cases h

/-- What a guard says. -/
theorem guard_cases {ρ : RMap} {s : St} {H : AHeap} {a : Act} {w : World} (rel : Rel w0 ex N R0 ρ s H a w) {ops : Array Oper} {o : Oper} {st : IStep} (hst : stepOf P N ops o = some st) {A B : Prop}
    (h : match st.guard with | none => A | some (t, want) => guardP A B want (s t)) : (Region.wanted o (yielded ops a.tmps) = true ∧ A) ∨ (Region.wanted o (yielded ops a.tmps) = false ∧ B) := by
  obtain ⟨_, _, _, h4⟩ := stepOf_spec hst
  rcases h4 with ⟨g1, g2⟩ | ⟨j, want, t, g1, g2, g3, g4⟩
  · rw [g2] at h
    exact .inl ⟨by simp [Region.wanted, g1], h⟩
  · rw [g4] at h
    obtain ⟨w1, w2⟩ := wanted_of rel g1 g2 g3
    simp only at h
    unfold guardP at h
    split at h
    · rename_i b hb
      rw [w1 b hb]
      split at h
      · rename_i e; subst e; exact .inl ⟨by simp, h⟩
      · rename_i e; exact .inr ⟨by simpa using e, h⟩
    · rename_i vs hb
      rw [w2 vs hb]; exact .inr ⟨rfl, h⟩
    · exact h.elim

/-- What an operation does to the old blocks. -/
def Phi (L : List DStep) : Nat → World → World → Prop := fun j w w' => j ∉ lateOf L → Old w w'

/-- What computes or reads is taken first. -/
theorem soft_sound {ρ0 ρ : RMap} {H0 : AHeap} {wS : World} {ops : Array Oper} {L : List DStep} {x : DStep} {s : St} {H : AHeap} {a : Act} {w : World} {K : St → AHeap → Prop} {Q : Exit → Act → World → Prop} {n : Nat} {listed : Array Bool}
    (inv0 : Inv w0 ex ρ0 H0 wS) (hle : ρ0.le ρ) (rel : Rel w0 ex N R0 ρ s H a w) (hf : Fits P N ops x) (h : istepD P H0 x K s H)
    (hm : (x.mode = 0 ∧ x.st.op.isPure = true) ∨ (x.mode = 1 ∧ (∀ o, ops[x.ix]? = some o → isLoadOp o.op = true) ∧ Old wS w ∧ ∀ j ∈ lateOf L, reachB ops ops.size j x.ix = true))
    (hns : Region.noSelect ops = true) (hfree : Region.free .any ops listed x.ix = true) (hr : (Region.ready .any ops listed).contains x.ix = true) (hcl : Closed ops listed)
    (hK : ∀ s' a' ρ', K s' H → Rel w0 ex N R0 ρ' s' H a' w → ρ.le ρ' → wpAnyS P ops (NoP Q) (Phi L) n (listed.setIfInBounds x.ix true) a' w) :
    wpAnyS P ops (NoP Q) (Phi L) (n + 1) listed a w := by
  obtain ⟨o, ho, hst⟩ := hf
  obtain ⟨hop, hdst, hd, _⟩ := stepOf_spec hst
  have fin : ∀ (S : World → Prop) (v : AV) (v' : Value), VRel ρ v v' → YieldsIf P ops S o v' a → S w → (∀ j, j ≠ x.ix → reachB ops ops.size j x.ix = false → (ops[j]?).isSome = true → ∀ w w', Phi L j w w' → S w → S w') → K (putI x.st.dst s v) H →
      wpAnyS P ops (NoP Q) (Phi L) (n + 1) listed a w := fun S v v' hv hy hS hj hk => by
    refine anyS_first ho (Region.noSelect_spec hns) (fun _ _ _ h => h) hj (fun w _ => Old.refl w) n listed a w hcl (Region.free_spec ho hfree) (by simpa using hr) hy hS ?_
    rw [hdst] at hk
    exact hK _ _ ρ hk (rel.put (RMap.le_refl _) rel.inv hd hv) (RMap.le_refl _)
  unfold istepD at h
  rcases guard_cases rel hst h with ⟨hw, hA⟩ | ⟨hw, hB⟩
  · rcases hm with ⟨h0, hp⟩ | ⟨h1, hl, hold, hlate⟩
    · cases hq : x.st.op with
      | pure p =>
        rw [hq] at hA hop
        simp only [iopD] at hA
        cases hv : ipure p s with
        | none => rw [hv] at hA; exact hA.elim
        | some v =>
          rw [hv] at hA
          obtain ⟨v', k1, k2⟩ := gives_of_op rel.tmps hop hv
          exact fin (fun _ => True) v v' k1 (.inl ⟨hw, fun w _ => k2 w⟩) trivial (fun _ _ _ _ _ _ _ _ => trivial) hA
      | eff e => rw [hq] at hp; simp [IOp.isPure] at hp
      | call f l => rw [hq] at hp; simp [IOp.isPure] at hp
    · have hlo := hl o ho
      obtain ⟨dst, op, ty, pos, af, g⟩ := o
      simp only at hop hlo
      obtain ⟨t, y, rfl⟩ := isLoadOp_spec hlo
      have hop' : ∃ e, effOf P (.load t y) = some e ∧ x.st.op = .eff e := by
        simp only [opOf] at hop
        have hp : pureOf P (.load t y) = none := rfl
        rw [hp] at hop
        simp only at hop
        split at hop
        · rename_i e he
          simp only [Option.some.injEq] at hop
          exact ⟨e, he, hop.symm⟩
        · simp only [Option.some.injEq] at hop
          rw [← hop] at hA
          simp only [iopD, ipure, thenP] at hA
      obtain ⟨e, he, hxe⟩ := hop'
      rw [hxe, h1] at hA
      simp only [iopD] at hA
      cases hv : ieff e s H0 with
      | none => rw [hv] at hA; exact hA.elim
      | some r =>
        obtain ⟨v, H1⟩ := r
        rw [hv] at hA
        obtain ⟨v', k1, k2⟩ := load_stable (dst := dst) (ty := ty) (pos := pos) (af := af) (g := g) inv0 hle rel.tmps he hv
        refine fin (Old wS) v v' k1 (.inl ⟨hw, k2⟩) hold (fun j hj hnr _ u u' hu hS => ?_) hA
        have hnl : j ∉ lateOf L := fun hjl => by rw [hlate j hjl] at hnr; cases hnr
        have := hu hnl
        exact hS.step this.1 this.2
  · have hS : wpAnyS P ops (NoP Q) (Phi L) (n + 1) listed a w :=
      fin (fun _ => True) unv undef (.lit _) (.inr ⟨hw, rfl⟩) trivial (fun _ _ _ _ _ _ _ _ => trivial) hB
    exact hS

/-- What comes alone, or among others. -/
theorem hard_op {ρ : RMap} {H0 : AHeap} {ops : Array Oper} {L : List DStep} {x : DStep} {s : St} {H : AHeap} {a : Act} {w : World} {K : St → AHeap → Prop} {Q : Exit → Act → World → Prop} {n : Nat} {listed : Array Bool}
    (rel : Rel w0 ex N R0 ρ s H a w) (hf : Fits P N ops x) (h : istepD P H0 x K s H) (hm1 : x.mode ≠ 1) (hkeep : x.ix ∉ lateOf L → x.mode = 2 ∧ x.st.op.keeps = true)
    (hK : ∀ s' H' a' w' ρ', K s' H' → Rel w0 ex N R0 ρ' s' H' a' w' → ρ.le ρ' → (x.ix ∉ lateOf L → Old w w') → wpAnyS P ops (NoP Q) (Phi L) n (listed.setIfInBounds x.ix true) a' w') :
    wpOp P ops (NoP Q) x.ix (fun a' w' => Phi L x.ix w w' ∧ wpAnyS P ops (NoP Q) (Phi L) n (listed.setIfInBounds x.ix true) a' w') a w := by
  obtain ⟨o, ho, hst⟩ := hf
  obtain ⟨hop, hdst, hd, _⟩ := stepOf_spec hst
  unfold wpOp
  simp only [ho]
  unfold istepD at h
  rcases guard_cases rel hst h with ⟨hw, hA⟩ | ⟨hw, hB⟩
  · rw [if_pos hw]
    refine .inl ?_
    have put : ∀ {ρ' s' H' w' v v'}, ρ.le ρ' → s' = putI x.st.dst s v → K s' H' → VRel ρ' v v' → Inv w0 ex ρ' H' w' → (x.ix ∉ lateOf L → Old w w') →
        Phi L x.ix w w' ∧ wpAnyS P ops (NoP Q) (Phi L) n (listed.setIfInBounds x.ix true) (a.put o.dst v') w' := fun {ρ' s' H' w' v v'} hl hs hk hv hi ho => by
      refine ⟨ho, hK s' H' _ _ ρ' hk ?_ hl ho⟩
      rw [hs, hdst]
      exact rel.put hl hi hd hv
    unfold Oper.wp
    cases hq : x.st.op with
    | pure p =>
      rw [hq] at hA hop
      simp only [iopD] at hA
      cases hv : ipure p s with
      | none => rw [hv] at hA; exact hA.elim
      | some v =>
        rw [hv] at hA
        obtain ⟨v', k1, k2⟩ := gives_of_op rel.tmps hop hv
        rw [k2 w]
        exact put (RMap.le_refl _) rfl hA k1 rel.inv (fun _ => Old.refl w)
    | eff e =>
      rw [hq] at hA hop hkeep
      have hA' : thenE K x.st.dst s (ieff e s H) := by
        simp only [iopD] at hA
        exact hA
      cases hv : ieff e s H with
      | none => rw [hv] at hA'; exact hA'.elim
      | some r =>
        obtain ⟨v, H'⟩ := r
        rw [hv] at hA'
        obtain ⟨v', w', ρ', h1, h2, h3, h4, h5, h6⟩ := does_of_op rel.inv rel.tmps hop hv
        have hold : x.ix ∉ lateOf L → Old w w' := fun hx => ⟨h5, h6 (hkeep hx).2⟩
        rcases h1 with h1 | ⟨h1, rfl⟩
        · rw [h1]; exact put h2 rfl hA' h3 h4 hold
        · rw [h1]; exact put h2 rfl hA' h3 h4 hold
    | call f args =>
      rw [hq] at hA hop hkeep
      have hcall : ∃ c all W, calleeOf (args.map (evo s)) (evo s f) = some (c, all) ∧ ACallsG P (gl s) c all H W (fun v H' => K (putI x.st.dst s v) H') ∧ (x.ix ∉ lateOf L → W = []) := by
        simp only [iopD] at hA
        split at hA
        · obtain ⟨c, all, h1, h2⟩ := thenC0_spec hA
          exact ⟨c, all, [], h1, h2, fun _ => rfl⟩
        · rename_i hne
          obtain ⟨c, all, W, h1, h2⟩ := thenC_spec hA
          exact ⟨c, all, W, h1, h2, fun hx => absurd (hkeep hx).1 hne⟩
      obtain ⟨c, all, W, hc, hAc, hW⟩ := hcall
      obtain ⟨dst, op', ty, pos, af, g⟩ := o
      simp only at hop hd hdst
      obtain ⟨F, A, T, ho', hF, hA2⟩ : ∃ F A T, op' = .call ⟨.value F, A, T⟩ ∧ Opd.of F = some f ∧ opds A.toList = some args := opOf_call hop
      have rf := evo_rel rel.tmps hF
      obtain ⟨fs, cs, vs, hcs, hrel, hvs⟩ := callee_rel rf hc (opds_rel rel.tmps hA2)
      rw [run_call (o := ⟨dst, op', ty, pos, af, g⟩) ho' hcs hAc.ent w]
      have hcall := rel.inv.call hAc hrel rel.glob
      rw [hvs] at hcall
      simp only [Oper.upon]
      refine hcall.mono fun e w' ⟨v, v', ρ', H', h1, h2, h3, h4, h5, h6⟩ => ?_
      subst h1
      refine put h3 rfl h2 h4 h5 fun hx => ⟨h6.size, fun k hk => h6.block k hk fun hex => ?_⟩
      rw [hW hx] at hex
      obtain ⟨_, _, _, hmem, _⟩ := hex
      cases hmem
  · rw [if_neg (by simp [hw])]
    refine ⟨fun _ => Old.refl w, hK _ _ _ _ ρ hB ?_ (RMap.le_refl _) (fun _ => Old.refl w)⟩
    rw [hdst]
    exact rel.put (RMap.le_refl _) rel.inv hd (.lit _)

theorem hard_sound {ρ : RMap} {H0 : AHeap} {ops : Array Oper} {L : List DStep} {x : DStep} {s : St} {H : AHeap} {a : Act} {w : World} {K : St → AHeap → Prop} {Q : Exit → Act → World → Prop} {n : Nat} {listed : Array Bool}
    (rel : Rel w0 ex N R0 ρ s H a w) (hf : Fits P N ops x) (h : istepD P H0 x K s H) (hm1 : x.mode ≠ 1) (hkeep : x.ix ∉ lateOf L → x.mode = 2 ∧ x.st.op.keeps = true) (hr : Region.ready .any ops listed = [x.ix])
    (hK : ∀ s' H' a' w' ρ', K s' H' → Rel w0 ex N R0 ρ' s' H' a' w' → ρ.le ρ' → (x.ix ∉ lateOf L → Old w w') → wpAnyS P ops (NoP Q) (Phi L) n (listed.setIfInBounds x.ix true) a' w') :
    wpAnyS P ops (NoP Q) (Phi L) (n + 1) listed a w := by
  refine ⟨fun h0 => (by rw [h0] at hr; cases hr), fun i hi => ?_⟩
  rw [hr, List.mem_singleton] at hi
  subst hi
  exact hard_op rel hf h hm1 hkeep hK

/-- The steps of a region that draws, all of them. -/
theorem dops_sound {ρ0 : RMap} {H0 : AHeap} {wS : World} {ops : Array Oper} {L : List DStep} {K : St → AHeap → Prop} {Q : Exit → Act → World → Prop}
    (inv0 : Inv w0 ex ρ0 H0 wS) (hns : Region.noSelect ops = true) (hlate : lateOK ops L = true) (hK : ∀ s' H' ρ' a' w', K s' H' → Rel w0 ex N R0 ρ' s' H' a' w' → Q .normal a' w') :
    ∀ (l : List DStep) (listed : Array Bool) (early : Bool), (∀ x ∈ l, x ∈ L ∧ Fits P N ops x) → (∀ x ∈ l, (x.ix ∈ lateOf L ↔ 2 < x.mode)) → goOK ops l listed early = true → Closed ops listed →
      ∀ (s : St) (H : AHeap) (ρ : RMap) (a : Act) (w : World), iopsD P H0 l K s H → Rel w0 ex N R0 ρ s H a w → ρ0.le ρ → (early = true → Old wS w) → wpAnyS P ops (NoP Q) (Phi L) l.length listed a w
  | [], listed, early, _, _, hgo, _, s, H, ρ, a, w, h, rel, _, _ => by
    simp only [goOK, List.isEmpty_iff] at hgo
    exact ⟨hgo, hK _ _ _ _ _ h rel⟩
  | x :: l, listed, early, hmem, hmode, hgo, hcl, s, H, ρ, a, w, h, rel, hle, hold => by
    obtain ⟨hxL, hfit⟩ := hmem x (by simp)
    have hxm := hmode x (by simp)
    simp only [goOK, Bool.and_eq_true] at hgo
    obtain ⟨hx, hgo⟩ := hgo
    obtain ⟨o, ho, hst⟩ := hfit
    rw [ho] at hx
    simp only at hx
    have hready : x.ix ∈ Region.ready .any ops listed := by
      split at hx
      · simp only [Bool.and_eq_true] at hx; simpa using hx.2
      · simp only [Bool.and_eq_true] at hx; simpa using hx.2
      · simp only [Bool.and_eq_true, beq_iff_eq] at hx; rw [hx.2]; simp
      · simp only [beq_iff_eq] at hx; rw [hx]; simp
    have ih := fun s' H' ρ' a' w' h' rel' hle' hold' => dops_sound inv0 hns hlate hK l (listed.setIfInBounds x.ix true) (early && decide (x.mode < 3)) (fun y hy => hmem y (by simp [hy])) (fun y hy => hmode y (by simp [hy])) hgo (hcl.set hready) s' H' ρ' a' w' h' rel' hle' hold'
    simp only [iopsD] at h
    simp only [List.length_cons]
    split at hx
    · rename_i hm
      simp only [Bool.and_eq_true] at hx
      exact soft_sound inv0 hle rel ⟨o, ho, hst⟩ h (.inl ⟨hm, hx.1.1⟩) hns hx.1.2 hx.2 hcl fun s' a' ρ' k1 k2 k3 => ih _ _ ρ' _ _ k1 k2 (hle.le_trans' k3) (fun he => hold (by simp at he; exact he.1))
    · rename_i hm
      simp only [Bool.and_eq_true] at hx
      have hlt : ∀ j ∈ lateOf L, reachB ops ops.size j x.ix = true := fun j hj => by
        have h1 := (List.all_eq_true.1 hlate) j hj
        refine (List.all_eq_true.1 h1) x.ix ?_
        simp only [loadsOf, List.mem_map, List.mem_filter, beq_iff_eq]
        exact ⟨x, ⟨hxL, hm⟩, rfl⟩
      exact soft_sound inv0 hle rel ⟨o, ho, hst⟩ h (.inr ⟨hm, fun o' ho' => (by
          have : o' = o := Option.some.inj (ho'.symm.trans ho)
          subst this; exact hx.1.1.1), hold hx.1.1.2, hlt⟩) hns hx.1.2 hx.2 hcl fun s' a' ρ' k1 k2 k3 => ih _ _ ρ' _ _ k1 k2 (hle.le_trans' k3) (fun he => hold (by simp at he; exact he.1))
    · rename_i hm
      simp only [Bool.and_eq_true, beq_iff_eq] at hx
      refine hard_sound rel ⟨o, ho, hst⟩ h (by omega) (fun _ => ⟨hm, hx.1⟩) hx.2 fun s' H' a' w' ρ' k1 k2 k3 k4 => ih _ _ ρ' _ _ k1 k2 (hle.le_trans' k3) (fun he => ?_)
      have hnl : x.ix ∉ lateOf L := fun hl => by have := hxm.1 hl; omega
      have := k4 hnl
      exact (hold (by simp at he; exact he.1)).step this.1 this.2
    · rename_i hm0 hm1 hm2
      simp only [beq_iff_eq] at hx
      have h3 : 2 < x.mode := by
        have e0 : x.mode ≠ 0 := hm0
        have e1 : x.mode ≠ 1 := hm1
        have e2 : x.mode ≠ 2 := hm2
        omega
      refine hard_sound rel ⟨o, ho, hst⟩ h (by omega) (fun hl => absurd (hxm.2 h3) hl) hx fun s' H' a' w' ρ' k1 k2 k3 _ => ih _ _ ρ' _ _ k1 k2 (hle.le_trans' k3) (fun he => ?_)
      simp at he; omega

/-! ### All orders of what may come in more than one -/
/-- 'soft': taken first · 'alt': one of those that may come, the others behind. -/
inductive DTree where
  | done
  | soft (x : DStep) (t : DTree)
  | alt (x : DStep) (t rest : DTree)
  | none
  deriving Inhabited

def iopsT (P : Program) (H0 : AHeap) : DTree → (St → AHeap → Prop) → St → AHeap → Prop
  | .done, K, s, H => K s H
  | .soft x t, K, s, H => istepD P H0 x (iopsT P H0 t K) s H
  | .alt x t .none, K, s, H => istepD P H0 x (iopsT P H0 t K) s H
  | .alt x t rest, K, s, H => istepD P H0 x (iopsT P H0 t K) s H ∧ iopsT P H0 rest K s H
  | .none, _, _, _ => True

def DTree.steps : DTree → List DStep
  | .done | .none => []
  | .soft x t => x :: t.steps
  | .alt x t rest => x :: (t.steps ++ rest.steps)

/-- 'todo': what of those that may come is not yet there. -/
def treeOK (ops : Array Oper) : DTree → Nat → Array Bool → Bool → Option (List Nat) → Bool
  | .done, n, listed, _, none => n == 0 && (Region.ready .any ops listed).isEmpty
  | .soft x t, n + 1, listed, early, none =>
    (match ops[x.ix]? with
      | some o => (match x.mode with
        | 0 => x.st.op.isPure && Region.free .any ops listed x.ix && (Region.ready .any ops listed).contains x.ix
        | 1 => isLoadOp o.op && early && Region.free .any ops listed x.ix && (Region.ready .any ops listed).contains x.ix
        | _ => false)
      | none => false) && treeOK ops t n (listed.setIfInBounds x.ix true) early none
  | .alt x t rest, n + 1, listed, early, td =>
    let todo := td.getD (Region.ready .any ops listed)
    (!(Region.ready .any ops listed).isEmpty && todo.head? == some x.ix && (Region.ready .any ops listed).contains x.ix && (match x.mode with | 0 | 1 => false | 2 => x.st.op.keeps | _ => true)) &&
      treeOK ops t n (listed.setIfInBounds x.ix true) (early && x.mode < 3) none && treeOK ops rest (n + 1) listed early (some todo.tail)
  | .none, _, _, _, some [] => true
  | _, _, _, _, _ => false

def drawOKT (ops : Array Oper) (T : DTree) : Bool :=
  (T.steps.all fun x => (lateOf T.steps).contains x.ix == decide (2 < x.mode)) && Region.noSelect ops && treeOK ops T ops.size (Array.replicate ops.size false) true none && lateOK ops T.steps

theorem iopsT_alt {H0 : AHeap} {x : DStep} {t rest : DTree} {K : St → AHeap → Prop} {s : St} {H : AHeap} (h : iopsT P H0 (.alt x t rest) K s H) : istepD P H0 x (iopsT P H0 t K) s H ∧ (rest = .none ∨ iopsT P H0 rest K s H) := by
  cases rest with
  | none => exact ⟨h, .inl rfl⟩
  | done => exact ⟨h.1, .inr h.2⟩
  | soft => exact ⟨h.1, .inr h.2⟩
  | alt => exact ⟨h.1, .inr h.2⟩

/-- The steps of a region that draws, in all orders. -/
theorem tops_sound {ρ0 : RMap} {H0 : AHeap} {wS : World} {ops : Array Oper} {L : List DStep} {K : St → AHeap → Prop} {Q : Exit → Act → World → Prop}
    (inv0 : Inv w0 ex ρ0 H0 wS) (hns : Region.noSelect ops = true) (hlate : lateOK ops L = true) (hK : ∀ s' H' ρ' a' w', K s' H' → Rel w0 ex N R0 ρ' s' H' a' w' → Q .normal a' w') :
    ∀ (T : DTree) (n : Nat) (listed : Array Bool) (early : Bool) (td : Option (List Nat)), (∀ x ∈ T.steps, x ∈ L ∧ Fits P N ops x) → (∀ x ∈ T.steps, (x.ix ∈ lateOf L ↔ 2 < x.mode)) → treeOK ops T n listed early td = true → Closed ops listed →
      ∀ (s : St) (H : AHeap) (ρ : RMap) (a : Act) (w : World), (T = .none ∨ iopsT P H0 T K s H) → Rel w0 ex N R0 ρ s H a w → ρ0.le ρ → (early = true → Old wS w) →
        match td with
        | none => wpAnyS P ops (NoP Q) (Phi L) n listed a w
        | some todo => ∀ i ∈ todo, ∀ m, n = m + 1 → wpOp P ops (NoP Q) i (fun a' w' => Phi L i w w' ∧ wpAnyS P ops (NoP Q) (Phi L) m (listed.setIfInBounds i true) a' w') a w := by
  intro T
  induction T with
  | done =>
    intro n listed early td _ _ hok _ s H ρ a w h rel _ _
    cases td with
    | some l => simp [treeOK] at hok
    | none =>
      simp only [treeOK, Bool.and_eq_true, beq_iff_eq, List.isEmpty_iff] at hok
      obtain ⟨rfl, hr⟩ := hok
      rcases h with h | h
      · cases h
      · exact ⟨hr, hK _ _ _ _ _ h rel⟩
  | none =>
    intro n listed early td _ _ hok _ s H ρ a w h rel _ _
    cases td with
    | none => simp [treeOK] at hok
    | some l =>
      cases l with
      | nil => intro i hi; cases hi
      | cons => simp [treeOK] at hok
  | soft x t iht =>
    intro n listed early td hmem hmode hok hcl s H ρ a w h rel hle hold
    cases td with
    | some l => cases n <;> simp [treeOK] at hok
    | none =>
      cases n with
      | zero => simp [treeOK] at hok
      | succ n =>
        obtain ⟨hxL, hfit⟩ := hmem x (by simp [DTree.steps])
        simp only [treeOK, Bool.and_eq_true] at hok
        obtain ⟨hx, hgo⟩ := hok
        obtain ⟨o, ho, hst⟩ := hfit
        rw [ho] at hx
        simp only at hx
        have h : iopsT P H0 (.soft x t) K s H := by rcases h with h | h; cases h; exact h
        have hready : x.ix ∈ Region.ready .any ops listed := by
          split at hx
          · simp only [Bool.and_eq_true] at hx; simpa using hx.2
          · simp only [Bool.and_eq_true] at hx; simpa using hx.2
          · cases hx
        have ih := fun s' a' ρ' w' h' rel' hle' hold' => iht n (listed.setIfInBounds x.ix true) early none (fun y hy => hmem y (by simp [DTree.steps, hy])) (fun y hy => hmode y (by simp [DTree.steps, hy])) hgo (hcl.set hready) s' H ρ' a' w' (.inr h') rel' hle' hold'
        simp only [iopsT] at h
        split at hx
        · rename_i hm
          simp only [Bool.and_eq_true] at hx
          exact soft_sound inv0 hle rel ⟨o, ho, hst⟩ h (.inl ⟨hm, hx.1.1⟩) hns hx.1.2 hx.2 hcl fun s' a' ρ' k1 k2 k3 => ih _ _ ρ' _ k1 k2 (hle.le_trans' k3) hold
        · rename_i hm
          simp only [Bool.and_eq_true] at hx
          have hlt : ∀ j ∈ lateOf L, reachB ops ops.size j x.ix = true := fun j hj => by
            have h1 := (List.all_eq_true.1 hlate) j hj
            refine (List.all_eq_true.1 h1) x.ix ?_
            simp only [loadsOf, List.mem_map, List.mem_filter, beq_iff_eq]
            exact ⟨x, ⟨hxL, hm⟩, rfl⟩
          exact soft_sound inv0 hle rel ⟨o, ho, hst⟩ h (.inr ⟨hm, fun o' ho' => (by
              have : o' = o := Option.some.inj (ho'.symm.trans ho)
              subst this; exact hx.1.1.1), hold hx.1.1.2, hlt⟩) hns hx.1.2 hx.2 hcl fun s' a' ρ' k1 k2 k3 => ih _ _ ρ' _ k1 k2 (hle.le_trans' k3) hold
        · cases hx
  | alt x t rest iht ihr =>
    intro n listed early td hmem hmode hok hcl s H ρ a w h rel hle hold
    cases n with
    | zero => cases td <;> simp [treeOK] at hok
    | succ n =>
      obtain ⟨hxL, hfit⟩ := hmem x (by simp [DTree.steps])
      have hxm := hmode x (by simp [DTree.steps])
      have h : iopsT P H0 (.alt x t rest) K s H := by rcases h with h | h; cases h; exact h
      obtain ⟨h1, h2⟩ := iopsT_alt h
      simp only [treeOK, Bool.and_eq_true, Bool.not_eq_true', List.isEmpty_eq_false_iff, beq_iff_eq] at hok
      obtain ⟨⟨⟨⟨⟨hne, hhead⟩, hin⟩, hm⟩, hgo⟩, hgr⟩ := hok
      have hready : x.ix ∈ Region.ready .any ops listed := by simpa using hin
      have hm' : x.mode ≠ 1 ∧ (x.ix ∉ lateOf L → x.mode = 2 ∧ x.st.op.keeps = true) ∧ x.mode ≠ 0 := by
        split at hm
        · cases hm
        · cases hm
        · rename_i e; exact ⟨by omega, fun _ => ⟨e, hm⟩, by omega⟩
        · rename_i e0 e1 e2
          have e0 : x.mode ≠ 0 := e0
          have e1 : x.mode ≠ 1 := e1
          have e2 : x.mode ≠ 2 := e2
          exact ⟨e1, fun hl => absurd (hxm.2 (by omega)) hl, e0⟩
      have first : wpOp P ops (NoP Q) x.ix (fun a' w' => Phi L x.ix w w' ∧ wpAnyS P ops (NoP Q) (Phi L) n (listed.setIfInBounds x.ix true) a' w') a w := by
        refine hard_op rel hfit h1 hm'.1 hm'.2.1 fun s' H' a' w' ρ' k1 k2 k3 k4 => ?_
        refine iht n (listed.setIfInBounds x.ix true) (early && decide (x.mode < 3)) none (fun y hy => hmem y (by simp [DTree.steps, hy])) (fun y hy => hmode y (by simp [DTree.steps, hy])) hgo (hcl.set hready) s' H' ρ' a' w' (.inr k1) k2 (hle.le_trans' k3) (fun he => ?_)
        simp only [Bool.and_eq_true, decide_eq_true_eq] at he
        have hnl : x.ix ∉ lateOf L := fun hl => by have := hxm.1 hl; omega
        have := k4 hnl
        exact (hold he.1).step this.1 this.2
      have others : ∀ i ∈ (td.getD (Region.ready .any ops listed)).tail, ∀ m, n + 1 = m + 1 → wpOp P ops (NoP Q) i (fun a' w' => Phi L i w w' ∧ wpAnyS P ops (NoP Q) (Phi L) m (listed.setIfInBounds i true) a' w') a w :=
        ihr (n + 1) listed early (some (td.getD (Region.ready .any ops listed)).tail) (fun y hy => hmem y (by simp [DTree.steps, hy])) (fun y hy => hmode y (by simp [DTree.steps, hy])) hgr hcl s H ρ a w h2 rel hle hold
      have all : ∀ i ∈ td.getD (Region.ready .any ops listed), wpOp P ops (NoP Q) i (fun a' w' => Phi L i w w' ∧ wpAnyS P ops (NoP Q) (Phi L) n (listed.setIfInBounds i true) a' w') a w := by
        intro i hi
        generalize td.getD (Region.ready .any ops listed) = l at hi hhead others
        cases l with
        | nil => cases hi
        | cons j l =>
          simp only [List.head?_cons, Option.some.injEq] at hhead
          subst hhead
          rcases List.mem_cons.1 hi with rfl | hi
          · exact first
          · exact others i hi n rfl
      cases td with
      | none => exact ⟨fun h0 => (by rw [h0] at hne; exact (hne rfl).elim), fun i hi => all i hi⟩
      | some todo =>
        intro i hi m hm
        obtain rfl : n = m := by omega
        exact all i hi
end draw
end Go.Vh

