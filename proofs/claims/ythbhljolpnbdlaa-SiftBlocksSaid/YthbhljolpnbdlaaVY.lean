/- From a contract to a row: arguments that are slices, of bools among them. -/
import Derived.Test.YthbhljolpnbdlaaVX
set_option linter.unusedSimpArgs false
set_option linter.unusedVariables false
namespace Go.Vh
open Go Go.ChangeShapes Go.WideShapes Go.RowKit Go.ChangeAt Go.Deep

/-- Rows that are only read, with where they lie. -/
structure CRow where
  cs : List AV
  x : Loc

def crows (rs : List CRow) : AHeap := rs.map fun r => ro r.cs
def clocs (rs : List CRow) : RMap := fun i => (rs[i]?).map (·.x)
def CRow.at (r : CRow) (w : World) : Prop := r.x.n ≠ 0 ∧ ∀ i c, r.cs[i]? = some c → c.cell = true ∧ ∃ v, w.cell? ⟨r.x.b, r.x.d + i, none⟩ = some v ∧ ∀ ρ, VRel ρ c v

theorem crows_at {rs : List CRow} {i : Nat} {row : ARow} (h : Vh.rowAt (crows rs) i = some row) : ∃ r, rs[i]? = some r ∧ row = ⟨false, false, r.cs⟩ := by
  rw [rowAt_some, crows, List.getElem?_map, Option.map_eq_some_iff] at h
  obtain ⟨r, h1, h2⟩ := h
  exact ⟨r, h1, by cases h2; rfl⟩

theorem Sim.crows {rs : List CRow} {w : World} {B : Nat} {ex : Nat → Prop} (h : ∀ r ∈ rs, r.at w) : Sim B ex (clocs rs) (Go.Vh.crows rs) w := by
  refine ⟨fun i hi => ?_, fun i row hi => ?_, fun i row x hi hx j c hc => ?_, fun i row x hi ho => ?_, fun i j a b x y hi _ ho => ?_, fun i row x hi hx hne => ?_⟩
  · simp only [Go.Vh.crows, List.length_map] at hi
    simp [clocs, List.getElem?_eq_none hi]
  · obtain ⟨r, h1, rfl⟩ := crows_at hi
    exact ⟨r.x, by simp [clocs, h1]⟩
  · obtain ⟨r, h1, rfl⟩ := crows_at hi
    have hx' : r.x = x := by simpa [clocs, h1] using hx
    subst hx'
    obtain ⟨_, h3⟩ := h r (List.mem_of_getElem? h1)
    obtain ⟨k1, v, k2, k3⟩ := h3 j c hc
    exact ⟨k1, v, k2, k3 _⟩
  · obtain ⟨r, h1, rfl⟩ := crows_at hi
    cases ho
  · obtain ⟨r, h1, rfl⟩ := crows_at hi
    cases ho
  · obtain ⟨r, h1, rfl⟩ := crows_at hi
    have hx' : r.x = x := by simpa [clocs, h1] using hx
    subst hx'
    exact (h r (List.mem_of_getElem? h1)).1

/-- A call whose arguments reach rows that are only read. -/
theorem ACalls.onRows {P : Program} {f : FuncId} {args : List AV} {rs : List CRow} {W : List Nat} {R : AV → AHeap → Prop} (h : ACalls P f args (crows rs) W R) {w : World} (hrs : ∀ r ∈ rs, r.at w) {vs : List Value} (hv : VRelL (clocs rs) args vs) :
    Calls P f vs.toArray w fun e w' => ∃ v v' ρ' H', e = .returned v' ∧ R v H' ∧ VRel ρ' v v' ∧ Frm w.heap.size (fun _ => False) w w' := by
  refine (h.calls _ w vs (Sim.crows hrs) hv fun _ => .any _).mono fun e w' ⟨v, v', ρ', H', h1, h2, _, h4, _, h6, _⟩ => ⟨v, v', ρ', H', h1, h2, h4, ⟨h6.os, h6.tape, h6.output, h6.size, fun k hk _ => h6.block k hk fun ⟨r, row, x, _, q, ho, _⟩ => ?_⟩⟩
  obtain ⟨_, _, rfl⟩ := crows_at q
  cases ho

section
variable {P : Program} {H : Type} {enc : TypeId × Value → H} {W : World}

end
end Go.Vh


/- Rows of numbers by index; lists of bools; answers that are appended to; flat rows read by a callee. -/
namespace Go.Vh
open Go

/-- n numbers. -/
def nt (n : Nat) (q : Nat → Int) : List AV := (List.range n).map fun i => AV.int .i64 (q i)
section
variable {P : Program} {f : FuncId} {W0 : List Nat} {K : St → AHeap → Prop} {d : Option Nat} {s : St} {H : AHeap} {args caps rest : List AV} {κ κ' : SK} {n n' : Nat} {a b da db : Nat} {ra rb : ARow} {cs cs' : List AV}

end
end Go.Vh


/- Numbers that are appended; rows of a heap by what is known of them; calls whose answers are new; all orders of a region. -/
namespace Go.Vh
open Go
theorem guardP_mono {A A' B B' : Prop} {c : Bool} {v : AV} (h1 : A → A') (h2 : B → B') (h : guardP A B c v) : guardP A' B' c v := by
  unfold guardP at h ⊢
  split at h
  · split at h
    · rename_i hb; simp only [hb, if_true]; exact h1 h
    · rename_i hb; simp only [hb, if_false]; exact h2 h
  · exact h2 h
  · exact h.elim
theorem iopD_mono {P : Program} {H0 : AHeap} {m : Nat} {d : Option Nat} {o : IOp} {K K' : St → AHeap → Prop} (hK : ∀ s H, K s H → K' s H) {s : St} {H : AHeap} (h : iopD P H0 m d o K s H) : iopD P H0 m d o K' s H := by
  cases o with
  | pure p => simp only [iopD] at h ⊢; revert h; cases ipure p s <;> simp only [thenP] <;> first | exact fun h => h.elim | exact hK _ _
  | eff e =>
    simp only [iopD] at h ⊢
    split
    · simp only at h; revert h; cases ieff e s H0 <;> simp only [thenL] <;> first | exact fun h => h.elim | exact hK _ _
    · rename_i hm
      have h' : thenE K d s (ieff e s H) := by
        revert h; split
        · exact absurd rfl hm
        · exact id
      revert h'; cases ieff e s H <;> simp only [thenE] <;> first | exact fun h => h.elim | exact hK _ _
  | call f args =>
    simp only [iopD] at h ⊢
    split
    · simp only at h
      revert h; cases evo s f <;> simp only [thenC0] <;> first | exact fun h => h.elim | exact fun h => h.mono fun _ _ => hK _ _
    · rename_i hm
      have h' : thenC P K d s H (args.map (evo s)) (evo s f) := by
        revert h; split
        · exact absurd rfl hm
        · exact id
      revert h'; cases evo s f <;> simp only [thenC] <;> first | exact fun h => h.elim | exact fun ⟨W, h⟩ => ⟨W, h.mono fun _ _ => hK _ _⟩
theorem istepD_mono {P : Program} {H0 : AHeap} {x : DStep} {K K' : St → AHeap → Prop} (hK : ∀ s H, K s H → K' s H) {s : St} {H : AHeap} (h : istepD P H0 x K s H) : istepD P H0 x K' s H := by
  unfold istepD at h ⊢
  split
  · rename_i e; rw [e] at h; exact iopD_mono hK h
  · rename_i t w e; rw [e] at h; exact guardP_mono (iopD_mono hK) (hK _ _) h
/-- Behind a region: what all its orders bring about. -/
theorem tops_gen {P : Program} {H0 : AHeap} {K : St → AHeap → Prop} (G : St → AHeap → Prop) : ∀ {t : DTree} {s : St} {H : AHeap}, iopsT P H0 t G s H → (∀ s H, G s H → K s H) → iopsT P H0 t K s H := by
  intro t
  induction t with
  | done => intro s H h hK; exact hK _ _ h
  | none => intro s H _ _; exact True.intro
  | soft x t ih => intro s H h hK; exact istepD_mono (fun s H h => ih h hK) h
  | alt x t r ih ih2 =>
    intro s H h hK
    cases r with
    | none => exact istepD_mono (fun s H h => ih h hK) h
    | done => exact ⟨istepD_mono (fun s H h => ih h hK) h.1, ih2 h.2 hK⟩
    | soft _ _ => exact ⟨istepD_mono (fun s H h => ih h hK) h.1, ih2 h.2 hK⟩
    | alt _ _ _ => exact ⟨istepD_mono (fun s H h => ih h hK) h.1, ih2 h.2 hK⟩
section
variable {s : St} {H : AHeap}
/-- A store of one cell of an own row of integers, behind which its block may go on. -/
theorem x_storeS {x v : Opd} {r off : Nat} {k : IntKind} {b : Int} {l : List Int} {sk : Bool} (hx : evo s x = .ptr r off) (hv : evo s v = .int k b) (hr : Vh.rowAt H r = some ⟨true, sk, ints k l⟩) (ho : off < l.length) :
    ieff (.store 1 x v) s H = some (.any, H.set r (some ⟨true, sk, ints k (l.set off b)⟩)) := by
  have e : splice (ints k l) off [AV.int k b] = ints k (l.set off b) := by
    have : [AV.int k b] = ints k [b] := rfl
    rw [this, ints_splice]
    congr 1
    apply List.ext_getElem?
    intro i
    simp only [List.length_cons, List.length_nil, Nat.zero_add, List.append_assoc, List.getElem?_append, List.length_take, List.getElem?_take, List.getElem?_drop, List.getElem?_set]
    rcases Nat.lt_trichotomy i off with h | h | h
    · simp [show i < min off l.length by omega, h, show off ≠ i by omega]
    · subst h; simp [show ¬ i < min i l.length by omega, show i - min i l.length = 0 by omega, ho]
    · simp [show ¬ i < min off l.length by omega, show ¬ (i - min off l.length < 1) by omega, show off ≠ i by omega]
      congr 1; omega
  simp only [ieff, hx, hv]
  rw [aparts_cell c_int]
  simp only [List.length_cons, List.length_nil, Nat.zero_add, if_true, aput, hr, Option.bind_some]
  rw [if_pos ⟨trivial, by simp only [List.length_cons, List.length_nil, ints_length]; omega, rfl⟩, e]
  rfl
end

/-- numbers that were appended one by one, on top of a heap -/
def grownI (base : AHeap) (l : List Int) (v : AV) (H : AHeap) : Prop := (l.length = 0 ∧ v = .nilslice ∧ H = base) ∨ (0 < l.length ∧ v = .sliceU base.length 0 l.length 1 ∧ H = base ++ [sl (ints .i64 l)])
theorem ints_snoc {l : List Int} {x : Int} : ints .i64 l ++ [.int .i64 x] = ints .i64 (l ++ [x]) := by simp [ints]
section
variable {s : St} {H H0 : AHeap}
theorem row_app {R : AHeap} {j : Nat} : Vh.rowAt (H0 ++ R) (H0.length + j) = Vh.rowAt R j := by simp [Vh.rowAt, List.getElem?_append_right]
theorem row_app0 {R : AHeap} : Vh.rowAt (H0 ++ R) H0.length = Vh.rowAt R 0 := row_app (j := 0)
theorem set_app {R : AHeap} {j : Nat} {x : Option ARow} : (H0 ++ R).set (H0.length + j) x = H0 ++ R.set j x := by simp [List.set_append_right]
end
section
variable {P : Program} {f : FuncId} {W0 : List Nat} {K : St → AHeap → Prop} {d : Option Nat} {s : St} {H : AHeap} {args caps args0 : List AV}
/-- A call that reaches nothing, and whose answer is new. -/
theorem call_fr {R0 : AV → AHeap → Prop} (h : ACalls P f args0 [] W0 R0) (hf : args0.all AV.flat = true) (hargs : args ++ caps = args0)
    (hK : ∀ v new, R0 v new → K (putI d s (v.ren (sig [] H.length))) (H ++ new.map (renRow (sig [] H.length)))) : thenC P K d s H args (.func f caps) := by
  refine call_do h [] rfl (flatL_under hf) rfl (by rw [hargs, flatL_ren hf]) trivial fun v0 H0' h0 => ?_
  have := hK v0 H0' h0
  rw [m_merge, m_nil]
  exact this
end

theorem row_set0 {H : AHeap} {r : Nat} {x : Option ARow} (h : r < H.length) : Vh.rowAt (H.set r x) r = x := by
  simp [Vh.rowAt, h]
theorem row_other0 {H : AHeap} {r i : Nat} {x : Option ARow} (hn : r ≠ i) : Vh.rowAt (H.set r x) i = Vh.rowAt H i := by
  simp [Vh.rowAt, List.getElem?_set_ne hn]
theorem row_new {H : AHeap} {x y : Option ARow} {r : Nat} : Vh.rowAt (H.set r y ++ [x]) H.length = x := by
  simp [Vh.rowAt]
/-- A slice of nothing: nil, or not. -/
theorem ACallsG.split0 {P : Program} {γ : Nat → AV} {f : FuncId} {rest : List AV} {H : AHeap} {W : List Nat} {R : AV → AHeap → Prop} {r o : Nat} (h1 : ACallsG P γ f (.nilslice :: rest) H W R)
    (h2 : ∀ a, ACallsG P γ f (.lit (.slice (some a) 0 0) :: rest) H W R) : ACallsG P γ f (.slice r o 0 0 :: rest) H W R := by
  refine ⟨h1.ent, fun ρ w vs hs hv hg => ?_⟩
  cases hv with
  | cons _ v _ vs hx ht =>
    rcases hx.slice_inv with ⟨x, hx, _, rfl⟩ | ⟨_, _, a, rfl⟩
    · exact (h2 _).calls ρ w _ hs (.cons _ _ _ _ (.lit _) ht) hg
    · cases a with
      | none => exact h1.calls ρ w _ hs (.cons _ _ _ _ .nilslice ht) hg
      | some a => exact (h2 a).calls ρ w _ hs (.cons _ _ _ _ (.lit _) ht) hg

end Go.Vh


/- From a contract to a row: an argument that is a slice of structs of integers and truths. -/
namespace Go.Vh
open Go Go.ChangeShapes Go.WideShapes Go.RowKit Go.ChangeAt Go.Deep

/-- a cell of such a struct: true where it is a truth -/
def isK : Bool → AV → Prop
  | true, v => ∃ z, v = .bool z
  | false, v => ∃ z, v = .int .i64 z
def isKV : Bool → Value → Prop
  | true, v => ∃ z, v = .bool z
  | false, v => ∃ z, v = .int .i64 z

section
variable {P : Program} {H : Type} {enc : TypeId × Value → H} {W : World}

/-- An argument that is a slice of such structs. -/
theorem open_row_structs (ks : List Bool) {k : Nat} (hks : ks.length = k) (hk0 : 0 < k) {t e : TypeId} {v : Value} {d : DataW H} {ps : List MemPlace} {base : Nat} {r0 : Reach} (ht : P.underlying t = some (.slice e)) (hc : P.cellsOf e = k)
    (hcell : ∀ {fuel : Nat} {cs : List Value} {y : DataW H × List MemPlace}, DataW.trod enc P W 0 (fun _ => true) true fuel e cs = some y → ∀ (j : Nat) (b : Bool), ks[j]? = some b → ∃ u, cs[j]? = some u ∧ isKV b u)
    (hval : Value.okWide P W r0 base t v) (h : DataW.Trod enc P W 0 (fun _ => true) true t v d ps) :
    ∃ (κ : SK) (n : Nat) (g : Nat → AV) (x : Loc), (∀ i, i < n → ∀ (j : Nat) (b : Bool), ks[j]? = some b → isK b (g (i * k + j))) ∧ CRow.at ⟨(List.range (n * k)).map g, x⟩ W ∧ okS κ n ∧ n ≤ maxLen ∧ (∀ (ρ : RMap) (i : Nat), ρ i = some x → VRel ρ (mkS κ i 0 n) v) ∧ κ ≠ .u := by
  obtain ⟨a0, len0, cap0, rfl⟩ := okWide_slice ht hval
  obtain ⟨fuel, hf⟩ := h
  rcases DataW.trod_slice ht hf with ⟨hcs, _⟩ | ⟨a, len, cap, elems, rest, m, _, hcs, _, _, hle, hmax, hlen, hel, hsp, _⟩
  · simp [Value.cells] at hcs
    obtain ⟨rfl, rfl, rfl⟩ := hcs
    exact ⟨.nil, 0, fun _ => .any, ⟨0, 0, 1⟩, fun i hi => by omega, ⟨by simp, fun i c hi => by simp at hi⟩, rfl, Nat.zero_le _, fun ρ i _ => .nilslice, by simp⟩
  · simp [Value.cells] at hcs
    obtain ⟨rfl, rfl, rfl⟩ := hcs
    obtain ⟨hrl, hrest⟩ := hsp rfl
    have each : ∀ i, i < cap0 → ∀ (j : Nat) (b : Bool), ks[j]? = some b → ∃ u, W.cell? ((a.add (i * k)).add j) = some u ∧ isKV b u := by
      intro i hi j b hj
      have hjk : j < k := by have := (List.getElem?_eq_some_iff.1 hj).1; omega
      have hb : ∃ y, (W.cells? 0 (a.add (i * k)) k).bind (DataW.trod enc P W 0 (fun _ => true) true m e) = some y := by
        by_cases hlt : i < len0
        · have := hel i hlt
          rw [hc] at this
          exact ⟨_, this.trans (List.getElem?_eq_getElem (by omega))⟩
        · have := hrest (i - len0) (by omega)
          rw [hc, show len0 + (i - len0) = i by omega] at this
          exact ⟨_, this.trans (List.getElem?_eq_getElem (by omega))⟩
      obtain ⟨y, hb⟩ := hb
      rw [Option.bind_eq_some_iff] at hb
      obtain ⟨cs', h1, h2⟩ := hb
      obtain ⟨u, hu, hku⟩ := hcell h2 j b hj
      have hw := (World.cells?_some h1).2.2
      exact ⟨u, by rw [hw j hjk, hu], hku⟩
    rcases Nat.eq_zero_or_pos cap0 with h0 | h0
    · have : len0 = 0 := by omega
      subst this; subst h0
      exact ⟨.cap 0, 0, fun _ => .any, ⟨0, 0, 1⟩, fun i hi => by omega, ⟨by simp, fun i c hi => by simp at hi⟩, Nat.le_refl _, Nat.zero_le _, fun ρ i _ => .slice0 _ _ _, by simp⟩
    · obtain ⟨b, off, spot⟩ := a
      obtain ⟨b0, hb0⟩ : ∃ b0, ks[0]? = some b0 := ⟨ks[0]'(by omega), by simp [hks, hk0]⟩
      obtain ⟨z0, hz0, _⟩ := each 0 h0 0 b0 hb0
      have hspot : spot = none := by simpa [Addr.add] using World.cell?_spot hz0
      subst hspot
      let g : Nat → AV := fun i => match W.cell? ⟨b, off + i, none⟩ with | some (.int k z) => .int k z | some (.bool z) => .bool z | _ => .any
      have hg : ∀ i, i < len0 → ∀ j b', ks[j]? = some b' → isK b' (g (i * k + j)) ∧ (g (i * k + j)).cell = true ∧ ∃ u, W.cell? ⟨b, off + (i * k + j), none⟩ = some u ∧ ∀ ρ, VRel ρ (g (i * k + j)) u := by
        intro i hi j b' hj
        obtain ⟨u, hu, hku⟩ := each i (by omega) j b' hj
        rw [add_plain, add_plain, Nat.add_assoc] at hu
        cases b' with
        | true =>
          obtain ⟨z, rfl⟩ := hku
          have hgz : g (i * k + j) = .bool z := by simp only [g, hu]
          rw [hgz]
          exact ⟨⟨z, rfl⟩, rfl, _, hu, fun _ => .bool _⟩
        | false =>
          obtain ⟨z, rfl⟩ := hku
          have hgz : g (i * k + j) = .int .i64 z := by simp only [g, hu]
          rw [hgz]
          exact ⟨⟨z, rfl⟩, rfl, _, hu, fun _ => .int _ _⟩
      refine ⟨.cap cap0, len0, g, ⟨b, off, 1⟩, fun i hi j b' hj => (hg i hi j b' hj).1, ⟨by simp, fun i c hi => ?_⟩, hle, by omega, fun ρ i hx => ?_, by simp⟩
      · have hlt : i < len0 * k := by
          rcases Nat.lt_or_ge i (len0 * k) with h | h
          · exact h
          · simp only at hi
            rw [List.getElem?_eq_none (by simp; exact h)] at hi; cases hi
        simp only at hi
        rw [List.getElem?_map, List.getElem?_range hlt] at hi
        cases hi
        have hdm : i / k * k + i % k = i := by rw [Nat.mul_comm]; exact Nat.div_add_mod i k
        have hmk : i % k < ks.length := by rw [hks]; exact Nat.mod_lt _ hk0
        have := (hg (i / k) (Nat.div_lt_of_lt_mul (by rw [Nat.mul_comm]; exact hlt)) (i % k) ks[i % k] (by simp [hmk])).2
        rw [hdm] at this
        exact this
      · simp only [mkS]
        have := VRel.slice (ρ := ρ) i 0 len0 cap0 _ hx hle
        simpa using this
end
end Go.Vh

