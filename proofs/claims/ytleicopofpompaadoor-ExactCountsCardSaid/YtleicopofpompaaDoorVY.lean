/- From a contract to a row: arguments that are slices, of bools among them. -/
import Derived.Test.YtleicopofpompaaDoorVX
set_option linter.unusedSimpArgs false
set_option linter.unusedVariables false
namespace Go.Vh
open Go Go.ChangeShapes Go.WideShapes Go.RowKit Go.ChangeAt Go.Deep

/-- Rows that are only read, with where they lie. -/
structure CRow where
  cs : List AV
  x : Loc

def crows (rs : List CRow) : AHeap := rs.map fun r => ro r.cs
def clocs (rs : List CRow) : RMap := fun i => (rs[i]?).map (·.x)
def CRow.at (r : CRow) (w : World) : Prop := r.x.n ≠ 0 ∧ ∀ i c, r.cs[i]? = some c → c.cell = true ∧ ∃ v, w.cell? ⟨r.x.b, r.x.d + i, none⟩ = some v ∧ ∀ ρ, VRel ρ c v

theorem crows_at {rs : List CRow} {i : Nat} {row : ARow} (h : Vh.rowAt (crows rs) i = some row) : ∃ r, rs[i]? = some r ∧ row = ⟨false, false, r.cs⟩ := by
  rw [rowAt_some, crows, List.getElem?_map, Option.map_eq_some_iff] at h
  obtain ⟨r, h1, h2⟩ := h
  exact ⟨r, h1, by cases h2; rfl⟩

theorem Sim.crows {rs : List CRow} {w : World} {B : Nat} {ex : Nat → Prop} (h : ∀ r ∈ rs, r.at w) : Sim B ex (clocs rs) (Go.Vh.crows rs) w := by
  refine ⟨fun i hi => ?_, fun i row hi => ?_, fun i row x hi hx j c hc => ?_, fun i row x hi ho => ?_, fun i j a b x y hi _ ho => ?_, fun i row x hi hx hne => ?_⟩
  · simp only [Go.Vh.crows, List.length_map] at hi
    simp [clocs, List.getElem?_eq_none hi]
  · obtain ⟨r, h1, rfl⟩ := crows_at hi
    exact ⟨r.x, by simp [clocs, h1]⟩
  · obtain ⟨r, h1, rfl⟩ := crows_at hi
    have hx' : r.x = x := by simpa [clocs, h1] using hx
    subst hx'
    obtain ⟨_, h3⟩ := h r (List.mem_of_getElem? h1)
    obtain ⟨k1, v, k2, k3⟩ := h3 j c hc
    exact ⟨k1, v, k2, k3 _⟩
  · obtain ⟨r, h1, rfl⟩ := crows_at hi
    cases ho
  · obtain ⟨r, h1, rfl⟩ := crows_at hi
    cases ho
  · obtain ⟨r, h1, rfl⟩ := crows_at hi
    have hx' : r.x = x := by simpa [clocs, h1] using hx
    subst hx'
    exact (h r (List.mem_of_getElem? h1)).1

/-- A call whose arguments reach rows that are only read. -/
theorem ACalls.onRows {P : Program} {f : FuncId} {args : List AV} {rs : List CRow} {W : List Nat} {R : AV → AHeap → Prop} (h : ACalls P f args (crows rs) W R) {w : World} (hrs : ∀ r ∈ rs, r.at w) {vs : List Value} (hv : VRelL (clocs rs) args vs) :
    Calls P f vs.toArray w fun e w' => ∃ v v' ρ' H', e = .returned v' ∧ R v H' ∧ VRel ρ' v v' ∧ Frm w.heap.size (fun _ => False) w w' := by
  refine (h.calls _ w vs (Sim.crows hrs) hv fun _ => .any _).mono fun e w' ⟨v, v', ρ', H', h1, h2, _, h4, _, h6, _⟩ => ⟨v, v', ρ', H', h1, h2, h4, ⟨h6.os, h6.tape, h6.output, h6.size, fun k hk _ => h6.block k hk fun ⟨r, row, x, _, q, ho, _⟩ => ?_⟩⟩
  obtain ⟨_, _, rfl⟩ := crows_at q
  cases ho

section
variable {P : Program} {H : Type} {enc : TypeId × Value → H} {W : World}

/-- An argument that is a slice of bools. -/
theorem open_row_bools {t e : TypeId} {v : Value} {d : DataW H} {ps : List MemPlace} {base : Nat} {r0 : Reach} (ht : P.underlying t = some (.slice e)) (he : P.underlying e = some .bool) (hc : P.cellsOf e = 1)
    (hval : Value.okWide P W r0 base t v) (h : DataW.Trod enc P W 0 (fun _ => true) true t v d ps) :
    ∃ (κ : SK) (n : Nat) (f : Nat → Bool) (x : Loc), CRow.at ⟨bt n f, x⟩ W ∧ okS κ n ∧ n ≤ maxLen ∧ ∀ (ρ : RMap) (i : Nat), ρ i = some x → VRel ρ (mkS κ i 0 n) v := by
  obtain ⟨a0, len0, cap0, rfl⟩ := okWide_slice ht hval
  obtain ⟨fuel, hf⟩ := h
  rcases open_bools ht he hc hf with ⟨hcs, _⟩ | ⟨a, len, cap, B, hcs, _, hle, hmax, _, hcell⟩
  · simp [Value.cells] at hcs
    obtain ⟨rfl, rfl, rfl⟩ := hcs
    exact ⟨.nil, 0, fun _ => false, ⟨0, 0, 1⟩, ⟨by simp, fun i c hi => by simp [bt] at hi⟩, rfl, Nat.zero_le _, fun ρ i _ => .nilslice⟩
  · simp [Value.cells] at hcs
    obtain ⟨rfl, rfl, rfl⟩ := hcs
    refine ⟨.cap cap0, len0, B, ⟨a.block, a.off, 1⟩, ⟨by simp, fun i c hi => ?_⟩, hle, by omega, fun ρ i hx => ?_⟩
    · have hlt : i < len0 := by
        rcases Nat.lt_or_ge i len0 with h | h
        · exact h
        · simp only at hi
          rw [List.getElem?_eq_none (by rw [bt_length]; exact h)] at hi; cases hi
      simp only at hi
      rw [bt_get hlt] at hi
      cases hi
      have h0 := hcell i (by omega)
      have hsp := hcell 0 (by omega)
      obtain ⟨b, off, spot⟩ := a
      have hspot : spot = none := by simpa [Addr.add] using World.cell?_spot hsp
      subst hspot
      rw [add_plain] at h0
      exact ⟨rfl, _, h0, fun _ => .bool _⟩
    · simp only [mkS]
      rcases Nat.eq_zero_or_pos cap0 with h0 | h0
      · have : len0 = 0 := by omega
        subst this; subst h0
        exact .slice0 _ _ _
      · have hsp := hcell 0 (by omega)
        obtain ⟨b, off, spot⟩ := a
        have hspot : spot = none := by simpa [Addr.add] using World.cell?_spot hsp
        subst hspot
        have := VRel.slice (ρ := ρ) i 0 len0 cap0 _ hx hle
        simpa using this
end
end Go.Vh

/- Rows of numbers by index; lists of bools; answers that are appended to; flat rows read by a callee. -/
namespace Go.Vh
open Go

/-- n numbers. -/
def nt (n : Nat) (q : Nat → Int) : List AV := (List.range n).map fun i => AV.int .i64 (q i)
theorem nt_length {n q} : (nt n q).length = n := by simp [nt]
theorem nt_get {n q i} (h : i < n) : (nt n q)[i]? = some (.int .i64 (q i)) := by simp [nt, h]
theorem nt_flat {n q} : (nt n q).all AV.flat = true := by simp [nt, AV.flat]
theorem nt_ren {σ : Sig} {n q} : renL σ (nt n q) = nt n q := flatL_ren nt_flat
theorem nt_cell {n q} : (nt n q).all AV.cell = true := by simp [nt, AV.cell]
theorem nt_of {l : List Int} : ints .i64 l = nt l.length fun i => l.getD i 0 := by
  apply List.ext_getElem?
  intro i
  rcases Nat.lt_or_ge i l.length with h | h
  · rw [ints_get h, nt_get h]
  · rw [List.getElem?_eq_none (by rw [ints_length]; exact h), List.getElem?_eq_none (by rw [nt_length]; exact h)]

/-- A list of bools, as a row. -/
def bl (l : List Bool) : List AV := bt l.length fun i => l.getD i false
theorem bl_app {l : List Bool} {b : Bool} : bl l ++ [.bool b] = bl (l ++ [b]) := by
  unfold bl
  rw [bt_app]
  have e : (l ++ [b]).length = l.length + 1 := by simp
  rw [e]
  apply bt_congr
  intro i hi
  by_cases h : i = l.length
  · subst h; simp
  · rw [if_neg h]
    have hlt : i < l.length := by omega
    simp [List.getD_eq_getElem?_getD, List.getElem?_append_left hlt]

/-- A list that was appended to, on top of a heap. -/
def GrownL (base : AHeap) (l : List Bool) (v : AV) (H : AHeap) : Prop := (l = [] ∧ v = .nilslice ∧ H = base) ∨ (l ≠ [] ∧ v = .sliceU base.length 0 l.length 1 ∧ H = base ++ [sl (bl l)])

/-- An answer that lies in a new row, its own. -/
def FreshB (base : AHeap) (n : Nat) (h : Nat → Bool) (v : AV) (H : AHeap) : Prop := ∃ κ b, okS κ n ∧ v = mkS κ base.length 0 n ∧ H = base ++ [some ⟨true, b, bt n h⟩]

section
variable {P : Program} {f : FuncId} {W0 : List Nat} {K : St → AHeap → Prop} {d : Option Nat} {s : St} {H : AHeap} {args caps rest : List AV} {κ κ' : SK} {n n' : Nat} {a b da db : Nat} {ra rb : ARow} {cs cs' : List AV}

/-- Two slices are read. -/
theorem call_cc {R0 : AV → AHeap → Prop} (h : ACalls P f (mkS κ 0 0 n :: mkS κ' 1 0 n' :: rest) [ro cs, ro cs'] W0 R0) (hf : cs.all AV.flat = true) (hf' : cs'.all AV.flat = true) (hrest : underL 0 rest = true)
    (ha : Vh.rowAt H a = some ra) (hb : Vh.rowAt H b = some rb) (la : da + cs.length ≤ ra.cells.length) (lb : db + cs'.length ≤ rb.cells.length) (ca : (ra.cells.drop da).take cs.length = cs) (cb : (rb.cells.drop db).take cs'.length = cs')
    (hargs : args ++ caps = mkS κ a da n :: mkS κ' b db n' :: rest)
    (hK : ∀ v0 H0', R0 v0 H0' → K (putI d s (v0.ren (sig [(a, da), (b, db)] H.length))) (H ++ (H0'.drop 2).map (renRow (sig [(a, da), (b, db)] H.length)))) : thenC P K d s H args (.func f caps) := by
  have h0 : sig [(a, da), (b, db)] H.length 0 = some (a, da) := rfl
  have h1 : sig [(a, da), (b, db)] H.length 1 = some (b, db) := rfl
  refine call_do h [(a, da), (b, db)] rfl ?_ rfl ?_ ⟨seen_ro ha la (by rw [flatL_ren hf]; exact ca.symm) (flatL_under hf), seen_ro hb lb (by rw [flatL_ren hf']; exact cb.symm) (flatL_under hf'), trivial⟩ fun v0 H0' h0' => ?_
  · have hr : underL 2 rest = true := underL_mono (by omega) hrest
    simp [underL, mkS_under, hr]
  · rw [hargs, n_lcons, n_lcons, n_mkS h0, n_mkS h1, renL_under0 hrest]; rfl
  · have := hK v0 H0' h0'
    rw [m_merge, m_ro, m_ro, m_nil]
    exact this

/-- One slice is read. -/
theorem call_c1 {R0 : AV → AHeap → Prop} (h : ACalls P f (mkS κ 0 0 n :: rest) [ro cs] W0 R0) (hf : cs.all AV.flat = true) (hrest : underL 0 rest = true)
    (ha : Vh.rowAt H a = some ra) (la : da + cs.length ≤ ra.cells.length) (ca : (ra.cells.drop da).take cs.length = cs)
    (hargs : args ++ caps = mkS κ a da n :: rest)
    (hK : ∀ v0 H0', R0 v0 H0' → K (putI d s (v0.ren (sig [(a, da)] H.length))) (H ++ (H0'.drop 1).map (renRow (sig [(a, da)] H.length)))) : thenC P K d s H args (.func f caps) := by
  have h0 : sig [(a, da)] H.length 0 = some (a, da) := rfl
  refine call_do h [(a, da)] rfl ?_ rfl ?_ ⟨seen_ro ha la (by rw [flatL_ren hf]; exact ca.symm) (flatL_under hf), trivial⟩ fun v0 H0' h0' => ?_
  · have hr : underL 1 rest = true := underL_mono (by omega) hrest
    simp [underL, mkS_under, hr]
  · rw [hargs, n_lcons, n_mkS h0, renL_under0 hrest]; rfl
  · have := hK v0 H0' h0'
    rw [m_merge, m_ro, m_nil]
    exact this

/-- A slice of bools is written, its row handed over. -/
theorem call_own {g g' : Nat → Bool} {c : AV} {sk : Bool} (h : ACalls P f [mkS κ 0 0 n] [some ⟨true, sk, bt n g⟩] W0 fun v H => v = c ∧ H = [some ⟨true, sk, bt n g'⟩]) (hc : c.under 0 = true)
    (hr : Vh.rowAt H a = some ⟨true, sk, bt n g⟩) (hargs : args ++ caps = [mkS κ a 0 n]) (hK : K (putI d s c) (H.set a (some ⟨true, sk, bt n g'⟩))) : thenC P K d s H args (.func f caps) := by
  have hs : sig [(a, 0)] H.length 0 = some (a, 0) := rfl
  refine call_do h [(a, 0)] rfl ?_ rfl ?_ ⟨⟨_, hr, ?_, ?_, flatL_under bt_flat, ?_⟩, trivial⟩ fun v0 H0' ⟨e1, e2⟩ => ?_
  · simp [underL, mkS_under]
  · rw [hargs, n_lcons, n_mkS0 hs, n_lnil]
  · simp
  · simp [bt_ren, bt_length, bt_take (Nat.le_refl n)]
  · intro _; exact ⟨rfl, rfl, rfl, rfl⟩
  · subst e1; subst e2
    rw [AV.ren_under0 hc]
    simpa [merge, mergeGo, renRow, Vh.rowAt, bt_ren] using hK
end
end Go.Vh

/- Rows of numbers that are written; a callee's new row. -/
namespace Go.Vh
open Go

theorem nt_congr {n q q'} (h : ∀ i, i < n → q i = q' i) : nt n q = nt n q' := by
  unfold nt
  apply List.map_congr_left
  intro i hi
  rw [h i (by simpa using hi)]
theorem nt_set {n q i x} (h : i < n) : (nt n q).set i (.int .i64 x) = nt n fun j => if j = i then x else q j := by
  apply List.ext_getElem?
  intro j
  rcases Nat.lt_or_ge j n with hj | hj
  · rw [nt_get hj]
    by_cases e : j = i
    · subst e; rw [List.getElem?_set_self (by rw [nt_length]; omega)]; simp
    · rw [List.getElem?_set_ne (Ne.symm e), nt_get hj]; simp [e]
  · rw [List.getElem?_eq_none (by rw [List.length_set, nt_length]; omega), List.getElem?_eq_none (by rw [nt_length]; omega)]
theorem nt_const {n x} : List.replicate n (AV.int .i64 x) = nt n fun _ => x := by
  apply List.ext_getElem?
  intro j
  rcases Nat.lt_or_ge j n with hj | hj
  · rw [nt_get hj]; simp [hj]
  · rw [List.getElem?_eq_none (by simp; omega), List.getElem?_eq_none (by rw [nt_length]; omega)]

section
variable {s : St} {H : AHeap}
theorem x_makeN {x : Opd} {n : Nat} {bytes : Nat} (h : evo s x = .int .i64 (n : Int)) (h1 : bytes * n ≤ 281474976710656) (h2 : n ≤ 9223372036854775807) :
    ieff (.makeSlice (.int .i64 0) bytes x x) s H = some (.slice H.length 0 n n, H ++ [rw_ (nt n fun _ => 0)]) := by
  have hb : 0 ≤ (n : Int) ∧ (n : Int) ≤ n ∧ (bytes : Int) * (n : Int) ≤ 281474976710656 ∧ (n : Int) ≤ 9223372036854775807 := by
    refine ⟨by omega, by omega, ?_, by omega⟩
    have : ((bytes * n : Nat) : Int) ≤ 281474976710656 := by omega
    simpa using this
  simp only [ieff, h]
  rw [if_pos hb]
  simp [anew, nt_const, nt_cell, rw_]
theorem x_putN {x v : Opd} {r off : Nat} {b : Int} {n : Nat} {q : Nat → Int} (hx : evo s x = .ptr r off) (hv : evo s v = .int .i64 b) (hr : Vh.rowAt H r = some ⟨true, false, nt n q⟩) (ho : off < n) :
    ieff (.store 1 x v) s H = some (.any, H.set r (rw_ (nt n fun j => if j = off then b else q j))) := by
  have hs : splice (nt n q) off [.int .i64 b] = (nt n q).set off (.int .i64 b) := by
    rw [splice, List.set_eq_take_append_cons_drop, if_pos (by rw [nt_length]; omega)]
    simp
  simp only [ieff, hx, hv]
  simp only [aparts, List.length_singleton, if_true, aput, hr, Option.bind_some]
  rw [if_pos ⟨trivial, by rw [nt_length]; omega, rfl⟩, hs, nt_set ho]
  rfl
end

section
variable {P : Program} {f : FuncId} {W0 : List Nat} {K : St → AHeap → Prop} {d : Option Nat} {s : St} {H : AHeap} {args caps args0 : List AV} {n : Nat} {h : Nat → Bool}
/-- A call that answers a new row of bools. -/
theorem call_newB (hA : ACalls P f args0 [] W0 fun v H => v = .slice 0 0 n n ∧ H = [rw_ (bt n h)]) (hu : underL 0 args0 = true) (hargs : args ++ caps = args0) (hK : K (putI d s (.slice H.length 0 n n)) (H ++ [rw_ (bt n h)])) : thenC P K d s H args (.func f caps) := by
  refine call_do hA [] rfl hu rfl (by rw [hargs, renL_under0 hu]) trivial fun v0 H0' ⟨e1, e2⟩ => ?_
  subst e1; subst e2
  have h1 : AV.ren (sig [] H.length) (.slice 0 0 n n) = .slice H.length 0 n n := by simp [AV.ren, sig]
  have h2 : merge H [] [] [rw_ (bt n h)] = H ++ [rw_ (bt n h)] := by
    simp [merge, mergeGo, m_renRw, bt_ren]
  rw [h1, h2]; exact hK
end
end Go.Vh
