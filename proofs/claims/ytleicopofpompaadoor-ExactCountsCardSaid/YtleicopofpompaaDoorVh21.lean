/- Equations for slices that are built and appended to; division. -/
import Derived.Test.YtleicopofpompaaDoorVh20
set_option linter.unusedSimpArgs false
set_option linter.unusedVariables false
namespace Go.Vh
open Go

theorem aparts_cell {v : AV} (h : v.cell = true) : aparts v = [v] := by
  cases v <;> first | rfl | (simp [AV.cell] at h; done)
theorem c_int {k n} : (AV.int k n).cell = true := rfl
theorem c_bool {b} : (AV.bool b).cell = true := rfl
theorem c_str {b} : (AV.str b).cell = true := rfl
theorem c_mkS {κ r o n} : (mkS κ r o n).cell = true := by cases κ <;> rfl
theorem c_nil : AV.nilslice.cell = true := rfl
theorem c_slice {r o n c} : (AV.slice r o n c).cell = true := rfl
theorem c_sliceU {r o n c} : (AV.sliceU r o n c).cell = true := rfl

section
variable {s : St} {H : AHeap}
theorem x_bs1 {x : Opd} {z v : AV} (h : evo s x = v) (hc : v.cell = true) : ieff (.buildSlice 1 [z] [(0, (1, x))]) s H = some (.slice H.length 0 1 1, H ++ [rw_ [v]]) := by
  simp [ieff, h, afill, aparts_cell hc, hc, anew, rw_]
theorem x_bs2 {x y : Opd} {z z' v u : AV} (h : evo s x = v) (h' : evo s y = u) (hc : v.cell = true) (hc' : u.cell = true) (hz : z'.cell = true) : ieff (.buildSlice 2 [z, z'] [(0, (1, x)), (1, (1, y))]) s H = some (.slice H.length 0 2 2, H ++ [rw_ [v, u]]) := by
  simp [ieff, h, h', afill, aparts_cell hc, aparts_cell hc', hc, hc', anew, rw_]
theorem x_bs4 {x1 x2 x3 x4 : Opd} {z1 z2 z3 z4 v1 v2 v3 v4 : AV} (h1 : evo s x1 = v1) (h2 : evo s x2 = v2) (h3 : evo s x3 = v3) (h4 : evo s x4 = v4) (c1 : v1.cell = true) (c2 : v2.cell = true) (c3 : v3.cell = true) (c4 : v4.cell = true) :
    ieff (.buildSlice 4 [z1, z2, z3, z4] [(0, (1, x1)), (1, (1, x2)), (2, (1, x3)), (3, (1, x4))]) s H = some (.slice H.length 0 4 4, H ++ [rw_ [v1, v2, v3, v4]]) := by
  simp [ieff, h1, h2, h3, h4, afill, aparts_cell, c1, c2, c3, c4, anew, rw_]

theorem src_at {r m c : Nat} {row : ARow} {xs : List AV} (hrow : rowAt H r = some row) (hc : row.cells.take m = xs) (hm : m ≤ row.cells.length) : asrc 1 (.slice r 0 m c) H = some xs := by
  by_cases h0 : m = 0
  · subst h0; simp at hc; subst hc; simp [asrc]
  · simp [asrc, h0, cellsAt, hrow, hm, hc]

/-- An append to nil. -/
theorem x_appN {bytes : Nat} {x y : Opd} {r m c : Nat} {row : ARow} {xs : List AV} (hx : evo s x = .nilslice) (hy : evo s y = .slice r 0 m c) (hrow : rowAt H r = some row) (hc : row.cells.take m = xs) (hm : m ≤ row.cells.length)
    (hb : m * bytes ≤ 70368744177664) (hcell : xs.all AV.cell = true) : ieff (.append 1 bytes x y) s H = some (.sliceU H.length 0 m 1, H ++ [sl xs]) := by
  simp only [ieff, hx, hy, l_slice, src_at hrow hc hm, Option.bind_some, aappend, if_pos hb, anew, hcell, if_true, Option.map_some]
  rfl
/-- An append to a slice that was appended to. -/
theorem x_appU {bytes : Nat} {x y : Opd} {q n r m c : Nat} {row : ARow} {xs old : List AV} (hx : evo s x = .sliceU q 0 n 1) (hy : evo s y = .slice r 0 m c) (hq : rowAt H q = some ⟨true, true, old⟩) (hn : old.length = n)
    (hrow : rowAt H r = some row) (hc : row.cells.take m = xs) (hm : m ≤ row.cells.length) (hb : (n + m) * bytes ≤ 70368744177664) (hcell : xs.all AV.cell = true) :
    ieff (.append 1 bytes x y) s H = some (.sliceU H.length 0 (n + m) 1, H.set q none ++ [sl (old ++ xs)]) := by
  have h1 : (n + m) * bytes ≤ 70368744177664 ∧ (1 : Nat) = 1 := ⟨hb, rfl⟩
  simp only [ieff, hx, hy, l_slice, src_at hrow hc hm, Option.bind_some, aappend, if_pos h1, hq]
  simp [hn, hcell, sl, hb]

theorem b_rem {k : IntKind} {a b : Int} (ha : 0 ≤ a) (hb : 0 < b) : abin .rem (.int k a) (.int k b) = some (.int k (a % b)) := by
  have : b ≠ 0 := by omega
  simp [abin, aint, this, Int.tmod_eq_emod_of_nonneg ha]
theorem b_quo {k : IntKind} {a b : Int} (ha : 0 ≤ a) (hb : 0 < b) : abin .quo (.int k a) (.int k b) = some (.int k (k.wrap (a / b))) := by
  have : b ≠ 0 := by omega
  simp [abin, aint, this, Int.tdiv_eq_ediv_of_nonneg ha]
theorem b_shr {k k' : IntKind} {a : Int} {n : Nat} (hn : n ≤ k.bits) : abin .shr (.int k a) (.int k' n) = some (.int k (a / 2 ^ n)) := by
  have h2 : (0 : Int) < 2 ^ n := Int.pow_pos (by decide)
  have : min ((n : Int)).toNat k.bits = n := by simp; omega
  simp only [abin, ashift]
  rw [if_neg (by omega), this, Int.fdiv_eq_ediv_of_nonneg _ (by omega)]
theorem b_shl {k k' : IntKind} {a : Int} {n : Nat} (hn : n ≤ k.bits) : abin .shl (.int k a) (.int k' n) = some (.int k (k.wrap (a * 2 ^ n))) := by
  have : min ((n : Int)).toNat k.bits = n := by simp; omega
  simp only [abin, ashift]
  rw [if_neg (by omega), this]

theorem gc_at {keep : List Nat} {s : St} {t : Nat} {v v' : AV} (h : s t = v) (hv : v.ren (gcSig keep) = v') : gcS keep s t = v' := by
  unfold gcS; rw [h, hv]
theorem gc_keep {keep : List Nat} {H : AHeap} {r : Nat} {row : ARow} (h : rowAt H r = some row) : (match rowAt H r with | some row => some { row with cells := renL (gcSig keep) row.cells } | none => (none : Option ARow)) = some { row with cells := renL (gcSig keep) row.cells } := by rw [h]
end
end Go.Vh
