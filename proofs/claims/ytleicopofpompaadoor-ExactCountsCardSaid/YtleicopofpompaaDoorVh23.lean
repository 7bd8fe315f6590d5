/- Equations: make, copy, stores. -/
import Derived.Test.YtleicopofpompaaDoorVh22
set_option linter.unusedSimpArgs false
set_option linter.unusedVariables false
namespace Go.Vh
open Go
section
variable {s : St} {H : AHeap}

theorem x_make {x : Opd} {k : IntKind} {n : Int} {bytes : Nat} (h : evo s x = .int .i64 n) (h0 : 0 ≤ n) (h1 : bytes * n ≤ 281474976710656) (h2 : n ≤ 9223372036854775807) :
    ieff (.makeSlice (.int k 0) bytes x x) s H = some (.slice H.length 0 n.toNat n.toNat, H ++ [rw_ (ints k (List.replicate n.toNat 0))]) := by
  have hc : (List.replicate n.toNat (AV.int k 0)).all AV.cell = true := by simp [AV.cell]
  simp only [ieff, h]
  rw [if_pos ⟨h0, Int.le_refl _, h1, h2⟩, anew, if_pos hc, ints_replicate]
  rfl

theorem src_mkS {κ : SK} {r n : Nat} {row : ARow} (hk : okS κ n) (hrow : rowAt H r = some row) (hm : n ≤ row.cells.length) : asrc 1 (mkS κ r 0 n) H = some (row.cells.take n) := by
  cases κ with
  | nil => simp only [okS] at hk; subst hk; simp [mkS, asrc]
  | cap c => exact src_at hrow rfl hm
  | u =>
    by_cases h0 : n = 0
    · subst h0; simp [mkS, asrc]
    · simp [mkS, asrc, h0, cellsAt, hrow, hm]

/-- A copy over all of an own row. -/
theorem x_copy {κ : SK} {x y : Opd} {r q n c : Nat} {row : ARow} {old : List AV} (hx : evo s x = .slice r 0 n c) (hy : evo s y = mkS κ q 0 n) (hk : okS κ n) (hr : rowAt H r = some ⟨true, false, old⟩) (ho : old.length = n) (hq : rowAt H q = some row) (hm : n ≤ row.cells.length)
    (hc : (row.cells.take n).all AV.cell = true) : ieff (.copy 1 x y) s H = some (.int .i64 n, H.set r (some ⟨true, false, row.cells.take n⟩)) := by
  have hl : (row.cells.take n).length = n := by rw [List.length_take]; omega
  simp only [ieff, hx, hy, l_slice, k_len hk (Nat.le_refl _), src_mkS hk hq hm, Option.bind_some, Nat.min_self, Nat.mul_one]
  by_cases h0 : n = 0
  · rw [if_pos h0]
    subst h0
    have : old = [] := List.length_eq_zero_iff.1 ho
    subst this
    have h2 := rowAt_some.1 hr
    simp only [List.take_zero]
    have : H.set r (some ⟨true, false, []⟩) = H := by
      apply List.ext_getElem?
      intro i
      by_cases hi : i = r
      · subst hi; rw [h2, List.getElem?_set_self (List.getElem?_eq_some_iff.1 h2).1]
      · rw [List.getElem?_set_ne (Ne.symm hi)]
    rw [this]
    rfl
  · rw [if_neg h0]
    have : List.take n (List.take n row.cells) = row.cells.take n := by rw [List.take_take, Nat.min_self]
    rw [this, aput, hr]
    simp only [Option.bind_some]
    rw [if_pos ⟨trivial, by omega, hc⟩]
    have e : splice old 0 (row.cells.take n) = row.cells.take n := by
      simp only [splice, List.take_zero, List.nil_append, Nat.zero_add, hl]
      rw [List.drop_eq_nil_of_le (by omega), List.append_nil]
    rw [e]
    rfl

/-- A store of one cell of an own row of integers. -/
theorem x_store {x v : Opd} {r off : Nat} {k : IntKind} {b : Int} {l : List Int} (hx : evo s x = .ptr r off) (hv : evo s v = .int k b) (hr : rowAt H r = some ⟨true, false, ints k l⟩) (ho : off < l.length) :
    ieff (.store 1 x v) s H = some (.any, H.set r (rw_ (ints k (l.set off b)))) := by
  have e : splice (ints k l) off [AV.int k b] = ints k (l.set off b) := by
    have : [AV.int k b] = ints k [b] := rfl
    rw [this, ints_splice]
    congr 1
    apply List.ext_getElem?
    intro i
    simp only [List.length_cons, List.length_nil, Nat.zero_add, List.append_assoc, List.getElem?_append, List.length_take, List.getElem?_take, List.getElem?_drop, List.getElem?_set]
    rcases Nat.lt_trichotomy i off with h | h | h
    · simp [show i < min off l.length by omega, h, show off ≠ i by omega]
    · subst h; simp [show ¬ i < min i l.length by omega, show i - min i l.length = 0 by omega, ho]
    · simp [show ¬ i < min off l.length by omega, show ¬ (i - min off l.length < 1) by omega, show off ≠ i by omega]
      congr 1; omega
  simp only [ieff, hx, hv]
  rw [aparts_cell c_int]
  simp only [List.length_cons, List.length_nil, Nat.zero_add, if_true, aput, hr, Option.bind_some]
  rw [if_pos ⟨trivial, by simp only [List.length_cons, List.length_nil, ints_length]; omega, rfl⟩, e]
  rfl
theorem p_minmax {x y : Opd} {k k' : IntKind} {a b : Int} {isMax : Bool} (hx : evo s x = .int k a) (hy : evo s y = .int k' b) : ipure (.minmax isMax x y) s = some (.int k (if isMax then (if b > a then b else a) else (if b < a then b else a))) := by
  simp only [ipure, hx, hy]
end
end Go.Vh
