/- Numbers to the base 256 that lie somewhere in a heap. -/
import Derived.Test.YtjmceapnhmeflaaDoorVX
import Derived.Test.YtjmceapnhmeflaaDoorEA
import Derived.Test.YtjmceapnhmeflaaDoorDG
set_option linter.unusedSimpArgs false
set_option linter.unusedVariables false
-- NEWSET
namespace Go.Proofs.YtjmceapnhmeflaaDoor
open Go Go.Vh

/-- The digits of n lie in the row r. -/
def AtD (H : AHeap) (v : AV) (n r : Nat) : Prop := ∃ κ row, okS κ (Dg.dg n).length ∧ v = mkS κ r 0 (Dg.dg n).length ∧ Vh.rowAt H r = some row ∧ row.cells.take (Dg.dg n).length = ints .i64 (Dg.dg n)
theorem AtD.lt {H : AHeap} {v : AV} {n r : Nat} (h : AtD H v n r) : r < H.length := by
  obtain ⟨_, _, _, _, h, _⟩ := h; exact row_lt h
theorem AtD.keep {H H' : AHeap} {v : AV} {n r : Nat} (h : AtD H v n r) (he : Vh.rowAt H' r = Vh.rowAt H r) : AtD H' v n r := by
  obtain ⟨κ, row, h1, h2, h3, h4⟩ := h
  exact ⟨κ, row, h1, h2, by rw [he, h3], h4⟩
theorem AtD.len {H : AHeap} {v : AV} {n r : Nat} {row : ARow} (h : row.cells.take (Dg.dg n).length = ints .i64 (Dg.dg n)) : (Dg.dg n).length ≤ row.cells.length := by
  have := congrArg List.length h
  simp only [List.length_take, ints_length] at this
  omega
/-- Rows are only added, but for one. -/
def Ext (H H' : AHeap) (Q : Nat) : Prop := H.length ≤ H'.length ∧ ∀ i, i < H.length → i ≠ Q → Vh.rowAt H' i = Vh.rowAt H i
theorem Ext.refl {H : AHeap} {Q : Nat} : Ext H H Q := ⟨Nat.le_refl _, fun _ _ _ => rfl⟩
theorem Ext.trans {H H' H'' : AHeap} {Q : Nat} (h : Ext H H' Q) (h' : Ext H' H'' Q) : Ext H H'' Q :=
  ⟨Nat.le_trans h.1 h'.1, fun i hi hq => by rw [h'.2 i (Nat.lt_of_lt_of_le hi h.1) hq, h.2 i hi hq]⟩
theorem row_left {H R : AHeap} {i : Nat} (h : i < H.length) : Vh.rowAt (H ++ R) i = Vh.rowAt H i := by
  simp only [Vh.rowAt]; rw [List.getElem?_append_left h]
theorem Ext.app {H R : AHeap} {Q : Nat} : Ext H (H ++ R) Q := ⟨by simp, fun i hi _ => row_left hi⟩
theorem Ext.set {H : AHeap} {Q : Nat} {x : Option ARow} : Ext H (H.set Q x) Q := ⟨by simp, fun i _ hq => row_other0 (Ne.symm hq)⟩
theorem AtD.ext {H H' : AHeap} {v : AV} {n r Q : Nat} (h : AtD H v n r) (he : Ext H H' Q) (hq : r ≠ Q) : AtD H' v n r := h.keep (he.2 r h.lt hq)

section
variable {f : FuncId} {K : St → AHeap → Prop} {d : Option Nat} {s : St} {H : AHeap}
end
end Go.Proofs.YtjmceapnhmeflaaDoor


/- Contracts: the reference's long division. -/
-- NEWSET
namespace Go.Dg
end Go.Dg
namespace Go.Proofs.YtjmceapnhmeflaaDoor
open Go Go.Vh

section
variable {s : St} {H : AHeap}
theorem AtD.src {v : AV} {n r : Nat} (h : AtD H v n r) : alen v = some (Dg.dg n).length ∧ asrc 1 v H = some (ints .i64 (Dg.dg n)) := by
  obtain ⟨κ, row, h1, rfl, h3, h4⟩ := h
  have hl := AtD.len (H := H) (v := .any) (r := 0) h4
  refine ⟨k_len h1 (Nat.le_refl _), ?_⟩
  generalize hd : Dg.dg n = l at *
  by_cases h0 : l.length = 0
  · obtain rfl : l = [] := List.eq_nil_of_length_eq_zero h0
    cases κ <;> simp [mkS, asrc, ints]
  · cases κ with
    | nil => simp only [okS] at h1; omega
    | cap c => simp [mkS, asrc, h0, cellsAt, h3, hl, h4]
    | u => simp [mkS, asrc, h0, cellsAt, h3, hl, h4]
end

/-- The doubles of a number: a row of slices. -/
def Dbl (H : AHeap) (q D k Q : Nat) (cells : List AV) : Prop := cells.length = k ∧ ∀ j, j < k → ∃ c r, cells[j]? = some c ∧ c.cell = true ∧ AtD H c (q * 2 ^ j) r ∧ r ≠ Q
theorem Dbl.ext {H H' : AHeap} {q D k Q : Nat} {cells : List AV} (h : Dbl H q D k Q cells) (he : Ext H H' Q) : Dbl H' q D k Q cells :=
  ⟨h.1, fun j hj => by obtain ⟨c, r, h1, h2, h3, h4⟩ := h.2 j hj; exact ⟨c, r, h1, h2, h3.ext he h4, h4⟩⟩

end Go.Proofs.YtjmceapnhmeflaaDoor


/- Contracts: the reference's long division: the walk. -/
-- NEWSET
namespace Go.Proofs.YtjmceapnhmeflaaDoor
open Go Go.Vh

end Go.Proofs.YtjmceapnhmeflaaDoor

