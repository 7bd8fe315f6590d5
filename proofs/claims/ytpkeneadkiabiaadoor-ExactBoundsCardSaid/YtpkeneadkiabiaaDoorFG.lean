/- Contracts: firstError; numbers above a base of rows. -/
import Derived.Test.YtpkeneadkiabiaaDoorVX
import Derived.Test.YtpkeneadkiabiaaDoorFF
import Derived.Test.YtpkeneadkiabiaaDoorIrC
set_option linter.unusedSimpArgs false
set_option linter.unusedVariables false
-- NEWSET
namespace Go.Proofs.YtpkeneadkiabiaaDoor
open Go Go.Vh

section
variable {s : St} {H : AHeap}
theorem x_boxA {x : Opd} {v : AV} (hx : evo s x = v) (hc : v.cell = true) : ieff (.box x) s H = some (.ptr H.length 0, H ++ [rw_ [v]]) := by
  simp [ieff, hx, aparts_cell hc, anew, hc, rw_]
theorem x_allocA {l : List AV} (hc : l.all AV.cell = true) : ieff (.alloc l) s H = some (.ptr H.length 0, H ++ [rw_ l]) := by
  simp only [ieff, anew, hc, if_true, Option.map_some, rw_]
theorem x_loadNA {x : Opd} {r : Nat} {row : ARow} {l : List AV} {n : Nat} (hx : evo s x = .ptr r 0) (hr : Vh.rowAt H r = some row) (hc : row.cells = l) (hn : l.length = n) : ieff (.loadN n x) s H = some (.agg l, H) := by
  simp only [ieff, hx, cellsAt, hr, Option.bind_some, hc, Nat.zero_add, hn, Nat.le_refl, if_true, List.drop_zero, Option.map_some]
  rw [← hn, List.take_length]
theorem splice_one {l : List AV} {off : Nat} {v : AV} (h : off < l.length) : splice l off [v] = l.set off v := by
  apply List.ext_getElem?
  intro i
  simp only [splice, List.length_cons, List.length_nil, Nat.zero_add, List.append_assoc, List.getElem?_append, List.length_take, List.getElem?_take, List.getElem?_drop, List.getElem?_set]
  rcases Nat.lt_trichotomy i off with h1 | h1 | h1
  · simp [show i < min off l.length by omega, h1, show off ≠ i by omega]
  · subst h1; simp [show ¬ i < min i l.length by omega, show i - min i l.length = 0 by omega, h]
  · simp [show ¬ i < min off l.length by omega, show ¬ (i - min off l.length < 1) by omega, show off ≠ i by omega]
    congr 1; omega
theorem x_store1A {x y : Opd} {r off : Nat} {v : AV} {l : List AV} (hx : evo s x = .ptr r off) (hy : evo s y = v) (hv : v.cell = true) (hr : Vh.rowAt H r = some ⟨true, false, l⟩) (ho : off < l.length) : ieff (.store 1 x y) s H = some (.any, H.set r (rw_ (l.set off v))) := by
  simp only [ieff, hx, hy, aparts_cell hv, List.length_cons, List.length_nil, Nat.zero_add, if_true, aput, hr, Option.bind_some]
  rw [if_pos ⟨trivial, by omega, by simp [hv]⟩, splice_one ho]
  rfl
theorem x_storeNA {x y : Opd} {r n : Nat} {l l' : List AV} (hx : evo s x = .ptr r 0) (hy : evo s y = .agg l') (hv : l'.all AV.cell = true) (hr : Vh.rowAt H r = some ⟨true, false, l⟩) (hn : l'.length = n) (hl : l.length = n) : ieff (.store n x y) s H = some (.any, H.set r (rw_ l')) := by
  have e : splice l 0 l' = l' := by
    simp only [splice, List.take_zero, List.nil_append, Nat.zero_add]
    rw [List.drop_eq_nil_of_le (by omega), List.append_nil]
  simp only [ieff, hx, hy, aparts, hn, if_true, aput, hr, Option.bind_some]
  rw [if_pos ⟨trivial, by omega, hv⟩, e]
  rfl
end

/-- A number among the rows above n. -/
def NumR (n : Nat) (R : AHeap) (w : AV) (x : Int) : Prop := (w = .nilslice ∧ x = 0) ∨ ∃ κ l row j, w = mkS κ (n + j) 0 l.length ∧ Vh.rowAt R j = some row ∧ NewNum x κ l row
section
variable {n : Nat} {B R R' : AHeap} {w : AV} {x : Int}
theorem NumR.nil : NumR n R .nilslice 0 := .inl ⟨rfl, rfl⟩
theorem NumR.app (h : NumR n R w x) : NumR n (R ++ R') w x := by
  rcases h with h | ⟨κ, l, row, j, h1, h2, h3⟩
  · exact .inl h
  · exact .inr ⟨κ, l, row, j, h1, by rw [rowAt_append_left (rowAt_lt h2)]; exact h2, h3⟩
theorem NumR.v (h : NumR B.length R w x) : NumV (B ++ R) w x B.length := by
  rcases h with h | ⟨κ, l, row, j, h1, h2, h3⟩
  · exact .inl h
  · exact .inr ⟨κ, l, row, B.length + j, by omega, h1, by rw [row_app]; exact h2, h3⟩
theorem NumV.r (h : NumV (B ++ R) w x n) (hn : B.length ≤ n) : NumR B.length R w x := by
  rcases h with h | ⟨κ, l, row, r, h1, h2, h3, h4⟩
  · exact .inl h
  · refine .inr ⟨κ, l, row, r - B.length, by rw [show B.length + (r - B.length) = r by omega]; exact h2, ?_, h4⟩
    rw [show r = B.length + (r - B.length) by omega, row_app] at h3
    exact h3
theorem NumR.cell (h : NumR n R w x) : w.cell = true := by
  rcases h with ⟨rfl, _⟩ | ⟨κ, l, row, j, rfl, h2, h3⟩
  · rfl
  · exact c_mkS
theorem NumV.cell {H : AHeap} (h : NumV H w x n) : w.cell = true := by
  rcases h with ⟨rfl, _⟩ | ⟨κ, l, row, j, _, rfl, h2, h3⟩
  · rfl
  · exact c_mkS
theorem NumR.at {k : Nat} (h : NumR B.length R w x) {row0 : ARow} (h0 : Vh.rowAt (B ++ R) 0 = some row0) (hx : x < BB ^ k) : ∃ r, AtK (B ++ R) w x r k := h.v.at h0 hx
end

end Go.Proofs.YtpkeneadkiabiaaDoor


/- Contracts: exact's reduced. -/
-- NEWSET
namespace Go.Proofs.YtpkeneadkiabiaaDoor
open Go Go.Vh

section
variable (A B : List AV) (u v : AV)
end

section
variable {a b : List Int} {u v : AV} {x y : Int}

end
end Go.Proofs.YtpkeneadkiabiaaDoor


/- Contracts: exact's reduced, as a whole. -/
-- NEWSET
namespace Go.Proofs.YtpkeneadkiabiaaDoor
open Go Go.Vh

section
variable (a b : List Int) (u v : AV) (x y : Int)
end

end Go.Proofs.YtpkeneadkiabiaaDoor

