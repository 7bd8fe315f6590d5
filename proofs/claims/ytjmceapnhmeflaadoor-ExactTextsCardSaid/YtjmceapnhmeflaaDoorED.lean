/- Contracts: the reference's long division, quotient and remainder: the walk. -/
import Derived.Test.YtjmceapnhmeflaaDoorVX
import Derived.Test.YtjmceapnhmeflaaDoorEC
import Derived.Test.YtjmceapnhmeflaaDoorV7
import Derived.Test.YtjmceapnhmeflaaDoorChecked
import Derived.Test.YtjmceapnhmeflaaDoorFI
import Derived.Test.YtjmceapnhmeflaaDoorFH
import Derived.Test.YtjmceapnhmeflaaDoorFG
set_option linter.unusedSimpArgs false
set_option linter.unusedVariables false
-- NEWSET
namespace Go.Proofs.YtjmceapnhmeflaaDoor
open Go Go.Vh

/-- The digits of n lie in the row r, which is flat. -/
def AtF (H : AHeap) (v : AV) (n r : Nat) : Prop := ∃ κ row, okS κ (Dg.dg n).length ∧ v = mkS κ r 0 (Dg.dg n).length ∧ Vh.rowAt H r = some row ∧ row.cells.take (Dg.dg n).length = ints .i64 (Dg.dg n) ∧ row.own = true ∧ row.cells.all AV.flat = true
theorem AtF.at {H : AHeap} {v : AV} {n r : Nat} (h : AtF H v n r) : AtD H v n r := by
  obtain ⟨κ, row, h1, h2, h3, h4, _⟩ := h; exact ⟨κ, row, h1, h2, h3, h4⟩
theorem AtF.ext {H H' : AHeap} {v : AV} {n r Q : Nat} (h : AtF H v n r) (he : Ext H H' Q) (hq : r ≠ Q) : AtF H' v n r := by
  have hl := h.at.lt
  obtain ⟨κ, row, h1, h2, h3, h4, h5⟩ := h; exact ⟨κ, row, h1, h2, by rw [he.2 r hl hq, h3], h4, h5⟩
theorem AtD.flat {H : AHeap} {v : AV} {n r : Nat} {row : ARow} (h : AtD H v n r) (hr : Vh.rowAt H r = some row) (ho : row.own = true) (hf : row.cells.all AV.flat = true) : AtF H v n r := by
  obtain ⟨κ, row', h1, h2, h3, h4⟩ := h
  rw [hr] at h3; cases h3
  exact ⟨κ, row, h1, h2, hr, h4, ho, hf⟩
end Go.Proofs.YtjmceapnhmeflaaDoor


/- Contracts: the reference's greatest common divisor. -/
-- NEWSET
namespace Go.Proofs.YtjmceapnhmeflaaDoor
open Go Go.Vh

section
variable {K : St → AHeap → Prop} {d : Option Nat} {s : St} {H : AHeap}
end

end Go.Proofs.YtjmceapnhmeflaaDoor


/- Contracts: the reference's row of binomial numbers, on top of any heap. -/
-- NEWSET
namespace Go.Proofs.YtjmceapnhmeflaaDoor
open Go Go.Vh

theorem AtD.base {H H' : AHeap} {v : AV} {n r : Nat} (h : AtD H v n r) (hb : Base H H') : AtD H' v n r := h.keep (hb.2 r h.lt)
theorem RowN.base {H H' : AHeap} {n k D : Nat} {cells : List AV} (h : RowN H n k D cells) (hb : Base H H') : RowN H' n k D cells := ⟨h.1, fun j hj => by
  obtain ⟨c, r, h1, h2, h3, h4⟩ := h.2 j hj
  exact ⟨c, r, h1, h2, h3.base hb, h4⟩⟩

end Go.Proofs.YtjmceapnhmeflaaDoor


/- Contracts: the reference's ways, on top of any heap. -/
-- NEWSET
namespace Go.Proofs.YtjmceapnhmeflaaDoor
open Go Go.Vh

theorem AtD.zero {H : AHeap} {r : Nat} {row : ARow} (h : Vh.rowAt H r = some row) : AtD H .nilslice 0 r := ⟨.nil, row, by rw [Dg.dg_zero]; rfl, rfl, h, by rw [Dg.dg_zero]; rfl⟩

/-- ... in a row of one's own. -/
def AtO (H : AHeap) (v : AV) (n r : Nat) : Prop := AtD H v n r ∧ ∃ row, Vh.rowAt H r = some row ∧ row.own = true
theorem AtO.base {H H' : AHeap} {v : AV} {n r : Nat} (h : AtO H v n r) (hb : Base H H') : AtO H' v n r := by
  obtain ⟨h1, row, h2, h3⟩ := h
  exact ⟨h1.base hb, row, hb.row h2, h3⟩

end Go.Proofs.YtjmceapnhmeflaaDoor


/- Contracts: the reference's gcd and reduced, on top of any heap. -/
-- NEWSET
namespace Go.Proofs.YtjmceapnhmeflaaDoor
open Go Go.Vh

section
variable {K : St → AHeap → Prop} {d : Option Nat} {s : St} {H : AHeap}
end
end Go.Proofs.YtjmceapnhmeflaaDoor


/- Contracts: the reference's reduced, as a whole. -/
-- NEWSET
namespace Go.Proofs.YtjmceapnhmeflaaDoor
open Go Go.Vh

section
variable {K : St → AHeap → Prop} {d : Option Nat} {s : St} {H : AHeap}
end
end Go.Proofs.YtjmceapnhmeflaaDoor

