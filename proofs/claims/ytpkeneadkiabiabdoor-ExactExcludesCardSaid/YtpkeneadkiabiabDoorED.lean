/- Contracts: the reference's long division, quotient and remainder: the walk. -/
import Derived.Test.YtpkeneadkiabiabDoorVX
import Derived.Test.YtpkeneadkiabiabDoorEC
import Derived.Test.YtpkeneadkiabiabDoorV8
import Derived.Test.YtpkeneadkiabiabDoorChecked
import Derived.Test.YtpkeneadkiabiabDoorFI
set_option linter.unusedSimpArgs false
set_option linter.unusedVariables false
-- NEWSET
namespace Go.Proofs.YtpkeneadkiabiabDoor
open Go Go.Vh

/-- The digits of n lie in the row r, which is flat. -/
def AtF (H : AHeap) (v : AV) (n r : Nat) : Prop := ∃ κ row, okS κ (Dg.dg n).length ∧ v = mkS κ r 0 (Dg.dg n).length ∧ Vh.rowAt H r = some row ∧ row.cells.take (Dg.dg n).length = ints .i64 (Dg.dg n) ∧ row.own = true ∧ row.cells.all AV.flat = true
theorem AtF.at {H : AHeap} {v : AV} {n r : Nat} (h : AtF H v n r) : AtD H v n r := by
  obtain ⟨κ, row, h1, h2, h3, h4, _⟩ := h; exact ⟨κ, row, h1, h2, h3, h4⟩
theorem AtD.flat {H : AHeap} {v : AV} {n r : Nat} {row : ARow} (h : AtD H v n r) (hr : Vh.rowAt H r = some row) (ho : row.own = true) (hf : row.cells.all AV.flat = true) : AtF H v n r := by
  obtain ⟨κ, row', h1, h2, h3, h4⟩ := h
  rw [hr] at h3; cases h3
  exact ⟨κ, row, h1, h2, hr, h4, ho, hf⟩
end Go.Proofs.YtpkeneadkiabiabDoor



/- Contracts: the reference's greatest common divisor. -/
-- NEWSET
namespace Go.Proofs.YtpkeneadkiabiabDoor
open Go Go.Vh

section
variable {K : St → AHeap → Prop} {d : Option Nat} {s : St} {H : AHeap}
end

end Go.Proofs.YtpkeneadkiabiabDoor



/- Contracts: the reference's row of binomial numbers, on top of any heap. -/
-- NEWSET
namespace Go.Proofs.YtpkeneadkiabiabDoor
open Go Go.Vh

theorem AtD.base {H H' : AHeap} {v : AV} {n r : Nat} (h : AtD H v n r) (hb : Base H H') : AtD H' v n r := h.keep (hb.2 r h.lt)
theorem RowN.base {H H' : AHeap} {n k D : Nat} {cells : List AV} (h : RowN H n k D cells) (hb : Base H H') : RowN H' n k D cells := ⟨h.1, fun j hj => by
  obtain ⟨c, r, h1, h2, h3, h4⟩ := h.2 j hj
  exact ⟨c, r, h1, h2, h3.base hb, h4⟩⟩

end Go.Proofs.YtpkeneadkiabiabDoor


