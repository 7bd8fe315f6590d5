/- Contracts: the reference's ways, on top of any heap. -/
import Derived.Test.YtpkeneadkiabiabDoorVX
import Derived.Test.YtpkeneadkiabiabDoorED
import Derived.Test.YtpkeneadkiabiabDoorFH
import Derived.Test.YtpkeneadkiabiabDoorEC
import Derived.Test.YtpkeneadkiabiabDoorFG
import Derived.Test.YtpkeneadkiabiabDoorV8
import Derived.Test.YtpkeneadkiabiabDoorChecked
set_option linter.unusedSimpArgs false
set_option linter.unusedVariables false
-- NEWSET
namespace Go.Proofs.YtpkeneadkiabiabDoor
open Go Go.Vh

theorem AtD.zero {H : AHeap} {r : Nat} {row : ARow} (h : Vh.rowAt H r = some row) : AtD H .nilslice 0 r := ⟨.nil, row, by rw [Dg.dg_zero]; rfl, rfl, h, by rw [Dg.dg_zero]; rfl⟩

/-- ... in a row of one's own. -/
def AtO (H : AHeap) (v : AV) (n r : Nat) : Prop := AtD H v n r ∧ ∃ row, Vh.rowAt H r = some row ∧ row.own = true
theorem AtO.base {H H' : AHeap} {v : AV} {n r : Nat} (h : AtO H v n r) (hb : Base H H') : AtO H' v n r := by
  obtain ⟨h1, row, h2, h3⟩ := h
  exact ⟨h1.base hb, row, hb.row h2, h3⟩

end Go.Proofs.YtpkeneadkiabiabDoor



/- Contracts: the reference's gcd and reduced, on top of any heap. -/
-- NEWSET
namespace Go.Proofs.YtpkeneadkiabiabDoor
open Go Go.Vh

section
variable {K : St → AHeap → Prop} {d : Option Nat} {s : St} {H : AHeap}
end
end Go.Proofs.YtpkeneadkiabiabDoor



/- Contracts: the reference's reduced, as a whole. -/
-- NEWSET
namespace Go.Proofs.YtpkeneadkiabiabDoor
open Go Go.Vh

section
variable {K : St → AHeap → Prop} {d : Option Nat} {s : St} {H : AHeap}
end
end Go.Proofs.YtpkeneadkiabiabDoor


