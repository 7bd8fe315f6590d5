/- Contracts: exact's divide. -/
import Derived.Test.YtpkeneadkiabiaaDoorVX
import Derived.Test.YtpkeneadkiabiaaDoorFD
import Derived.Test.YtpkeneadkiabiaaDoorCC
set_option linter.unusedSimpArgs false
set_option linter.unusedVariables false
-- NEWSET
namespace Go.Proofs.YtpkeneadkiabiaaDoor
open Go Go.Vh

theorem NewNum.back {q : Int} {κ : SK} {l : List Int} {row : ARow} (h : NewNum q κ l row) (σ : Sig) : ({ row with cells := renL σ row.cells } : ARow) = row := by
  rw [flatL_ren h.flat]

end Go.Proofs.YtpkeneadkiabiaaDoor

