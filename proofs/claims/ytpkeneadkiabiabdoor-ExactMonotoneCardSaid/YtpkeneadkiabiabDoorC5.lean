/- Contracts: the reference's numbers out of digits. -/
import Derived.Test.YtpkeneadkiabiabDoorV7
import Derived.Test.YtpkeneadkiabiabDoorC4
set_option linter.unusedSimpArgs false
set_option linter.unusedVariables false
namespace Go.Proofs.YtpkeneadkiabiabDoor
open Go Go.Vh

/-- the digits b + 3, b + 2 .. of one limb, the first m of them -/
def pv (d : List Int) (b : Nat) : Nat → Int
  | 0 => 0
  | m + 1 => pv d b m * 256 + d.getD (b + (3 - m)) 0
end Go.Proofs.YtpkeneadkiabiabDoor


