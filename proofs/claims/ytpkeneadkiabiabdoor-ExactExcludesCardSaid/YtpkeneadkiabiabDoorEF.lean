/- Contracts: the reference's Tail. -/
import Derived.Test.YtpkeneadkiabiabDoorVX
import Derived.Test.YtpkeneadkiabiabDoorEE
import Derived.Test.YtpkeneadkiabiabDoorFH
set_option linter.unusedSimpArgs false
set_option linter.unusedVariables false
-- NEWSET
namespace Go.Proofs.YtpkeneadkiabiabDoor
open Go Go.Vh

end Go.Proofs.YtpkeneadkiabiabDoor



/- Contracts: fractions are compared; ExactTails' walk. -/
-- NEWSET
namespace Go.Proofs.YtpkeneadkiabiabDoor
open Go Go.Vh

end Go.Proofs.YtpkeneadkiabiabDoor


