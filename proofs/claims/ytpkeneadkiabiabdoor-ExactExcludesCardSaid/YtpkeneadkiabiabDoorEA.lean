/- Contracts: the reference's numbers to the base 256: small, add, sub. -/
import Derived.Test.YtpkeneadkiabiabDoorVX
import Derived.Test.YtpkeneadkiabiabDoorV7
import Derived.Test.YtpkeneadkiabiabDoorCD
import Derived.Test.YtpkeneadkiabiabDoorV8
import Derived.Test.YtpkeneadkiabiabDoorChecked
import Derived.Test.YtpkeneadkiabiabDoorDG
import Derived.Test.YtpkeneadkiabiabDoorVY
set_option linter.unusedSimpArgs false
set_option linter.unusedVariables false
-- NEWSET
namespace Go.Proofs.YtpkeneadkiabiabDoor
open Go Go.Vh

end Go.Proofs.YtpkeneadkiabiabDoor



/- Contracts: the reference's numbers to the base 256: sub, compare, mul. -/
-- NEWSET
namespace Go.Proofs.YtpkeneadkiabiabDoor
open Go Go.Vh

end Go.Proofs.YtpkeneadkiabiabDoor


