/- Contracts: the ones of a number; ExactSets' walk. -/
import Derived.Test.YtpkeneadkiabiabDoorV7
import Derived.Test.YtpkeneadkiabiabDoorCD
import Derived.Test.YtpkeneadkiabiabDoorV8
import Derived.Test.YtpkeneadkiabiabDoorChecked
import Derived.Test.YtpkeneadkiabiabDoorPc1
import Derived.Test.YtpkeneadkiabiabDoorVX
set_option linter.unusedSimpArgs false
set_option linter.unusedVariables false
namespace Go.Proofs.YtpkeneadkiabiabDoor
open Go Go.Vh Go.Pc

theorem num_two (x : Int) : num (two x) = x := by
  simp [num, two, nv, BB]; omega
section
variable {K : St → AHeap → Prop} {d : Option Nat} {s : St} {H : AHeap}
end

end Go.Proofs.YtpkeneadkiabiabDoor


