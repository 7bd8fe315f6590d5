/- ExactOf's walk. -/
import Derived.Test.YtpkeneadkiabiabDoorV7
import Derived.Test.YtpkeneadkiabiabDoorC6
set_option linter.unusedSimpArgs false
set_option linter.unusedVariables false
namespace Go.Proofs.YtpkeneadkiabiabDoor
open Go Go.Vh

theorem two_range {n : Int} (h0 : 0 ≤ n) (h1 : n ≤ 18446744073709551615) : ∀ i, 0 ≤ (two n).getD i 0 ∧ (two n).getD i 0 ≤ 4294967295 := fun i => by
  rcases i with _ | _ | i
  · show 0 ≤ n % 4294967296 ∧ n % 4294967296 ≤ 4294967295; omega
  · show 0 ≤ n / 4294967296 ∧ n / 4294967296 ≤ 4294967295; omega
  · show 0 ≤ (0 : Int) ∧ (0 : Int) ≤ 4294967295; omega
end Go.Proofs.YtpkeneadkiabiabDoor


