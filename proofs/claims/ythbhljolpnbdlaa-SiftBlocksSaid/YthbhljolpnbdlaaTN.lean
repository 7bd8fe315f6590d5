/- Contracts of stage 4: the reference's Agreement. -/
import Derived.Test.YthbhljolpnbdlaaVX
import Derived.Test.YthbhljolpnbdlaaSIr6
import Derived.Test.YthbhljolpnbdlaaRC
import Derived.Test.YthbhljolpnbdlaaTF
import Derived.Test.YthbhljolpnbdlaaTE
import Derived.Test.YthbhljolpnbdlaaTI
set_option linter.unusedSimpArgs false
set_option linter.unusedVariables false
-- NEWSET
namespace Go.Proofs.Ythbhljolpnbdlaa
open Go Go.Vh

end Go.Proofs.Ythbhljolpnbdlaa


/- Contracts of stage 4: Agreement and Align of the reference; sift's Agreement. -/
-- NEWSET
namespace Go.Proofs.Ythbhljolpnbdlaa
open Go Go.Vh

theorem wrapI {x : Int} (h1 : -9223372036854775808 ≤ x) (h2 : x ≤ 9223372036854775807) : (IntKind.i64).wrap x = x := by
  simp [IntKind.wrap, IntKind.signed, IntKind.bits]
  omega

end Go.Proofs.Ythbhljolpnbdlaa

