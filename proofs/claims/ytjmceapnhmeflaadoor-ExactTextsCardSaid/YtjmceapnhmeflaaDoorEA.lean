/- Contracts: the reference's numbers to the base 256: small, add, sub. -/
import Derived.Test.YtjmceapnhmeflaaDoorVX
import Derived.Test.YtjmceapnhmeflaaDoorV7
import Derived.Test.YtjmceapnhmeflaaDoorCD
import Derived.Test.YtjmceapnhmeflaaDoorC8
import Derived.Test.YtjmceapnhmeflaaDoorChecked
import Derived.Test.YtjmceapnhmeflaaDoorDG
import Derived.Test.YtjmceapnhmeflaaDoorVY
set_option linter.unusedSimpArgs false
set_option linter.unusedVariables false
-- NEWSET
namespace Go.Proofs.YtjmceapnhmeflaaDoor
open Go Go.Vh

end Go.Proofs.YtjmceapnhmeflaaDoor


/- Contracts: the reference's numbers to the base 256: sub, compare, mul. -/
-- NEWSET
namespace Go.Proofs.YtjmceapnhmeflaaDoor
open Go Go.Vh

end Go.Proofs.YtjmceapnhmeflaaDoor

