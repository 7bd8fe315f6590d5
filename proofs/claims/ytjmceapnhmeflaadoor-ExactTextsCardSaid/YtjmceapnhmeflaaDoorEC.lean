/- Contracts: the reference's row of binomial numbers. -/
import Derived.Test.YtjmceapnhmeflaaDoorVX
import Derived.Test.YtjmceapnhmeflaaDoorEB
import Derived.Test.YtjmceapnhmeflaaDoorV7
import Derived.Test.YtjmceapnhmeflaaDoorCC
import Derived.Test.YtjmceapnhmeflaaDoorCF
import Derived.Test.YtjmceapnhmeflaaDoorCD
import Derived.Test.YtjmceapnhmeflaaDoorC8
set_option linter.unusedSimpArgs false
set_option linter.unusedVariables false
-- NEWSET
namespace Go.Proofs.YtjmceapnhmeflaaDoor
open Go Go.Vh

section
variable {K : St → AHeap → Prop} {d : Option Nat} {s : St} {H : AHeap}
end

/-- Some of a row's numbers. -/
def RowN (H : AHeap) (n k D : Nat) (cells : List AV) : Prop := cells.length = k ∧ ∀ j, j < k → ∃ c r, cells[j]? = some c ∧ c.cell = true ∧ AtD H c (cnk n j) r ∧ r ≠ D
end Go.Proofs.YtjmceapnhmeflaaDoor


/- Contracts: the reference's binomial numbers and balls. -/
-- NEWSET
namespace Go.Proofs.YtjmceapnhmeflaaDoor
open Go Go.Vh

section
variable {K : St → AHeap → Prop} {d : Option Nat} {s : St} {H : AHeap}
end

end Go.Proofs.YtjmceapnhmeflaaDoor

