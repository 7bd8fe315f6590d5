/- Contracts: takeTimes, giveBack. -/
import Derived.Test.YtpkeneadkiabiaaDoorVX
import Derived.Test.YtpkeneadkiabiaaDoorFA
set_option linter.unusedSimpArgs false
set_option linter.unusedVariables false
-- NEWSET
namespace Go.Proofs.YtpkeneadkiabiaaDoor
open Go Go.Vh

section
variable {s : St} {H : AHeap}
end
theorem getA {pre l : List Int} {p : Nat} {k : IntKind} (h : p < l.length) : (ints k (pre ++ l))[pre.length + p]? = some (.int k (l.getD p 0)) := by
  rw [ints_get (by rw [List.length_append]; omega)]
  congr 2
  simp [List.getD_eq_getElem?_getD, List.getElem?_append_right]

end Go.Proofs.YtpkeneadkiabiaaDoor


/- Contracts: giveBack. -/
-- NEWSET
namespace Go.Proofs.YtpkeneadkiabiaaDoor
open Go Go.Vh

end Go.Proofs.YtpkeneadkiabiaaDoor

