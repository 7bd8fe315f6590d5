/- Contracts of stage 4: Announce. -/
import Derived.Test.YthbhljolpnbdlaaVX
import Derived.Test.YthbhljolpnbdlaaTA
set_option linter.unusedSimpArgs false
set_option linter.unusedVariables false
-- NEWSET
namespace Go.Proofs.Ythbhljolpnbdlaa
open Go Go.Vh

/-- what is announced of a slot -/
def hd1 (l : List Int) (n : Nat) (sh i : Int) : List Int :=
  if 0 ≤ i + sh ∧ i + sh < n ∧ (ck l (i + sh).toNat = 1 ∨ ck l (i + sh).toNat = 2) then [i, cb l (i + sh).toNat] else []
end Go.Proofs.Ythbhljolpnbdlaa

