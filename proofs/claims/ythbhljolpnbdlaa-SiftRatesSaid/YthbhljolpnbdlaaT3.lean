/- Contracts of stage 4: Announce. -/
import Derived.Test.YthbhljolpnbdlaaVX
import Derived.Test.YthbhljolpnbdlaaTA
set_option linter.unusedSimpArgs false
set_option linter.unusedVariables false
-- NEWSET
namespace Go.Proofs.Ythbhljolpnbdlaa
open Go Go.Vh

/-- what is announced of a slot -/
def hd1 (l : List Int) (n : Nat) (sh i : Int) : List Int :=
  if 0 ≤ i + sh ∧ i + sh < n ∧ (ck l (i + sh).toNat = 1 ∨ ck l (i + sh).toNat = 2) then [i, cb l (i + sh).toNat] else []
theorem p_build2v {s : St} {x y : Opd} {z1 z2 v1 v2 : AV} (h1 : evo s x = v1) (h2 : evo s y = v2) (c1 : v1.cell = true) (c2 : v2.cell = true) : ipure (.build [z1, z2] [(0, (1, x)), (1, (1, y))]) s = some (.agg [v1, v2]) := by
  simp [ipure, afill, h1, h2, aparts_cell, c1, c2]

end Go.Proofs.Ythbhljolpnbdlaa

