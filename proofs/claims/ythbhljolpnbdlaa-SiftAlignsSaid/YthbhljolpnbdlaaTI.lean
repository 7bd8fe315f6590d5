/- Contracts of stage 4: the receiver's bits. -/
import Derived.Test.YthbhljolpnbdlaaVX
import Derived.Test.YthbhljolpnbdlaaTH
set_option linter.unusedSimpArgs false
set_option linter.unusedVariables false
-- NEWSET
namespace Go.Proofs.Ythbhljolpnbdlaa
open Go Go.Vh

theorem p_negv4 {s : St} {x : Opd} {a : Int} (h1 : evo s x = .int .i64 a) (h2 : -9223372036854775808 ≤ -a ∧ -a ≤ 9223372036854775807) : ipure (.neg x) s = some (.int .i64 (-a)) := by
  have h3 : (IntKind.i64).wrap (0 - a) = -a := by
    simp [IntKind.wrap, IntKind.signed, IntKind.bits]
    omega
  simp only [ipure, h1, h3]
  try simp [h3]
theorem cE_zero {l : List Int} {m : Nat} (h : cE l m = 0) : m ≤ 4096 := by
  unfold cE at h
  split at h
  · omega
  · omega

end Go.Proofs.Ythbhljolpnbdlaa


/- Contracts of stage 4: the reference's bits of the receiver. -/
-- NEWSET
namespace Go.Proofs.Ythbhljolpnbdlaa
open Go Go.Vh

end Go.Proofs.Ythbhljolpnbdlaa

