/- Texts of code of this program, checked against its dump. -/
import Derived.Test.YthbhljolpnbdlaaSIr
set_option linter.unusedSimpArgs false
set_option linter.unusedVariables false
namespace Go.Proofs.Ythbhljolpnbdlaa
open Go Go.Vh
def ir_rWithin : IR := (.seq (.ops [⟨(some 4), none, (.pure (.move (.c (.bool false))))⟩]) (.seq (.ops [⟨(some 5), none, (.pure (.move (.t 0)))⟩, ⟨(some 6), none, (.pure (.bin .geq (.t 5) (.c (.int .i64 0))))⟩, ⟨(some 7), none, (.pure (.move (.t 6)))⟩, ⟨(some 8), (some (7, true)), (.pure (.move (.t 0)))⟩, ⟨(some 9), (some (7, true)), (.pure (.move (.t 1)))⟩, ⟨(some 10), (some (7, true)), (.pure (.bin .leq (.t 8) (.t 9)))⟩, ⟨(some 11), none, (.pure (.pick (.t 7) (.t 10) (.c (.bool false))))⟩, ⟨(some 4), none, (.pure (.move (.t 11)))⟩]) .ret))
def rs_rWithin : List IRes := [(.tmp 4)]
theorem ir_rWithin_ok : (Func.body Try.f53).bind (irOf Try.prog Try.f53.ntmps) = some ir_rWithin := by kernel_rfl
theorem rs_rWithin_ok : Try.f53.results.toList.mapM (resOf Try.prog) = some rs_rWithin := by kernel_rfl
theorem ent_rWithin : enters Try.prog 53 = true := by kernel_rfl

end Go.Proofs.Ythbhljolpnbdlaa

