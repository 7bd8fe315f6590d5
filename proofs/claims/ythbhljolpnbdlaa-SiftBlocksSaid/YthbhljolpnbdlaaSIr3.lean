/- Texts of code of this program, checked against its dump. -/
import Derived.Test.YthbhljolpnbdlaaSIr2
set_option linter.unusedSimpArgs false
set_option linter.unusedVariables false
namespace Go.Proofs.Ythbhljolpnbdlaa
open Go Go.Vh
def ir_ints : IR := (.seq (.ops [⟨(some 4), none, (.pure (.move (.c (.bool false))))⟩]) (.seq (.seq (.ops [⟨(some 6), none, (.pure (.move (.t 0)))⟩, ⟨(some 7), none, (.pure (.len (.t 6)))⟩, ⟨(some 8), none, (.pure (.move (.t 1)))⟩, ⟨(some 9), none, (.pure (.len (.t 8)))⟩, ⟨(some 10), none, (.pure (.bin .neq (.t 7) (.t 9)))⟩]) (.cond (.t 10) (.seq (.ops [⟨(some 4), none, (.pure (.move (.c (.bool false))))⟩]) .ret) .skip)) (.seq (.seq (.ops [⟨(some 5), none, (.pure (.move (.c (.int .i64 0))))⟩]) (.block 0 (.loop (.seq (.seq (.ops [⟨(some 11), none, (.pure (.move (.t 5)))⟩, ⟨(some 12), none, (.pure (.move (.t 0)))⟩, ⟨(some 13), none, (.pure (.len (.t 12)))⟩, ⟨(some 14), none, (.pure (.bin .lss (.t 11) (.t 13)))⟩]) (.cond (.t 14) .skip (.exit 0))) (.seq (.block 1 (.seq (.dops [⟨⟨(some 17), none, (.pure (.move (.t 0)))⟩, 0, 0⟩, ⟨⟨(some 18), none, (.pure (.move (.t 5)))⟩, 1, 0⟩, ⟨⟨(some 19), none, (.pure (.indexAddr 1 (.t 17) (.t 18)))⟩, 2, 0⟩, ⟨⟨(some 20), none, (.eff (.load1 (.t 19)))⟩, 3, 1⟩, ⟨⟨(some 21), none, (.pure (.move (.t 1)))⟩, 4, 0⟩, ⟨⟨(some 22), none, (.pure (.move (.t 5)))⟩, 5, 0⟩, ⟨⟨(some 23), none, (.pure (.indexAddr 1 (.t 21) (.t 22)))⟩, 6, 0⟩, ⟨⟨(some 24), none, (.eff (.load1 (.t 23)))⟩, 7, 1⟩, ⟨⟨(some 25), none, (.pure (.bin .neq (.t 20) (.t 24)))⟩, 8, 0⟩]) (.cond (.t 25) (.seq (.ops [⟨(some 4), none, (.pure (.move (.c (.bool false))))⟩]) .ret) .skip))) (.ops [⟨(some 15), none, (.pure (.move (.t 5)))⟩, ⟨(some 16), none, (.pure (.bin .add (.t 15) (.c (.int .i64 1))))⟩, ⟨(some 5), none, (.pure (.move (.t 16)))⟩])))))) (.seq (.ops [⟨(some 4), none, (.pure (.move (.c (.bool true))))⟩]) .ret))))
def rs_ints : List IRes := [(.tmp 4)]
theorem ir_ints_ok : (Func.body Try.f23).bind (irOf Try.prog Try.f23.ntmps) = some ir_ints := by kernel_rfl
theorem rs_ints_ok : Try.f23.results.toList.mapM (resOf Try.prog) = some rs_ints := by kernel_rfl
theorem ent_ints : enters Try.prog 23 = true := by kernel_rfl

end Go.Proofs.Ythbhljolpnbdlaa

