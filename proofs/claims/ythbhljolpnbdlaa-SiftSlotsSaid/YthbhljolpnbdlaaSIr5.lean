/- Texts of code of this program, checked against its dump. -/
import Derived.Test.YthbhljolpnbdlaaSIr4
set_option linter.unusedSimpArgs false
set_option linter.unusedVariables false
namespace Go.Proofs.Ythbhljolpnbdlaa
open Go Go.Vh
def ir_xorR : IR := (.seq (.ops [⟨(some 4), none, (.pure (.move (.c .nilslice)))⟩]) (.seq (.ops [⟨(some 5), none, (.pure (.move (.c .nilslice)))⟩]) (.seq (.seq (.ops [⟨(some 6), none, (.pure (.move (.c (.int .i64 0))))⟩]) (.block 0 (.loop (.seq (.seq (.ops [⟨(some 7), none, (.pure (.move (.t 6)))⟩, ⟨(some 8), none, (.pure (.move (.t 0)))⟩, ⟨(some 9), none, (.pure (.len (.t 8)))⟩, ⟨(some 10), none, (.pure (.bin .lss (.t 7) (.t 9)))⟩]) (.cond (.t 10) .skip (.exit 0))) (.seq (.block 1 (.dops [⟨⟨(some 13), none, (.pure (.move (.t 5)))⟩, 0, 0⟩, ⟨⟨(some 14), none, (.pure (.move (.t 0)))⟩, 1, 0⟩, ⟨⟨(some 15), none, (.pure (.move (.t 6)))⟩, 2, 0⟩, ⟨⟨(some 16), none, (.pure (.indexAddr 1 (.t 14) (.t 15)))⟩, 3, 0⟩, ⟨⟨(some 17), none, (.eff (.load1 (.t 16)))⟩, 4, 1⟩, ⟨⟨(some 18), none, (.pure (.move (.t 1)))⟩, 5, 0⟩, ⟨⟨(some 19), none, (.pure (.move (.t 6)))⟩, 6, 0⟩, ⟨⟨(some 20), none, (.pure (.indexAddr 1 (.t 18) (.t 19)))⟩, 7, 0⟩, ⟨⟨(some 21), none, (.eff (.load1 (.t 20)))⟩, 8, 1⟩, ⟨⟨(some 22), none, (.pure (.binB true (.t 17) (.t 21)))⟩, 9, 0⟩, ⟨⟨(some 23), none, (.eff (.buildSlice 1 [(.bool false)] [(0, (1, (.t 22)))]))⟩, 10, 3⟩, ⟨⟨(some 24), none, (.eff (.append 1 1 (.t 13) (.t 23)))⟩, 11, 3⟩, ⟨⟨(some 5), none, (.pure (.move (.t 24)))⟩, 12, 0⟩])) (.ops [⟨(some 11), none, (.pure (.move (.t 6)))⟩, ⟨(some 12), none, (.pure (.bin .add (.t 11) (.c (.int .i64 1))))⟩, ⟨(some 6), none, (.pure (.move (.t 12)))⟩])))))) (.seq (.ops [⟨(some 25), none, (.pure (.move (.t 5)))⟩, ⟨(some 4), none, (.pure (.move (.t 25)))⟩]) .ret))))
def rs_xorR : List IRes := [(.tmp 4)]
theorem ir_xorR_ok : (Func.body Try.f65).bind (irOf Try.prog Try.f65.ntmps) = some ir_xorR := by kernel_rfl
theorem rs_xorR_ok : Try.f65.results.toList.mapM (resOf Try.prog) = some rs_xorR := by kernel_rfl
theorem ent_xorR : enters Try.prog 65 = true := by kernel_rfl

def ir_countR : IR := (.seq (.ops [⟨(some 2), none, (.pure (.move (.c (.int .i64 0))))⟩]) (.seq (.ops [⟨(some 3), none, (.pure (.move (.c (.int .i64 0))))⟩]) (.seq (.seq (.ops [⟨(some 4), none, (.pure (.move (.c (.int .i64 0))))⟩]) (.block 0 (.loop (.seq (.seq (.ops [⟨(some 5), none, (.pure (.move (.t 4)))⟩, ⟨(some 6), none, (.pure (.move (.t 0)))⟩, ⟨(some 7), none, (.pure (.len (.t 6)))⟩, ⟨(some 8), none, (.pure (.bin .lss (.t 5) (.t 7)))⟩]) (.cond (.t 8) .skip (.exit 0))) (.seq (.block 1 (.seq (.ops [⟨(some 11), none, (.pure (.move (.t 0)))⟩, ⟨(some 12), none, (.pure (.move (.t 4)))⟩, ⟨(some 13), none, (.pure (.indexAddr 1 (.t 11) (.t 12)))⟩, ⟨(some 14), none, (.eff (.load1 (.t 13)))⟩]) (.cond (.t 14) (.ops [⟨(some 15), none, (.pure (.move (.t 3)))⟩, ⟨(some 16), none, (.pure (.bin .add (.t 15) (.c (.int .i64 1))))⟩, ⟨(some 3), none, (.pure (.move (.t 16)))⟩]) .skip))) (.ops [⟨(some 9), none, (.pure (.move (.t 4)))⟩, ⟨(some 10), none, (.pure (.bin .add (.t 9) (.c (.int .i64 1))))⟩, ⟨(some 4), none, (.pure (.move (.t 10)))⟩])))))) (.seq (.ops [⟨(some 17), none, (.pure (.move (.t 3)))⟩, ⟨(some 2), none, (.pure (.move (.t 17)))⟩]) .ret))))
def rs_countR : List IRes := [(.tmp 2)]
theorem ir_countR_ok : (Func.body Try.f64).bind (irOf Try.prog Try.f64.ntmps) = some ir_countR := by kernel_rfl
theorem rs_countR_ok : Try.f64.results.toList.mapM (resOf Try.prog) = some rs_countR := by kernel_rfl
theorem ent_countR : enters Try.prog 64 = true := by kernel_rfl

end Go.Proofs.Ythbhljolpnbdlaa

