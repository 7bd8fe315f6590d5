/- Texts of code of this program, checked against its dump. -/
import Derived.Test.YthbhljolpnbdlaaSIr
set_option linter.unusedSimpArgs false
set_option linter.unusedVariables false
namespace Go.Proofs.Ythbhljolpnbdlaa
open Go Go.Vh
def ir_rClicks : IR := (.seq (.ops [⟨(some 2), none, (.pure (.move (.c (.int .i64 0))))⟩]) (.seq (.seq (.ops [⟨(some 4), none, (.pure (.move (.t 0)))⟩, ⟨(some 5), none, (.pure (.len (.t 4)))⟩, ⟨(some 6), none, (.pure (.bin .gtr (.t 5) (.c (.int .i64 4096))))⟩]) (.cond (.t 6) (.seq (.ops [⟨(some 2), none, (.pure (.move (.c (.int .i64 5))))⟩]) .ret) .skip)) (.seq (.seq (.ops [⟨(some 3), none, (.pure (.move (.c (.int .i64 0))))⟩]) (.block 0 (.loop (.seq (.seq (.ops [⟨(some 7), none, (.pure (.move (.t 3)))⟩, ⟨(some 8), none, (.pure (.move (.t 0)))⟩, ⟨(some 9), none, (.pure (.len (.t 8)))⟩, ⟨(some 10), none, (.pure (.bin .lss (.t 7) (.t 9)))⟩]) (.cond (.t 10) .skip (.exit 0))) (.seq (.block 1 (.seq (.ops [⟨(some 13), none, (.pure (.move (.t 0)))⟩, ⟨(some 14), none, (.pure (.move (.t 3)))⟩, ⟨(some 15), none, (.pure (.indexAddr 2 (.t 13) (.t 14)))⟩, ⟨(some 16), none, (.pure (.fieldAddr 0 (.t 15)))⟩, ⟨(some 17), none, (.eff (.load1 (.t 16)))⟩, ⟨(some 18), none, (.pure (.bin .lss (.t 17) (.c (.int .i64 0))))⟩, ⟨(some 19), none, (.pure (.move (.t 18)))⟩, ⟨(some 20), (some (19, false)), (.pure (.move (.t 0)))⟩, ⟨(some 21), (some (19, false)), (.pure (.move (.t 3)))⟩, ⟨(some 22), (some (19, false)), (.pure (.indexAddr 2 (.t 20) (.t 21)))⟩, ⟨(some 23), (some (19, false)), (.pure (.fieldAddr 0 (.t 22)))⟩, ⟨(some 24), (some (19, false)), (.eff (.load1 (.t 23)))⟩, ⟨(some 25), (some (19, false)), (.pure (.bin .gtr (.t 24) (.c (.int .i64 1))))⟩, ⟨(some 26), none, (.pure (.pick (.t 19) (.c (.bool true)) (.t 25)))⟩, ⟨(some 27), none, (.pure (.move (.t 26)))⟩, ⟨(some 28), (some (27, false)), (.pure (.move (.t 0)))⟩, ⟨(some 29), (some (27, false)), (.pure (.move (.t 3)))⟩, ⟨(some 30), (some (27, false)), (.pure (.indexAddr 2 (.t 28) (.t 29)))⟩, ⟨(some 31), (some (27, false)), (.pure (.fieldAddr 1 (.t 30)))⟩, ⟨(some 32), (some (27, false)), (.eff (.load1 (.t 31)))⟩, ⟨(some 33), (some (27, false)), (.pure (.bin .lss (.t 32) (.c (.int .i64 0))))⟩, ⟨(some 34), none, (.pure (.pick (.t 27) (.c (.bool true)) (.t 33)))⟩, ⟨(some 35), none, (.pure (.move (.t 34)))⟩, ⟨(some 36), (some (35, false)), (.pure (.move (.t 0)))⟩, ⟨(some 37), (some (35, false)), (.pure (.move (.t 3)))⟩, ⟨(some 38), (some (35, false)), (.pure (.indexAddr 2 (.t 36) (.t 37)))⟩, ⟨(some 39), (some (35, false)), (.pure (.fieldAddr 1 (.t 38)))⟩, ⟨(some 40), (some (35, false)), (.eff (.load1 (.t 39)))⟩, ⟨(some 41), (some (35, false)), (.pure (.bin .gtr (.t 40) (.c (.int .i64 3))))⟩, ⟨(some 42), none, (.pure (.pick (.t 35) (.c (.bool true)) (.t 41)))⟩]) (.cond (.t 42) (.seq (.ops [⟨(some 2), none, (.pure (.move (.c (.int .i64 2))))⟩]) .ret) .skip))) (.ops [⟨(some 11), none, (.pure (.move (.t 3)))⟩, ⟨(some 12), none, (.pure (.bin .add (.t 11) (.c (.int .i64 1))))⟩, ⟨(some 3), none, (.pure (.move (.t 12)))⟩])))))) (.seq (.ops [⟨(some 2), none, (.pure (.move (.c (.int .i64 0))))⟩]) .ret))))
def rs_rClicks : List IRes := [(.tmp 2)]
theorem ir_rClicks_ok : (Func.body Try.f56).bind (irOf Try.prog Try.f56.ntmps) = some ir_rClicks := by kernel_rfl
theorem rs_rClicks_ok : Try.f56.results.toList.mapM (resOf Try.prog) = some rs_rClicks := by kernel_rfl
theorem ent_rClicks : enters Try.prog 56 = true := by kernel_rfl

def ir_rShiftable : IR := (.seq (.ops [⟨(some 2), none, (.pure (.move (.c (.bool false))))⟩]) (.seq (.ops [⟨(some 3), none, (.pure (.move (.t 0)))⟩, ⟨(some 4), none, (.pure (.bin .geq (.t 3) (.c (.int .i64 (-16)))))⟩, ⟨(some 5), none, (.pure (.move (.t 4)))⟩, ⟨(some 6), (some (5, true)), (.pure (.move (.t 0)))⟩, ⟨(some 7), (some (5, true)), (.pure (.bin .leq (.t 6) (.c (.int .i64 16))))⟩, ⟨(some 8), none, (.pure (.pick (.t 5) (.t 7) (.c (.bool false))))⟩, ⟨(some 2), none, (.pure (.move (.t 8)))⟩]) .ret))
def rs_rShiftable : List IRes := [(.tmp 2)]
theorem ir_rShiftable_ok : (Func.body Try.f49).bind (irOf Try.prog Try.f49.ntmps) = some ir_rShiftable := by kernel_rfl
theorem rs_rShiftable_ok : Try.f49.results.toList.mapM (resOf Try.prog) = some rs_rShiftable := by kernel_rfl
theorem ent_rShiftable : enters Try.prog 49 = true := by kernel_rfl

def ir_rWithin : IR := (.seq (.ops [⟨(some 4), none, (.pure (.move (.c (.bool false))))⟩]) (.seq (.ops [⟨(some 5), none, (.pure (.move (.t 0)))⟩, ⟨(some 6), none, (.pure (.bin .geq (.t 5) (.c (.int .i64 0))))⟩, ⟨(some 7), none, (.pure (.move (.t 6)))⟩, ⟨(some 8), (some (7, true)), (.pure (.move (.t 0)))⟩, ⟨(some 9), (some (7, true)), (.pure (.move (.t 1)))⟩, ⟨(some 10), (some (7, true)), (.pure (.bin .leq (.t 8) (.t 9)))⟩, ⟨(some 11), none, (.pure (.pick (.t 7) (.t 10) (.c (.bool false))))⟩, ⟨(some 4), none, (.pure (.move (.t 11)))⟩]) .ret))
def rs_rWithin : List IRes := [(.tmp 4)]
theorem ir_rWithin_ok : (Func.body Try.f53).bind (irOf Try.prog Try.f53.ntmps) = some ir_rWithin := by kernel_rfl
theorem rs_rWithin_ok : Try.f53.results.toList.mapM (resOf Try.prog) = some rs_rWithin := by kernel_rfl
theorem ent_rWithin : enters Try.prog 53 = true := by kernel_rfl

end Go.Proofs.Ythbhljolpnbdlaa

