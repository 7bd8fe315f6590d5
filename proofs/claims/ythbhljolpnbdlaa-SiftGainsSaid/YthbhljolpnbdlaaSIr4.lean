/- Texts of code of this program, checked against its dump. -/
import Derived.Test.YthbhljolpnbdlaaSIr3
set_option linter.unusedSimpArgs false
set_option linter.unusedVariables false
namespace Go.Proofs.Ythbhljolpnbdlaa
open Go Go.Vh
def ir_checkSlots : IR := (.seq (.ops [⟨(some 3), none, (.eff (.box (.t 1)))⟩, ⟨(some 4), none, (.pure (.move (.c (.int .i64 0))))⟩]) (.seq (.ops [⟨(some 5), none, (.pure (.move (.t 0)))⟩, ⟨(some 6), none, (.pure (.makeFunc 96 [(.t 3)]))⟩, ⟨(some 7), none, (.call (.c (.func 94 [])) [(.t 5), (.c (.func 95 [])), (.t 6)])⟩, ⟨(some 4), none, (.pure (.move (.t 7)))⟩]) .ret))
def rs_checkSlots : List IRes := [(.tmp 4)]
theorem ir_checkSlots_ok : (Func.body Try.f61).bind (irOf Try.prog Try.f61.ntmps) = some ir_checkSlots := by kernel_rfl
theorem rs_checkSlots_ok : Try.f61.results.toList.mapM (resOf Try.prog) = some rs_checkSlots := by kernel_rfl
theorem ent_checkSlots : enters Try.prog 61 = true := by kernel_rfl

def ir_slotsOf : IR := (.seq (.ops [⟨(some 2), none, (.pure (.move (.c (.lit .nilFunc))))⟩]) (.seq (.ops [⟨(some 3), none, (.pure (.move (.t 0)))⟩, ⟨(some 4), none, (.pure (.len (.t 3)))⟩, ⟨(some 5), none, (.call (.c (.func 58 [])) [(.c (.int .i64 0)), (.t 4)])⟩, ⟨(some 2), none, (.pure (.move (.t 5)))⟩]) .ret))
def rs_slotsOf : List IRes := [(.tmp 2)]
theorem ir_slotsOf_ok : (Func.body Try.f62).bind (irOf Try.prog Try.f62.ntmps) = some ir_slotsOf := by kernel_rfl
theorem rs_slotsOf_ok : Try.f62.results.toList.mapM (resOf Try.prog) = some rs_slotsOf := by kernel_rfl
theorem ent_slotsOf : enters Try.prog 62 = true := by kernel_rfl

def ir_rSlots : IR := (.seq (.ops [⟨(some 6), none, (.pure (.move (.c (.int .i64 0))))⟩]) (.seq (.seq (.ops [⟨(some 7), none, (.pure (.move (.c (.int .i64 0))))⟩]) (.block 0 (.loop (.seq (.seq (.ops [⟨(some 8), none, (.pure (.move (.t 7)))⟩, ⟨(some 9), none, (.pure (.move (.t 0)))⟩, ⟨(some 10), none, (.pure (.len (.t 9)))⟩, ⟨(some 11), none, (.pure (.bin .lss (.t 8) (.t 10)))⟩]) (.cond (.t 11) .skip (.exit 0))) (.seq (.block 1 (.seq (.seq (.ops [⟨(some 14), none, (.pure (.move (.t 0)))⟩, ⟨(some 15), none, (.pure (.move (.t 7)))⟩, ⟨(some 16), none, (.pure (.indexAddr 1 (.t 14) (.t 15)))⟩, ⟨(some 17), none, (.eff (.load1 (.t 16)))⟩, ⟨(some 18), none, (.pure (.move (.t 1)))⟩, ⟨(some 19), none, (.pure (.bin .lss (.t 17) (.t 18)))⟩, ⟨(some 20), none, (.pure (.move (.t 19)))⟩, ⟨(some 21), (some (20, false)), (.pure (.move (.t 0)))⟩, ⟨(some 22), (some (20, false)), (.pure (.move (.t 7)))⟩, ⟨(some 23), (some (20, false)), (.pure (.indexAddr 1 (.t 21) (.t 22)))⟩, ⟨(some 24), (some (20, false)), (.eff (.load1 (.t 23)))⟩, ⟨(some 25), (some (20, false)), (.pure (.move (.t 2)))⟩, ⟨(some 26), (some (20, false)), (.pure (.bin .gtr (.t 24) (.t 25)))⟩, ⟨(some 27), none, (.pure (.pick (.t 20) (.c (.bool true)) (.t 26)))⟩]) (.cond (.t 27) (.seq (.ops [⟨(some 6), none, (.pure (.move (.c (.int .i64 3))))⟩]) .ret) .skip)) (.seq (.dops [⟨⟨(some 28), none, (.pure (.move (.t 7)))⟩, 0, 0⟩, ⟨⟨(some 29), none, (.pure (.bin .gtr (.t 28) (.c (.int .i64 0))))⟩, 1, 0⟩, ⟨⟨(some 30), none, (.pure (.move (.t 29)))⟩, 2, 0⟩, ⟨⟨(some 31), (some (30, true)), (.pure (.move (.t 0)))⟩, 3, 0⟩, ⟨⟨(some 32), (some (30, true)), (.pure (.move (.t 7)))⟩, 4, 0⟩, ⟨⟨(some 33), (some (30, true)), (.pure (.bin .sub (.t 32) (.c (.int .i64 1))))⟩, 5, 0⟩, ⟨⟨(some 34), (some (30, true)), (.pure (.indexAddr 1 (.t 31) (.t 33)))⟩, 6, 0⟩, ⟨⟨(some 35), (some (30, true)), (.eff (.load1 (.t 34)))⟩, 7, 1⟩, ⟨⟨(some 36), (some (30, true)), (.pure (.move (.t 0)))⟩, 8, 0⟩, ⟨⟨(some 37), (some (30, true)), (.pure (.move (.t 7)))⟩, 9, 0⟩, ⟨⟨(some 38), (some (30, true)), (.pure (.indexAddr 1 (.t 36) (.t 37)))⟩, 10, 0⟩, ⟨⟨(some 39), (some (30, true)), (.eff (.load1 (.t 38)))⟩, 11, 1⟩, ⟨⟨(some 40), (some (30, true)), (.pure (.bin .geq (.t 35) (.t 39)))⟩, 12, 0⟩, ⟨⟨(some 41), none, (.pure (.pick (.t 30) (.t 40) (.c (.bool false))))⟩, 13, 0⟩]) (.cond (.t 41) (.seq (.ops [⟨(some 6), none, (.pure (.move (.c (.int .i64 6))))⟩]) .ret) .skip)))) (.ops [⟨(some 12), none, (.pure (.move (.t 7)))⟩, ⟨(some 13), none, (.pure (.bin .add (.t 12) (.c (.int .i64 1))))⟩, ⟨(some 7), none, (.pure (.move (.t 13)))⟩])))))) (.seq (.ops [⟨(some 6), none, (.pure (.move (.c (.int .i64 0))))⟩]) .ret)))
def rs_rSlots : List IRes := [(.tmp 6)]
theorem ir_rSlots_ok : (Func.body Try.f63).bind (irOf Try.prog Try.f63.ntmps) = some ir_rSlots := by kernel_rfl
theorem rs_rSlots_ok : Try.f63.results.toList.mapM (resOf Try.prog) = some rs_rSlots := by kernel_rfl
theorem ent_rSlots : enters Try.prog 63 = true := by kernel_rfl

def ir_firstFaultI : IR := (.seq (.ops [⟨(some 6), none, (.pure (.move (.c (.int .i64 0))))⟩]) (.seq (.seq (.ops [⟨(some 10), none, (.pure (.move (.t 0)))⟩, ⟨(some 11), none, (.pure (.len (.t 10)))⟩, ⟨(some 12), none, (.pure (.move (.c (.int .i64 0))))⟩]) (.block 0 (.loop (.seq (.ops [⟨(some 13), none, (.pure (.bin .lss (.t 12) (.t 11)))⟩]) (.seq (.cond (.t 13) .skip (.exit 0)) (.seq (.block 1 (.seq (.ops [⟨(some 14), none, (.pure (.move (.t 12)))⟩, ⟨(some 15), none, (.pure (.indexAddr 1 (.t 10) (.t 12)))⟩, ⟨(some 16), none, (.eff (.load1 (.t 15)))⟩, ⟨(some 7), none, (.pure (.move (.t 14)))⟩, ⟨(some 8), none, (.pure (.move (.t 16)))⟩]) (.seq (.seq (.ops [⟨(some 17), none, (.pure (.move (.t 2)))⟩, ⟨(some 18), none, (.pure (.move (.t 8)))⟩, ⟨(some 19), none, (.call (.t 17) [(.t 18)])⟩, ⟨(some 9), none, (.pure (.move (.t 19)))⟩]) (.seq (.ops [⟨(some 20), none, (.pure (.move (.t 9)))⟩, ⟨(some 21), none, (.pure (.bin .neq (.t 20) (.c (.int .i64 0))))⟩]) (.cond (.t 21) (.seq (.ops [⟨(some 22), none, (.pure (.move (.t 9)))⟩, ⟨(some 6), none, (.pure (.move (.t 22)))⟩]) .ret) .skip))) (.seq (.ops [⟨(some 23), none, (.pure (.move (.t 7)))⟩, ⟨(some 24), none, (.pure (.bin .gtr (.t 23) (.c (.int .i64 0))))⟩, ⟨(some 25), none, (.pure (.move (.t 24)))⟩, ⟨(some 26), (some (25, true)), (.pure (.move (.t 1)))⟩, ⟨(some 27), (some (25, true)), (.pure (.move (.t 0)))⟩, ⟨(some 28), (some (25, true)), (.pure (.move (.t 7)))⟩, ⟨(some 29), (some (25, true)), (.pure (.bin .sub (.t 28) (.c (.int .i64 1))))⟩, ⟨(some 30), (some (25, true)), (.pure (.indexAddr 1 (.t 27) (.t 29)))⟩, ⟨(some 31), (some (25, true)), (.eff (.load1 (.t 30)))⟩, ⟨(some 32), (some (25, true)), (.call (.t 26) [(.t 31)])⟩, ⟨(some 33), (some (25, true)), (.pure (.move (.t 1)))⟩, ⟨(some 34), (some (25, true)), (.pure (.move (.t 8)))⟩, ⟨(some 35), (some (25, true)), (.call (.t 33) [(.t 34)])⟩, ⟨(some 36), (some (25, true)), (.pure (.bin .geq (.t 32) (.t 35)))⟩, ⟨(some 37), none, (.pure (.pick (.t 25) (.t 36) (.c (.bool false))))⟩]) (.cond (.t 37) (.seq (.ops [⟨(some 6), none, (.pure (.move (.c (.int .i64 6))))⟩]) .ret) .skip))))) (.ops [⟨(some 38), none, (.pure (.bin .add (.t 12) (.c (.int .i64 1))))⟩, ⟨(some 12), none, (.pure (.move (.t 38)))⟩]))))))) (.seq (.ops [⟨(some 6), none, (.pure (.move (.c (.int .i64 0))))⟩]) .ret)))
def rs_firstFaultI : List IRes := [(.tmp 6)]
theorem ir_firstFaultI_ok : (Func.body Try.f94).bind (irOf Try.prog Try.f94.ntmps) = some ir_firstFaultI := by kernel_rfl
theorem rs_firstFaultI_ok : Try.f94.results.toList.mapM (resOf Try.prog) = some rs_firstFaultI := by kernel_rfl
theorem ent_firstFaultI : enters Try.prog 94 = true := by kernel_rfl

def ir_slotId : IR := (.seq (.ops [⟨(some 2), none, (.pure (.move (.c (.int .i64 0))))⟩]) (.seq (.ops [⟨(some 3), none, (.pure (.move (.t 0)))⟩, ⟨(some 2), none, (.pure (.move (.t 3)))⟩]) .ret))
def rs_slotId : List IRes := [(.tmp 2)]
theorem ir_slotId_ok : (Func.body Try.f95).bind (irOf Try.prog Try.f95.ntmps) = some ir_slotId := by kernel_rfl
theorem rs_slotId_ok : Try.f95.results.toList.mapM (resOf Try.prog) = some rs_slotId := by kernel_rfl
theorem ent_slotId : enters Try.prog 95 = true := by kernel_rfl

def ir_checkS : IR := (.seq (.ops [⟨(some 3), none, (.pure (.move (.c (.int .i64 0))))⟩]) (.seq (.seq (.ops [⟨(some 4), none, (.eff (.load1 (.t 1)))⟩, ⟨(some 5), none, (.pure (.move (.t 0)))⟩, ⟨(some 6), none, (.call (.t 4) [(.t 5)])⟩, ⟨(some 7), none, (.pure (.not (.t 6)))⟩]) (.cond (.t 7) (.seq (.ops [⟨(some 3), none, (.pure (.move (.c (.int .i64 3))))⟩]) .ret) .skip)) (.seq (.ops [⟨(some 3), none, (.pure (.move (.c (.int .i64 0))))⟩]) .ret)))
def rs_checkS : List IRes := [(.tmp 3)]
theorem ir_checkS_ok : (Func.body Try.f96).bind (irOf Try.prog Try.f96.ntmps) = some ir_checkS := by kernel_rfl
theorem rs_checkS_ok : Try.f96.results.toList.mapM (resOf Try.prog) = some rs_checkS := by kernel_rfl
theorem ent_checkS : enters Try.prog 96 = true := by kernel_rfl

end Go.Proofs.Ythbhljolpnbdlaa

