/- Texts of code of this program, checked against its dump. -/
import Derived.Test.YthbhljolpnbdlaaSIr3
set_option linter.unusedSimpArgs false
set_option linter.unusedVariables false
namespace Go.Proofs.Ythbhljolpnbdlaa
open Go Go.Vh
def ir_bsearch : IR := (.seq (.ops [⟨(some 4), none, (.pure (.move (.c (.int .i64 0))))⟩, ⟨(some 5), none, (.pure (.move (.c (.bool false))))⟩]) (.seq (.ops [⟨(some 10), none, (.pure (.move (.t 0)))⟩, ⟨(some 11), none, (.pure (.len (.t 10)))⟩, ⟨(some 6), none, (.pure (.move (.t 11)))⟩]) (.seq (.ops [⟨(some 12), none, (.pure (.move (.t 6)))⟩, ⟨(some 7), none, (.pure (.move (.c (.int .i64 0))))⟩, ⟨(some 8), none, (.pure (.move (.t 12)))⟩]) (.seq (.block 0 (.loop (.seq (.seq (.ops [⟨(some 13), none, (.pure (.move (.t 7)))⟩, ⟨(some 14), none, (.pure (.move (.t 8)))⟩, ⟨(some 15), none, (.pure (.bin .lss (.t 13) (.t 14)))⟩]) (.cond (.t 15) .skip (.exit 0))) (.block 1 (.seq (.ops [⟨(some 16), none, (.pure (.move (.t 7)))⟩, ⟨(some 17), none, (.pure (.move (.t 8)))⟩, ⟨(some 18), none, (.pure (.bin .add (.t 16) (.t 17)))⟩, ⟨(some 19), none, (.pure (.conv .u64 (.t 18)))⟩, ⟨(some 20), none, (.pure (.bin .shr (.t 19) (.c (.int .u64 1))))⟩, ⟨(some 21), none, (.pure (.conv .i64 (.t 20)))⟩, ⟨(some 9), none, (.pure (.move (.t 21)))⟩]) (.seq (.ops [⟨(some 22), none, (.pure (.move (.t 0)))⟩, ⟨(some 23), none, (.pure (.move (.t 9)))⟩, ⟨(some 24), none, (.pure (.indexAddr 1 (.t 22) (.t 23)))⟩, ⟨(some 25), none, (.eff (.load1 (.t 24)))⟩, ⟨(some 26), none, (.pure (.move (.t 1)))⟩, ⟨(some 27), none, (.call (.c (.func 99 [])) [(.t 25), (.t 26)])⟩]) (.cond (.t 27) (.ops [⟨(some 28), none, (.pure (.move (.t 9)))⟩, ⟨(some 29), none, (.pure (.bin .add (.t 28) (.c (.int .i64 1))))⟩, ⟨(some 7), none, (.pure (.move (.t 29)))⟩]) (.ops [⟨(some 30), none, (.pure (.move (.t 9)))⟩, ⟨(some 8), none, (.pure (.move (.t 30)))⟩])))))))) (.seq (.ops [⟨(some 31), none, (.pure (.move (.t 7)))⟩, ⟨(some 32), none, (.pure (.move (.t 7)))⟩, ⟨(some 33), none, (.pure (.move (.t 6)))⟩, ⟨(some 34), none, (.pure (.bin .lss (.t 32) (.t 33)))⟩, ⟨(some 35), none, (.pure (.move (.t 34)))⟩, ⟨(some 36), (some (35, true)), (.pure (.move (.t 0)))⟩, ⟨(some 37), (some (35, true)), (.pure (.move (.t 7)))⟩, ⟨(some 38), (some (35, true)), (.pure (.indexAddr 1 (.t 36) (.t 37)))⟩, ⟨(some 39), (some (35, true)), (.eff (.load1 (.t 38)))⟩, ⟨(some 40), (some (35, true)), (.pure (.move (.t 1)))⟩, ⟨(some 41), (some (35, true)), (.pure (.bin .eql (.t 39) (.t 40)))⟩, ⟨(some 42), (some (35, true)), (.pure (.move (.t 41)))⟩, ⟨(some 43), (some (42, false)), (.pure (.move (.t 0)))⟩, ⟨(some 44), (some (42, false)), (.pure (.move (.t 7)))⟩, ⟨(some 45), (some (42, false)), (.pure (.indexAddr 1 (.t 43) (.t 44)))⟩, ⟨(some 46), (some (42, false)), (.eff (.load1 (.t 45)))⟩, ⟨(some 47), (some (42, false)), (.call (.c (.func 100 [])) [(.t 46)])⟩, ⟨(some 48), (some (42, false)), (.pure (.move (.t 47)))⟩, ⟨(some 49), (some (48, true)), (.pure (.move (.t 1)))⟩, ⟨(some 50), (some (48, true)), (.call (.c (.func 100 [])) [(.t 49)])⟩, ⟨(some 51), (some (42, false)), (.pure (.pick (.t 48) (.t 50) (.c (.bool false))))⟩, ⟨(some 52), (some (35, true)), (.pure (.pick (.t 42) (.c (.bool true)) (.t 51)))⟩, ⟨(some 53), none, (.pure (.pick (.t 35) (.t 52) (.c (.bool false))))⟩, ⟨(some 4), none, (.pure (.move (.t 31)))⟩, ⟨(some 5), none, (.pure (.move (.t 53)))⟩]) .ret)))))
def rs_bsearch : List IRes := [(.tmp 4), (.tmp 5)]
theorem ir_bsearch_ok : (Func.body Try.f67).bind (irOf Try.prog Try.f67.ntmps) = some ir_bsearch := by kernel_rfl
theorem rs_bsearch_ok : Try.f67.results.toList.mapM (resOf Try.prog) = some rs_bsearch := by kernel_rfl
theorem ent_bsearch : enters Try.prog 67 = true := by kernel_rfl

def ir_cmpLess : IR := (.seq (.ops [⟨(some 4), none, (.pure (.move (.c (.bool false))))⟩]) (.seq (.ops [⟨(some 5), none, (.pure (.move (.t 0)))⟩, ⟨(some 6), none, (.call (.c (.func 129 [])) [(.t 5)])⟩, ⟨(some 7), none, (.pure (.move (.t 6)))⟩, ⟨(some 8), (some (7, true)), (.pure (.move (.t 1)))⟩, ⟨(some 9), (some (7, true)), (.call (.c (.func 129 [])) [(.t 8)])⟩, ⟨(some 10), (some (7, true)), (.pure (.not (.t 9)))⟩, ⟨(some 11), none, (.pure (.pick (.t 7) (.t 10) (.c (.bool false))))⟩, ⟨(some 12), none, (.pure (.move (.t 11)))⟩, ⟨(some 13), (some (12, false)), (.pure (.move (.t 0)))⟩, ⟨(some 14), (some (12, false)), (.pure (.move (.t 1)))⟩, ⟨(some 15), (some (12, false)), (.pure (.bin .lss (.t 13) (.t 14)))⟩, ⟨(some 16), none, (.pure (.pick (.t 12) (.c (.bool true)) (.t 15)))⟩, ⟨(some 4), none, (.pure (.move (.t 16)))⟩]) .ret))
def rs_cmpLess : List IRes := [(.tmp 4)]
theorem ir_cmpLess_ok : (Func.body Try.f99).bind (irOf Try.prog Try.f99.ntmps) = some ir_cmpLess := by kernel_rfl
theorem rs_cmpLess_ok : Try.f99.results.toList.mapM (resOf Try.prog) = some rs_cmpLess := by kernel_rfl
theorem ent_cmpLess : enters Try.prog 99 = true := by kernel_rfl

def ir_isNaN : IR := (.seq (.ops [⟨(some 2), none, (.pure (.move (.c (.bool false))))⟩]) (.seq (.ops [⟨(some 3), none, (.pure (.move (.t 0)))⟩, ⟨(some 4), none, (.pure (.move (.t 0)))⟩, ⟨(some 5), none, (.pure (.bin .neq (.t 3) (.t 4)))⟩, ⟨(some 2), none, (.pure (.move (.t 5)))⟩]) .ret))
def rs_isNaN : List IRes := [(.tmp 2)]
theorem ir_isNaN_ok : (Func.body Try.f100).bind (irOf Try.prog Try.f100.ntmps) = some ir_isNaN := by kernel_rfl
theorem rs_isNaN_ok : Try.f100.results.toList.mapM (resOf Try.prog) = some rs_isNaN := by kernel_rfl
theorem ent_isNaN : enters Try.prog 100 = true := by kernel_rfl

def ir_isNaN2 : IR := (.seq (.ops [⟨(some 2), none, (.pure (.move (.c (.bool false))))⟩]) (.seq (.ops [⟨(some 3), none, (.pure (.move (.t 0)))⟩, ⟨(some 4), none, (.pure (.move (.t 0)))⟩, ⟨(some 5), none, (.pure (.bin .neq (.t 3) (.t 4)))⟩, ⟨(some 2), none, (.pure (.move (.t 5)))⟩]) .ret))
def rs_isNaN2 : List IRes := [(.tmp 2)]
theorem ir_isNaN2_ok : (Func.body Try.f129).bind (irOf Try.prog Try.f129.ntmps) = some ir_isNaN2 := by kernel_rfl
theorem rs_isNaN2_ok : Try.f129.results.toList.mapM (resOf Try.prog) = some rs_isNaN2 := by kernel_rfl
theorem ent_isNaN2 : enters Try.prog 129 = true := by kernel_rfl

end Go.Proofs.Ythbhljolpnbdlaa

