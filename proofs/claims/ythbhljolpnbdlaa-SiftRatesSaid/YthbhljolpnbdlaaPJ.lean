/- Texts of code of this program, checked against its dump. -/
import Derived.Test.YthbhljolpnbdlaaV8
import Derived.Test.YthbhljolpnbdlaaChecked
set_option linter.unusedSimpArgs false
set_option linter.unusedVariables false
namespace Go.Proofs.Ythbhljolpnbdlaa.S1
open Go Go.Vh
def ir_rsmall : IR := (.seq (.ops [⟨(some 2), none, (.pure (.move (.c .nilslice)))⟩]) (.seq (.ops [⟨(some 3), none, (.pure (.move (.c .nilslice)))⟩]) (.seq (.block 0 (.loop (.seq (.seq (.ops [⟨(some 4), none, (.pure (.move (.t 0)))⟩, ⟨(some 5), none, (.pure (.bin .gtr (.t 4) (.c (.int .i64 0))))⟩]) (.cond (.t 5) .skip (.exit 0))) (.block 1 (.seq (.ops [⟨(some 6), none, (.pure (.move (.t 3)))⟩, ⟨(some 7), none, (.pure (.move (.t 0)))⟩, ⟨(some 8), none, (.pure (.bin .rem (.t 7) (.c (.int .i64 256))))⟩, ⟨(some 9), none, (.eff (.buildSlice 1 [(.int .i64 0)] [(0, (1, (.t 8)))]))⟩, ⟨(some 10), none, (.eff (.append 1 8 (.t 6) (.t 9)))⟩, ⟨(some 3), none, (.pure (.move (.t 10)))⟩]) (.ops [⟨(some 11), none, (.pure (.move (.t 0)))⟩, ⟨(some 12), none, (.pure (.bin .quo (.t 11) (.c (.int .i64 256))))⟩, ⟨(some 0), none, (.pure (.move (.t 12)))⟩])))))) (.seq (.ops [⟨(some 13), none, (.pure (.move (.t 3)))⟩, ⟨(some 2), none, (.pure (.move (.t 13)))⟩]) .ret))))
def rs_rsmall : List IRes := [(.tmp 2)]
theorem ir_rsmall_ok : (Func.body Try.f140).bind (irOf Try.prog Try.f140.ntmps) = some ir_rsmall := by kernel_rfl
theorem rs_rsmall_ok : Try.f140.results.toList.mapM (resOf Try.prog) = some rs_rsmall := by kernel_rfl
theorem ent_rsmall : enters Try.prog 140 = true := by kernel_rfl

def ir_radd : IR := (.seq (.ops [⟨(some 4), none, (.pure (.move (.c .nilslice)))⟩]) (.seq (.ops [⟨(some 5), none, (.pure (.move (.c .nilslice)))⟩]) (.seq (.ops [⟨(some 6), none, (.pure (.move (.c (.int .i64 0))))⟩]) (.seq (.seq (.ops [⟨(some 7), none, (.pure (.move (.c (.int .i64 0))))⟩]) (.block 0 (.loop (.seq (.seq (.ops [⟨(some 8), none, (.pure (.move (.t 7)))⟩, ⟨(some 9), none, (.pure (.move (.t 0)))⟩, ⟨(some 10), none, (.pure (.len (.t 9)))⟩, ⟨(some 11), none, (.pure (.bin .lss (.t 8) (.t 10)))⟩, ⟨(some 12), none, (.pure (.move (.t 11)))⟩, ⟨(some 13), (some (12, false)), (.pure (.move (.t 7)))⟩, ⟨(some 14), (some (12, false)), (.pure (.move (.t 1)))⟩, ⟨(some 15), (some (12, false)), (.pure (.len (.t 14)))⟩, ⟨(some 16), (some (12, false)), (.pure (.bin .lss (.t 13) (.t 15)))⟩, ⟨(some 17), none, (.pure (.pick (.t 12) (.c (.bool true)) (.t 16)))⟩, ⟨(some 18), none, (.pure (.move (.t 17)))⟩, ⟨(some 19), (some (18, false)), (.pure (.move (.t 6)))⟩, ⟨(some 20), (some (18, false)), (.pure (.bin .gtr (.t 19) (.c (.int .i64 0))))⟩, ⟨(some 21), none, (.pure (.pick (.t 18) (.c (.bool true)) (.t 20)))⟩]) (.cond (.t 21) .skip (.exit 0))) (.seq (.block 1 (.seq (.seq (.ops [⟨(some 24), none, (.pure (.move (.t 7)))⟩, ⟨(some 25), none, (.pure (.move (.t 0)))⟩, ⟨(some 26), none, (.pure (.len (.t 25)))⟩, ⟨(some 27), none, (.pure (.bin .lss (.t 24) (.t 26)))⟩]) (.cond (.t 27) (.ops [⟨(some 28), none, (.pure (.move (.t 6)))⟩, ⟨(some 29), none, (.pure (.move (.t 0)))⟩, ⟨(some 30), none, (.pure (.move (.t 7)))⟩, ⟨(some 31), none, (.pure (.indexAddr 1 (.t 29) (.t 30)))⟩, ⟨(some 32), none, (.eff (.load1 (.t 31)))⟩, ⟨(some 33), none, (.pure (.bin .add (.t 28) (.t 32)))⟩, ⟨(some 6), none, (.pure (.move (.t 33)))⟩]) .skip)) (.seq (.seq (.ops [⟨(some 34), none, (.pure (.move (.t 7)))⟩, ⟨(some 35), none, (.pure (.move (.t 1)))⟩, ⟨(some 36), none, (.pure (.len (.t 35)))⟩, ⟨(some 37), none, (.pure (.bin .lss (.t 34) (.t 36)))⟩]) (.cond (.t 37) (.ops [⟨(some 38), none, (.pure (.move (.t 6)))⟩, ⟨(some 39), none, (.pure (.move (.t 1)))⟩, ⟨(some 40), none, (.pure (.move (.t 7)))⟩, ⟨(some 41), none, (.pure (.indexAddr 1 (.t 39) (.t 40)))⟩, ⟨(some 42), none, (.eff (.load1 (.t 41)))⟩, ⟨(some 43), none, (.pure (.bin .add (.t 38) (.t 42)))⟩, ⟨(some 6), none, (.pure (.move (.t 43)))⟩]) .skip)) (.seq (.ops [⟨(some 44), none, (.pure (.move (.t 5)))⟩, ⟨(some 45), none, (.pure (.move (.t 6)))⟩, ⟨(some 46), none, (.pure (.bin .rem (.t 45) (.c (.int .i64 256))))⟩, ⟨(some 47), none, (.eff (.buildSlice 1 [(.int .i64 0)] [(0, (1, (.t 46)))]))⟩, ⟨(some 48), none, (.eff (.append 1 8 (.t 44) (.t 47)))⟩, ⟨(some 5), none, (.pure (.move (.t 48)))⟩]) (.ops [⟨(some 49), none, (.pure (.move (.t 6)))⟩, ⟨(some 50), none, (.pure (.bin .quo (.t 49) (.c (.int .i64 256))))⟩, ⟨(some 6), none, (.pure (.move (.t 50)))⟩]))))) (.ops [⟨(some 22), none, (.pure (.move (.t 7)))⟩, ⟨(some 23), none, (.pure (.bin .add (.t 22) (.c (.int .i64 1))))⟩, ⟨(some 7), none, (.pure (.move (.t 23)))⟩])))))) (.seq (.ops [⟨(some 51), none, (.pure (.move (.t 5)))⟩, ⟨(some 52), none, (.call (.c (.func 126 [])) [(.t 51)])⟩, ⟨(some 4), none, (.pure (.move (.t 52)))⟩]) .ret)))))
def rs_radd : List IRes := [(.tmp 4)]
theorem ir_radd_ok : (Func.body Try.f142).bind (irOf Try.prog Try.f142.ntmps) = some ir_radd := by kernel_rfl
theorem rs_radd_ok : Try.f142.results.toList.mapM (resOf Try.prog) = some rs_radd := by kernel_rfl
theorem ent_radd : enters Try.prog 142 = true := by kernel_rfl

def ir_rsub : IR := (.seq (.ops [⟨(some 4), none, (.pure (.move (.c .nilslice)))⟩]) (.seq (.ops [⟨(some 5), none, (.pure (.move (.c .nilslice)))⟩]) (.seq (.ops [⟨(some 6), none, (.pure (.move (.c (.int .i64 0))))⟩]) (.seq (.seq (.ops [⟨(some 7), none, (.pure (.move (.c (.int .i64 0))))⟩]) (.block 0 (.loop (.seq (.seq (.ops [⟨(some 9), none, (.pure (.move (.t 7)))⟩, ⟨(some 10), none, (.pure (.move (.t 0)))⟩, ⟨(some 11), none, (.pure (.len (.t 10)))⟩, ⟨(some 12), none, (.pure (.bin .lss (.t 9) (.t 11)))⟩]) (.cond (.t 12) .skip (.exit 0))) (.seq (.block 1 (.seq (.ops [⟨(some 15), none, (.pure (.move (.t 0)))⟩, ⟨(some 16), none, (.pure (.move (.t 7)))⟩, ⟨(some 17), none, (.pure (.indexAddr 1 (.t 15) (.t 16)))⟩, ⟨(some 18), none, (.eff (.load1 (.t 17)))⟩, ⟨(some 19), none, (.pure (.move (.t 6)))⟩, ⟨(some 20), none, (.pure (.bin .sub (.t 18) (.t 19)))⟩, ⟨(some 8), none, (.pure (.move (.t 20)))⟩]) (.seq (.seq (.ops [⟨(some 21), none, (.pure (.move (.t 7)))⟩, ⟨(some 22), none, (.pure (.move (.t 1)))⟩, ⟨(some 23), none, (.pure (.len (.t 22)))⟩, ⟨(some 24), none, (.pure (.bin .lss (.t 21) (.t 23)))⟩]) (.cond (.t 24) (.ops [⟨(some 25), none, (.pure (.move (.t 8)))⟩, ⟨(some 26), none, (.pure (.move (.t 1)))⟩, ⟨(some 27), none, (.pure (.move (.t 7)))⟩, ⟨(some 28), none, (.pure (.indexAddr 1 (.t 26) (.t 27)))⟩, ⟨(some 29), none, (.eff (.load1 (.t 28)))⟩, ⟨(some 30), none, (.pure (.bin .sub (.t 25) (.t 29)))⟩, ⟨(some 8), none, (.pure (.move (.t 30)))⟩]) .skip)) (.seq (.ops [⟨(some 6), none, (.pure (.move (.c (.int .i64 0))))⟩]) (.seq (.seq (.ops [⟨(some 31), none, (.pure (.move (.t 8)))⟩, ⟨(some 32), none, (.pure (.bin .lss (.t 31) (.c (.int .i64 0))))⟩]) (.cond (.t 32) (.seq (.ops [⟨(some 33), none, (.pure (.move (.t 8)))⟩, ⟨(some 34), none, (.pure (.bin .add (.t 33) (.c (.int .i64 256))))⟩, ⟨(some 8), none, (.pure (.move (.t 34)))⟩]) (.ops [⟨(some 6), none, (.pure (.move (.c (.int .i64 1))))⟩])) .skip)) (.ops [⟨(some 35), none, (.pure (.move (.t 5)))⟩, ⟨(some 36), none, (.pure (.move (.t 8)))⟩, ⟨(some 37), none, (.eff (.buildSlice 1 [(.int .i64 0)] [(0, (1, (.t 36)))]))⟩, ⟨(some 38), none, (.eff (.append 1 8 (.t 35) (.t 37)))⟩, ⟨(some 5), none, (.pure (.move (.t 38)))⟩])))))) (.ops [⟨(some 13), none, (.pure (.move (.t 7)))⟩, ⟨(some 14), none, (.pure (.bin .add (.t 13) (.c (.int .i64 1))))⟩, ⟨(some 7), none, (.pure (.move (.t 14)))⟩])))))) (.seq (.ops [⟨(some 39), none, (.pure (.move (.t 5)))⟩, ⟨(some 40), none, (.call (.c (.func 126 [])) [(.t 39)])⟩, ⟨(some 4), none, (.pure (.move (.t 40)))⟩]) .ret)))))
def rs_rsub : List IRes := [(.tmp 4)]
theorem ir_rsub_ok : (Func.body Try.f159).bind (irOf Try.prog Try.f159.ntmps) = some ir_rsub := by kernel_rfl
theorem rs_rsub_ok : Try.f159.results.toList.mapM (resOf Try.prog) = some rs_rsub := by kernel_rfl
theorem ent_rsub : enters Try.prog 159 = true := by kernel_rfl

def ir_rcompare : IR := (.seq (.ops [⟨(some 4), none, (.pure (.move (.c (.int .i64 0))))⟩]) (.seq (.seq (.ops [⟨(some 6), none, (.pure (.move (.t 0)))⟩, ⟨(some 7), none, (.pure (.len (.t 6)))⟩, ⟨(some 8), none, (.pure (.move (.t 1)))⟩, ⟨(some 9), none, (.pure (.len (.t 8)))⟩, ⟨(some 10), none, (.pure (.bin .neq (.t 7) (.t 9)))⟩]) (.cond (.t 10) (.seq (.seq (.ops [⟨(some 11), none, (.pure (.move (.t 0)))⟩, ⟨(some 12), none, (.pure (.len (.t 11)))⟩, ⟨(some 13), none, (.pure (.move (.t 1)))⟩, ⟨(some 14), none, (.pure (.len (.t 13)))⟩, ⟨(some 15), none, (.pure (.bin .lss (.t 12) (.t 14)))⟩]) (.cond (.t 15) (.seq (.ops [⟨(some 4), none, (.pure (.move (.c (.int .i64 (-1)))))⟩]) .ret) .skip)) (.seq (.ops [⟨(some 4), none, (.pure (.move (.c (.int .i64 1))))⟩]) .ret)) .skip)) (.seq (.seq (.ops [⟨(some 16), none, (.pure (.move (.t 0)))⟩, ⟨(some 17), none, (.pure (.len (.t 16)))⟩, ⟨(some 18), none, (.pure (.bin .sub (.t 17) (.c (.int .i64 1))))⟩, ⟨(some 5), none, (.pure (.move (.t 18)))⟩]) (.block 0 (.loop (.seq (.seq (.ops [⟨(some 19), none, (.pure (.move (.t 5)))⟩, ⟨(some 20), none, (.pure (.bin .geq (.t 19) (.c (.int .i64 0))))⟩]) (.cond (.t 20) .skip (.exit 0))) (.seq (.block 1 (.seq (.seq (.dops [⟨⟨(some 23), none, (.pure (.move (.t 0)))⟩, 0, 0⟩, ⟨⟨(some 24), none, (.pure (.move (.t 5)))⟩, 1, 0⟩, ⟨⟨(some 25), none, (.pure (.indexAddr 1 (.t 23) (.t 24)))⟩, 2, 0⟩, ⟨⟨(some 26), none, (.eff (.load1 (.t 25)))⟩, 3, 1⟩, ⟨⟨(some 27), none, (.pure (.move (.t 1)))⟩, 4, 0⟩, ⟨⟨(some 28), none, (.pure (.move (.t 5)))⟩, 5, 0⟩, ⟨⟨(some 29), none, (.pure (.indexAddr 1 (.t 27) (.t 28)))⟩, 6, 0⟩, ⟨⟨(some 30), none, (.eff (.load1 (.t 29)))⟩, 7, 1⟩, ⟨⟨(some 31), none, (.pure (.bin .lss (.t 26) (.t 30)))⟩, 8, 0⟩]) (.cond (.t 31) (.seq (.ops [⟨(some 4), none, (.pure (.move (.c (.int .i64 (-1)))))⟩]) .ret) .skip)) (.seq (.dops [⟨⟨(some 32), none, (.pure (.move (.t 0)))⟩, 0, 0⟩, ⟨⟨(some 33), none, (.pure (.move (.t 5)))⟩, 1, 0⟩, ⟨⟨(some 34), none, (.pure (.indexAddr 1 (.t 32) (.t 33)))⟩, 2, 0⟩, ⟨⟨(some 35), none, (.eff (.load1 (.t 34)))⟩, 3, 1⟩, ⟨⟨(some 36), none, (.pure (.move (.t 1)))⟩, 4, 0⟩, ⟨⟨(some 37), none, (.pure (.move (.t 5)))⟩, 5, 0⟩, ⟨⟨(some 38), none, (.pure (.indexAddr 1 (.t 36) (.t 37)))⟩, 6, 0⟩, ⟨⟨(some 39), none, (.eff (.load1 (.t 38)))⟩, 7, 1⟩, ⟨⟨(some 40), none, (.pure (.bin .gtr (.t 35) (.t 39)))⟩, 8, 0⟩]) (.cond (.t 40) (.seq (.ops [⟨(some 4), none, (.pure (.move (.c (.int .i64 1))))⟩]) .ret) .skip)))) (.ops [⟨(some 21), none, (.pure (.move (.t 5)))⟩, ⟨(some 22), none, (.pure (.bin .sub (.t 21) (.c (.int .i64 1))))⟩, ⟨(some 5), none, (.pure (.move (.t 22)))⟩])))))) (.seq (.ops [⟨(some 4), none, (.pure (.move (.c (.int .i64 0))))⟩]) .ret))))
def rs_rcompare : List IRes := [(.tmp 4)]
theorem ir_rcompare_ok : (Func.body Try.f117).bind (irOf Try.prog Try.f117.ntmps) = some ir_rcompare := by kernel_rfl
theorem rs_rcompare_ok : Try.f117.results.toList.mapM (resOf Try.prog) = some rs_rcompare := by kernel_rfl
theorem ent_rcompare : enters Try.prog 117 = true := by kernel_rfl

def ir_rmul : IR := (.seq (.ops [⟨(some 4), none, (.pure (.move (.c .nilslice)))⟩]) (.seq (.ops [⟨(some 10), none, (.pure (.move (.t 0)))⟩, ⟨(some 11), none, (.pure (.len (.t 10)))⟩, ⟨(some 12), none, (.pure (.move (.t 1)))⟩, ⟨(some 13), none, (.pure (.len (.t 12)))⟩, ⟨(some 14), none, (.pure (.bin .add (.t 11) (.t 13)))⟩, ⟨(some 15), none, (.eff (.makeSlice (.int .i64 0) 8 (.t 14) (.t 14)))⟩, ⟨(some 5), none, (.pure (.move (.t 15)))⟩]) (.seq (.seq (.ops [⟨(some 6), none, (.pure (.move (.c (.int .i64 0))))⟩]) (.block 0 (.loop (.seq (.seq (.ops [⟨(some 16), none, (.pure (.move (.t 6)))⟩, ⟨(some 17), none, (.pure (.move (.t 0)))⟩, ⟨(some 18), none, (.pure (.len (.t 17)))⟩, ⟨(some 19), none, (.pure (.bin .lss (.t 16) (.t 18)))⟩]) (.cond (.t 19) .skip (.exit 0))) (.seq (.block 1 (.seq (.ops [⟨(some 7), none, (.pure (.move (.c (.int .i64 0))))⟩]) (.seq (.seq (.ops [⟨(some 8), none, (.pure (.move (.c (.int .i64 0))))⟩]) (.block 2 (.loop (.seq (.seq (.ops [⟨(some 22), none, (.pure (.move (.t 8)))⟩, ⟨(some 23), none, (.pure (.move (.t 1)))⟩, ⟨(some 24), none, (.pure (.len (.t 23)))⟩, ⟨(some 25), none, (.pure (.bin .lss (.t 22) (.t 24)))⟩]) (.cond (.t 25) .skip (.exit 2))) (.seq (.block 3 (.seq (.dops [⟨⟨(some 28), none, (.pure (.move (.t 5)))⟩, 0, 0⟩, ⟨⟨(some 29), none, (.pure (.move (.t 6)))⟩, 1, 0⟩, ⟨⟨(some 30), none, (.pure (.move (.t 8)))⟩, 2, 0⟩, ⟨⟨(some 31), none, (.pure (.bin .add (.t 29) (.t 30)))⟩, 3, 0⟩, ⟨⟨(some 32), none, (.pure (.indexAddr 1 (.t 28) (.t 31)))⟩, 4, 0⟩, ⟨⟨(some 33), none, (.eff (.load1 (.t 32)))⟩, 5, 1⟩, ⟨⟨(some 34), none, (.pure (.move (.t 0)))⟩, 6, 0⟩, ⟨⟨(some 35), none, (.pure (.move (.t 6)))⟩, 7, 0⟩, ⟨⟨(some 36), none, (.pure (.indexAddr 1 (.t 34) (.t 35)))⟩, 8, 0⟩, ⟨⟨(some 37), none, (.eff (.load1 (.t 36)))⟩, 9, 1⟩, ⟨⟨(some 38), none, (.pure (.move (.t 1)))⟩, 10, 0⟩, ⟨⟨(some 39), none, (.pure (.move (.t 8)))⟩, 11, 0⟩, ⟨⟨(some 40), none, (.pure (.indexAddr 1 (.t 38) (.t 39)))⟩, 12, 0⟩, ⟨⟨(some 41), none, (.eff (.load1 (.t 40)))⟩, 13, 1⟩, ⟨⟨(some 42), none, (.pure (.bin .mul (.t 37) (.t 41)))⟩, 14, 0⟩, ⟨⟨(some 43), none, (.pure (.bin .add (.t 33) (.t 42)))⟩, 15, 0⟩, ⟨⟨(some 44), none, (.pure (.move (.t 7)))⟩, 16, 0⟩, ⟨⟨(some 45), none, (.pure (.bin .add (.t 43) (.t 44)))⟩, 17, 0⟩, ⟨⟨(some 9), none, (.pure (.move (.t 45)))⟩, 18, 0⟩]) (.seq (.ops [⟨(some 46), none, (.pure (.move (.t 5)))⟩, ⟨(some 47), none, (.pure (.move (.t 6)))⟩, ⟨(some 48), none, (.pure (.move (.t 8)))⟩, ⟨(some 49), none, (.pure (.bin .add (.t 47) (.t 48)))⟩, ⟨(some 50), none, (.pure (.move (.t 9)))⟩, ⟨(some 51), none, (.pure (.bin .rem (.t 50) (.c (.int .i64 256))))⟩, ⟨(some 52), none, (.pure (.indexAddr 1 (.t 46) (.t 49)))⟩, ⟨none, none, (.eff (.store 1 (.t 52) (.t 51)))⟩]) (.ops [⟨(some 53), none, (.pure (.move (.t 9)))⟩, ⟨(some 54), none, (.pure (.bin .quo (.t 53) (.c (.int .i64 256))))⟩, ⟨(some 7), none, (.pure (.move (.t 54)))⟩])))) (.ops [⟨(some 26), none, (.pure (.move (.t 8)))⟩, ⟨(some 27), none, (.pure (.bin .add (.t 26) (.c (.int .i64 1))))⟩, ⟨(some 8), none, (.pure (.move (.t 27)))⟩])))))) (.ops [⟨(some 55), none, (.pure (.move (.t 5)))⟩, ⟨(some 56), none, (.pure (.move (.t 6)))⟩, ⟨(some 57), none, (.pure (.move (.t 1)))⟩, ⟨(some 58), none, (.pure (.len (.t 57)))⟩, ⟨(some 59), none, (.pure (.bin .add (.t 56) (.t 58)))⟩, ⟨(some 60), none, (.pure (.move (.t 5)))⟩, ⟨(some 61), none, (.pure (.move (.t 6)))⟩, ⟨(some 62), none, (.pure (.move (.t 1)))⟩, ⟨(some 63), none, (.pure (.len (.t 62)))⟩, ⟨(some 64), none, (.pure (.bin .add (.t 61) (.t 63)))⟩, ⟨(some 65), none, (.pure (.indexAddr 1 (.t 60) (.t 64)))⟩, ⟨(some 66), none, (.eff (.load1 (.t 65)))⟩, ⟨(some 67), none, (.pure (.move (.t 7)))⟩, ⟨(some 68), none, (.pure (.bin .add (.t 66) (.t 67)))⟩, ⟨(some 69), none, (.pure (.indexAddr 1 (.t 55) (.t 59)))⟩, ⟨none, none, (.eff (.store 1 (.t 69) (.t 68)))⟩])))) (.ops [⟨(some 20), none, (.pure (.move (.t 6)))⟩, ⟨(some 21), none, (.pure (.bin .add (.t 20) (.c (.int .i64 1))))⟩, ⟨(some 6), none, (.pure (.move (.t 21)))⟩])))))) (.seq (.ops [⟨(some 70), none, (.pure (.move (.t 5)))⟩, ⟨(some 71), none, (.call (.c (.func 126 [])) [(.t 70)])⟩, ⟨(some 4), none, (.pure (.move (.t 71)))⟩]) .ret))))
def rs_rmul : List IRes := [(.tmp 4)]
theorem ir_rmul_ok : (Func.body Try.f119).bind (irOf Try.prog Try.f119.ntmps) = some ir_rmul := by kernel_rfl
theorem rs_rmul_ok : Try.f119.results.toList.mapM (resOf Try.prog) = some rs_rmul := by kernel_rfl
theorem ent_rmul : enters Try.prog 119 = true := by kernel_rfl

def ir_rdivide : IR := (.seq (.ops [⟨(some 4), none, (.pure (.move (.c .nilslice)))⟩, ⟨(some 5), none, (.pure (.move (.c .nilslice)))⟩]) (.seq (.seq (.ops [⟨(some 13), none, (.pure (.move (.t 0)))⟩, ⟨(some 14), none, (.pure (.len (.t 13)))⟩, ⟨(some 15), none, (.pure (.move (.t 1)))⟩, ⟨(some 16), none, (.pure (.len (.t 15)))⟩, ⟨(some 17), none, (.pure (.bin .lss (.t 14) (.t 16)))⟩]) (.cond (.t 17) (.seq (.ops [⟨(some 18), none, (.pure (.move (.t 0)))⟩, ⟨(some 4), none, (.pure (.move (.c .nilslice)))⟩, ⟨(some 5), none, (.pure (.move (.t 18)))⟩]) .ret) .skip)) (.seq (.ops [⟨(some 19), none, (.pure (.move (.t 1)))⟩, ⟨(some 20), none, (.eff (.buildSlice 1 [.nilslice] [(0, (1, (.t 19)))]))⟩, ⟨(some 6), none, (.pure (.move (.t 20)))⟩]) (.seq (.seq (.ops [⟨(some 7), none, (.pure (.move (.c (.int .i64 1))))⟩]) (.block 0 (.loop (.seq (.seq (.ops [⟨(some 21), none, (.pure (.move (.t 7)))⟩, ⟨(some 22), none, (.pure (.bin .lss (.t 21) (.c (.int .i64 8))))⟩]) (.cond (.t 22) .skip (.exit 0))) (.seq (.block 1 (.dops [⟨⟨(some 25), none, (.pure (.move (.t 6)))⟩, 0, 0⟩, ⟨⟨(some 26), none, (.pure (.move (.t 6)))⟩, 1, 0⟩, ⟨⟨(some 27), none, (.pure (.move (.t 7)))⟩, 2, 0⟩, ⟨⟨(some 28), none, (.pure (.bin .sub (.t 27) (.c (.int .i64 1))))⟩, 3, 0⟩, ⟨⟨(some 29), none, (.pure (.indexAddr 1 (.t 26) (.t 28)))⟩, 4, 0⟩, ⟨⟨(some 30), none, (.eff (.load1 (.t 29)))⟩, 5, 1⟩, ⟨⟨(some 31), none, (.pure (.move (.t 6)))⟩, 6, 0⟩, ⟨⟨(some 32), none, (.pure (.move (.t 7)))⟩, 7, 0⟩, ⟨⟨(some 33), none, (.pure (.bin .sub (.t 32) (.c (.int .i64 1))))⟩, 8, 0⟩, ⟨⟨(some 34), none, (.pure (.indexAddr 1 (.t 31) (.t 33)))⟩, 9, 0⟩, ⟨⟨(some 35), none, (.eff (.load1 (.t 34)))⟩, 10, 1⟩, ⟨⟨(some 36), none, (.call (.c (.func 142 [])) [(.t 30), (.t 35)])⟩, 11, 3⟩, ⟨⟨(some 37), none, (.eff (.buildSlice 1 [.nilslice] [(0, (1, (.t 36)))]))⟩, 12, 3⟩, ⟨⟨(some 38), none, (.eff (.append 1 24 (.t 25) (.t 37)))⟩, 13, 3⟩, ⟨⟨(some 6), none, (.pure (.move (.t 38)))⟩, 14, 0⟩])) (.ops [⟨(some 23), none, (.pure (.move (.t 7)))⟩, ⟨(some 24), none, (.pure (.bin .add (.t 23) (.c (.int .i64 1))))⟩, ⟨(some 7), none, (.pure (.move (.t 24)))⟩])))))) (.seq (.ops [⟨(some 39), none, (.pure (.move (.t 0)))⟩, ⟨(some 40), none, (.pure (.len (.t 39)))⟩, ⟨(some 41), none, (.eff (.makeSlice (.int .i64 0) 8 (.t 40) (.t 40)))⟩, ⟨(some 8), none, (.pure (.move (.t 41)))⟩]) (.seq (.ops [⟨(some 42), none, (.pure (.move (.t 0)))⟩, ⟨(some 43), none, (.pure (.len (.t 42)))⟩, ⟨(some 44), none, (.pure (.move (.t 1)))⟩, ⟨(some 45), none, (.pure (.len (.t 44)))⟩, ⟨(some 46), none, (.pure (.bin .sub (.t 43) (.t 45)))⟩, ⟨(some 47), none, (.pure (.bin .add (.t 46) (.c (.int .i64 1))))⟩, ⟨(some 9), none, (.pure (.move (.t 47)))⟩]) (.seq (.ops [⟨(some 48), none, (.eff (.buildSlice 0 [] []))⟩, ⟨(some 49), none, (.pure (.move (.t 0)))⟩, ⟨(some 50), none, (.pure (.move (.t 9)))⟩, ⟨(some 51), none, (.pure (.slice 1 (.t 49) (some (.t 50)) none))⟩, ⟨(some 52), none, (.eff (.append 1 8 (.t 48) (.t 51)))⟩, ⟨(some 53), none, (.call (.c (.func 126 [])) [(.t 52)])⟩, ⟨(some 10), none, (.pure (.move (.t 53)))⟩]) (.seq (.seq (.ops [⟨(some 54), none, (.pure (.move (.t 9)))⟩, ⟨(some 55), none, (.pure (.bin .sub (.t 54) (.c (.int .i64 1))))⟩, ⟨(some 11), none, (.pure (.move (.t 55)))⟩]) (.block 2 (.loop (.seq (.seq (.ops [⟨(some 56), none, (.pure (.move (.t 11)))⟩, ⟨(some 57), none, (.pure (.bin .geq (.t 56) (.c (.int .i64 0))))⟩]) (.cond (.t 57) .skip (.exit 2))) (.seq (.block 3 (.seq (.ops [⟨(some 60), none, (.pure (.move (.t 0)))⟩, ⟨(some 61), none, (.pure (.move (.t 11)))⟩, ⟨(some 62), none, (.pure (.indexAddr 1 (.t 60) (.t 61)))⟩, ⟨(some 63), none, (.eff (.load1 (.t 62)))⟩, ⟨(some 64), none, (.eff (.buildSlice 1 [(.int .i64 0)] [(0, (1, (.t 63)))]))⟩, ⟨(some 65), none, (.pure (.move (.t 10)))⟩, ⟨(some 66), none, (.eff (.append 1 8 (.t 64) (.t 65)))⟩, ⟨(some 67), none, (.call (.c (.func 126 [])) [(.t 66)])⟩, ⟨(some 10), none, (.pure (.move (.t 67)))⟩]) (.seq (.ops [⟨(some 12), none, (.pure (.move (.c (.int .i64 7))))⟩]) (.block 4 (.loop (.seq (.seq (.ops [⟨(some 68), none, (.pure (.move (.t 12)))⟩, ⟨(some 69), none, (.pure (.bin .geq (.t 68) (.c (.int .i64 0))))⟩]) (.cond (.t 69) .skip (.exit 4))) (.seq (.block 5 (.seq (.ops [⟨(some 72), none, (.pure (.move (.t 8)))⟩, ⟨(some 73), none, (.pure (.move (.t 11)))⟩, ⟨(some 74), none, (.pure (.move (.t 8)))⟩, ⟨(some 75), none, (.pure (.move (.t 11)))⟩, ⟨(some 76), none, (.pure (.indexAddr 1 (.t 74) (.t 75)))⟩, ⟨(some 77), none, (.eff (.load1 (.t 76)))⟩, ⟨(some 78), none, (.pure (.bin .mul (.c (.int .i64 2)) (.t 77)))⟩, ⟨(some 79), none, (.pure (.indexAddr 1 (.t 72) (.t 73)))⟩, ⟨none, none, (.eff (.store 1 (.t 79) (.t 78)))⟩]) (.seq (.ops [⟨(some 80), none, (.pure (.move (.t 10)))⟩, ⟨(some 81), none, (.pure (.move (.t 6)))⟩, ⟨(some 82), none, (.pure (.move (.t 12)))⟩, ⟨(some 83), none, (.pure (.indexAddr 1 (.t 81) (.t 82)))⟩, ⟨(some 84), none, (.eff (.load1 (.t 83)))⟩, ⟨(some 85), none, (.call (.c (.func 117 [])) [(.t 80), (.t 84)])⟩, ⟨(some 86), none, (.pure (.bin .geq (.t 85) (.c (.int .i64 0))))⟩]) (.cond (.t 86) (.seq (.ops [⟨(some 87), none, (.pure (.move (.t 10)))⟩, ⟨(some 88), none, (.pure (.move (.t 6)))⟩, ⟨(some 89), none, (.pure (.move (.t 12)))⟩, ⟨(some 90), none, (.pure (.indexAddr 1 (.t 88) (.t 89)))⟩, ⟨(some 91), none, (.eff (.load1 (.t 90)))⟩, ⟨(some 92), none, (.call (.c (.func 159 [])) [(.t 87), (.t 91)])⟩, ⟨(some 10), none, (.pure (.move (.t 92)))⟩]) (.ops [⟨(some 93), none, (.pure (.move (.t 8)))⟩, ⟨(some 94), none, (.pure (.move (.t 11)))⟩, ⟨(some 95), none, (.pure (.indexAddr 1 (.t 93) (.t 94)))⟩, ⟨(some 96), none, (.eff (.load1 (.t 95)))⟩, ⟨(some 97), none, (.pure (.bin .add (.t 96) (.c (.int .i64 1))))⟩, ⟨(some 98), none, (.pure (.indexAddr 1 (.t 93) (.t 94)))⟩, ⟨none, none, (.eff (.store 1 (.t 98) (.t 97)))⟩])) .skip)))) (.ops [⟨(some 70), none, (.pure (.move (.t 12)))⟩, ⟨(some 71), none, (.pure (.bin .sub (.t 70) (.c (.int .i64 1))))⟩, ⟨(some 12), none, (.pure (.move (.t 71)))⟩])))))))) (.ops [⟨(some 58), none, (.pure (.move (.t 11)))⟩, ⟨(some 59), none, (.pure (.bin .sub (.t 58) (.c (.int .i64 1))))⟩, ⟨(some 11), none, (.pure (.move (.t 59)))⟩])))))) (.seq (.ops [⟨(some 99), none, (.pure (.move (.t 8)))⟩, ⟨(some 100), none, (.call (.c (.func 126 [])) [(.t 99)])⟩, ⟨(some 101), none, (.pure (.move (.t 10)))⟩, ⟨(some 4), none, (.pure (.move (.t 100)))⟩, ⟨(some 5), none, (.pure (.move (.t 101)))⟩]) .ret)))))))))
def rs_rdivide : List IRes := [(.tmp 4), (.tmp 5)]
theorem ir_rdivide_ok : (Func.body Try.f141).bind (irOf Try.prog Try.f141.ntmps) = some ir_rdivide := by kernel_rfl
theorem rs_rdivide_ok : Try.f141.results.toList.mapM (resOf Try.prog) = some rs_rdivide := by kernel_rfl
theorem ent_rdivide : enters Try.prog 141 = true := by kernel_rfl

def ir_rrow : IR := (.seq (.ops [⟨(some 2), none, (.pure (.move (.c .nilslice)))⟩]) (.seq (.ops [⟨(some 7), none, (.call (.c (.func 140 [])) [(.c (.int .i64 1))])⟩, ⟨(some 8), none, (.eff (.buildSlice 1 [.nilslice] [(0, (1, (.t 7)))]))⟩, ⟨(some 3), none, (.pure (.move (.t 8)))⟩]) (.seq (.seq (.ops [⟨(some 4), none, (.pure (.move (.c (.int .i64 1))))⟩]) (.block 0 (.loop (.seq (.seq (.ops [⟨(some 9), none, (.pure (.move (.t 4)))⟩, ⟨(some 10), none, (.pure (.move (.t 0)))⟩, ⟨(some 11), none, (.pure (.bin .leq (.t 9) (.t 10)))⟩]) (.cond (.t 11) .skip (.exit 0))) (.seq (.block 1 (.seq (.dops [⟨⟨(some 15), none, (.pure (.move (.t 3)))⟩, 0, 0⟩, ⟨⟨(some 16), none, (.pure (.move (.t 4)))⟩, 1, 0⟩, ⟨⟨(some 17), none, (.pure (.bin .sub (.t 16) (.c (.int .i64 1))))⟩, 2, 0⟩, ⟨⟨(some 18), none, (.pure (.indexAddr 1 (.t 15) (.t 17)))⟩, 3, 0⟩, ⟨⟨(some 19), none, (.eff (.load1 (.t 18)))⟩, 4, 1⟩, ⟨⟨(some 20), none, (.pure (.move (.t 0)))⟩, 5, 0⟩, ⟨⟨(some 21), none, (.pure (.move (.t 4)))⟩, 6, 0⟩, ⟨⟨(some 22), none, (.pure (.bin .sub (.t 20) (.t 21)))⟩, 7, 0⟩, ⟨⟨(some 23), none, (.pure (.bin .add (.t 22) (.c (.int .i64 1))))⟩, 8, 0⟩, ⟨⟨(some 26), none, (.pure (.move (.t 4)))⟩, 11, 0⟩, ⟨⟨(some 24), none, (.call (.c (.func 140 [])) [(.t 23)])⟩, 9, 2⟩, ⟨⟨(some 25), none, (.call (.c (.func 119 [])) [(.t 19), (.t 24)])⟩, 10, 3⟩, ⟨⟨(some 27), none, (.call (.c (.func 140 [])) [(.t 26)])⟩, 12, 3⟩, ⟨⟨(some 28), none, (.call (.c (.func 141 [])) [(.t 25), (.t 27)])⟩, 13, 3⟩, ⟨⟨(some 14), none, (.pure (.move (.t 28)))⟩, 14, 0⟩, ⟨⟨(some 29), none, (.pure (.extract (.t 14) 0))⟩, 15, 0⟩, ⟨⟨(some 30), none, (.pure (.extract (.t 14) 1))⟩, 16, 0⟩, ⟨⟨(some 5), none, (.pure (.move (.t 29)))⟩, 17, 0⟩, ⟨⟨(some 6), none, (.pure (.move (.t 30)))⟩, 18, 0⟩]) (.ops [⟨(some 31), none, (.pure (.move (.t 3)))⟩, ⟨(some 32), none, (.pure (.move (.t 5)))⟩, ⟨(some 33), none, (.eff (.buildSlice 1 [.nilslice] [(0, (1, (.t 32)))]))⟩, ⟨(some 34), none, (.eff (.append 1 24 (.t 31) (.t 33)))⟩, ⟨(some 3), none, (.pure (.move (.t 34)))⟩]))) (.ops [⟨(some 12), none, (.pure (.move (.t 4)))⟩, ⟨(some 13), none, (.pure (.bin .add (.t 12) (.c (.int .i64 1))))⟩, ⟨(some 4), none, (.pure (.move (.t 13)))⟩])))))) (.seq (.ops [⟨(some 35), none, (.pure (.move (.t 3)))⟩, ⟨(some 2), none, (.pure (.move (.t 35)))⟩]) .ret))))
def rs_rrow : List IRes := [(.tmp 2)]
theorem ir_rrow_ok : (Func.body Try.f120).bind (irOf Try.prog Try.f120.ntmps) = some ir_rrow := by kernel_rfl
theorem rs_rrow_ok : Try.f120.results.toList.mapM (resOf Try.prog) = some rs_rrow := by kernel_rfl
theorem ent_rrow : enters Try.prog 120 = true := by kernel_rfl

end Go.Proofs.Ythbhljolpnbdlaa.S1



/- Numbers to the base 256, the lowest digit first. -/
namespace Go.Dg

def tz (l : List Int) : Nat → Nat
  | 0 => 0
  | k+1 => if l.getD k 0 = 0 then tz l k else k+1

theorem tz_le (l : List Int) : ∀ n, tz l n ≤ n
  | 0 => Nat.le_refl _
  | n + 1 => by unfold tz; split; exact Nat.le_succ_of_le (tz_le l n); exact Nat.le_refl _

theorem tz_zero (l : List Int) : ∀ n i, tz l n ≤ i → i < n → l.getD i 0 = 0
  | 0, i, _, h => by omega
  | n + 1, i, h1, h2 => by
    unfold tz at h1
    split at h1
    · rename_i hz
      rcases Nat.lt_or_ge i n with h | h
      · exact tz_zero l n i h1 h
      · obtain rfl : i = n := by omega
        exact hz
    · omega
theorem tz_last (l : List Int) : ∀ n, tz l n ≠ 0 → l.getD (tz l n - 1) 0 ≠ 0
  | 0, h => (h rfl).elim
  | n + 1, h => by
    unfold tz at h ⊢
    split
    · rename_i hz; rw [if_pos hz] at h; exact tz_last l n h
    · rename_i hz; simpa using hz
theorem tz_uniq (l : List Int) (n m : Nat) (h1 : m ≤ n) (h2 : m ≠ 0 → l.getD (m - 1) 0 ≠ 0) (h3 : ∀ i, m ≤ i → i < n → l.getD i 0 = 0) : tz l n = m := by
  rcases Nat.lt_trichotomy (tz l n) m with h | h | h
  · exact (h2 (by omega) (tz_zero l n (m - 1) (by omega) (by omega))).elim
  · exact h
  · exact (tz_last l n (by omega) (h3 _ (by omega) (by have := tz_le l n; omega))).elim
theorem getD_take (l : List Int) (n m i : Nat) (h : ∀ j, m ≤ j → j < n → l.getD j 0 = 0) (hn : l.length ≤ n) : (l.take m).getD i 0 = l.getD i 0 := by
  rcases Nat.lt_or_ge i m with h1 | h1
  · simp [List.getD_eq_getElem?_getD, List.getElem?_take, h1]
  · have e1 : (l.take m).getD i 0 = 0 := by
      rw [List.getD_eq_getElem?_getD, List.getElem?_eq_none (by rw [List.length_take]; omega)]; rfl
    rw [e1]
    rcases Nat.lt_or_ge i n with h2 | h2
    · exact (h i h1 h2).symm
    · rw [List.getD_eq_getElem?_getD, List.getElem?_eq_none (by omega)]; rfl

def DL (l : List Int) : Prop := ∀ i, 0 ≤ l.getD i 0 ∧ l.getD i 0 ≤ 255
theorem getD_set (l : List Int) (i j : Nat) (x : Int) : (l.set i x).getD j 0 = if i = j ∧ i < l.length then x else l.getD j 0 := by
  simp only [List.getD_eq_getElem?_getD, List.getElem?_set]
  by_cases h : i = j
  · subst h
    by_cases h2 : i < l.length
    · simp [h2]
    · simp [h2]
  · simp [h]
/-- one digit's worth -/
def DB : Int := 256
theorem DB_pos (k : Nat) : 0 < DB ^ k := Int.pow_pos (by decide)
/-- the number of the first k digits -/
def nv (l : List Int) : Nat → Int
  | 0 => 0
  | k + 1 => nv l k + l.getD k 0 * DB ^ k
theorem nv_bound {l : List Int} (h : DL l) : ∀ k, 0 ≤ nv l k ∧ nv l k < DB ^ k
  | 0 => by simp [nv]
  | k + 1 => by
    obtain ⟨h1, h2⟩ := nv_bound h k
    obtain ⟨h3, h4⟩ := h k
    have hp := DB_pos k
    simp only [nv]
    rw [Int.pow_succ]
    have h5 : l.getD k 0 * DB ^ k ≤ (DB - 1) * DB ^ k := Int.mul_le_mul_of_nonneg_right (by simp only [DB]; omega) (by omega)
    have h6 : 0 ≤ l.getD k 0 * DB ^ k := Int.mul_nonneg h3 (by omega)
    have h7 : (DB - 1) * DB ^ k = DB ^ k * DB - DB ^ k := by rw [Int.sub_mul, Int.mul_comm DB, Int.one_mul]
    omega
theorem nv_zeros (l : List Int) {n : Nat} : ∀ m, n ≤ m → (∀ i, n ≤ i → i < m → l.getD i 0 = 0) → nv l m = nv l n
  | 0, h, _ => by obtain rfl : n = 0 := by omega
                  rfl
  | m + 1, h, hz => by
    rcases Nat.eq_or_lt_of_le h with e | e
    · rw [e]
    · simp only [nv]
      rw [hz m (by omega) (by omega), nv_zeros l m (by omega) (fun i h1 h2 => hz i h1 (by omega))]
      omega
theorem nv_tz (l : List Int) (n : Nat) : nv l (tz l n) = nv l n := (nv_zeros l n (tz_le l n) (tz_zero l n)).symm
/-- beyond the list nothing comes -/
theorem nv_long (l : List Int) {m : Nat} (h : l.length ≤ m) : nv l m = nv l l.length := nv_zeros l m h fun i h1 _ => by
  rw [List.getD_eq_getElem?_getD, List.getElem?_eq_none h1]; rfl
theorem nv_congr {l l' : List Int} : ∀ k, (∀ i, i < k → l.getD i 0 = l'.getD i 0) → nv l k = nv l' k
  | 0, _ => rfl
  | k + 1, h => by simp only [nv]; rw [nv_congr k (fun i hi => h i (by omega)), h k (by omega)]
theorem nv_take (l : List Int) (n k : Nat) (h : k ≤ n) : nv (l.take n) k = nv l k := nv_congr k fun i hi => by
  simp [List.getD_eq_getElem?_getD, List.getElem?_take, show i < n by omega]
/-- The number. -/
def num (l : List Int) : Int := nv l l.length
theorem num_nonneg {l : List Int} (h : DL l) : 0 ≤ num l := (nv_bound h _).1
theorem num_take {l : List Int} : num (l.take (tz l l.length)) = num l := by
  have := tz_le l l.length
  simp only [num, List.length_take, Nat.min_eq_left this]
  rw [nv_take l _ _ (Nat.le_refl _), nv_tz]
/-- A number that has its last digit is at least that. -/
theorem nv_ge {l : List Int} (h : DL l) {k : Nat} (hk : l.getD k 0 ≠ 0) : DB ^ k ≤ nv l (k + 1) := by
  obtain ⟨h1, _⟩ := nv_bound h k
  obtain ⟨h3, _⟩ := h k
  have : 1 * DB ^ k ≤ l.getD k 0 * DB ^ k := Int.mul_le_mul_of_nonneg_right (by omega) (by have := DB_pos k; omega)
  simp only [nv]
  omega
theorem DB_mono {i j : Nat} (h : i ≤ j) : DB ^ i ≤ DB ^ j := by
  obtain ⟨d, rfl⟩ := Nat.exists_eq_add_of_le h
  have h1 := DB_pos i
  have h2 := DB_pos d
  have h3 : DB ^ i * 1 ≤ DB ^ i * DB ^ d := Int.mul_le_mul_of_nonneg_left (by omega) (by omega)
  rw [Int.pow_add]
  omega
/-- Numbers without zeros at the end: the longer one is greater. -/
theorem nv_len_lt {a b : List Int} (ha : DL a) (hb : DL b) {n m : Nat} (h : n < m) (hl : b.getD (m - 1) 0 ≠ 0) : nv a n < nv b m := by
  have h1 := (nv_bound ha n).2
  have h2 := nv_ge hb hl
  rw [show m - 1 + 1 = m by omega] at h2
  have h3 : DB ^ n ≤ DB ^ (m - 1) := DB_mono (by omega)
  omega
theorem nv_top_lt {a b : List Int} (ha : DL a) (hb : DL b) {k : Nat} (h : a.getD k 0 < b.getD k 0) : nv a (k + 1) < nv b (k + 1) := by
  have h1 := (nv_bound ha k).2
  have h2 := (nv_bound hb k).1
  have h3 : (a.getD k 0 + 1) * DB ^ k ≤ b.getD k 0 * DB ^ k := Int.mul_le_mul_of_nonneg_right (by omega) (by have := DB_pos k; omega)
  rw [Int.add_mul, Int.one_mul] at h3
  simp only [nv]
  omega
theorem nv_sum_eq {a b : List Int} {k : Nat} : ∀ n, k ≤ n → (∀ i, k ≤ i → i < n → a.getD i 0 = b.getD i 0) → nv a n - nv b n = nv a k - nv b k
  | 0, h, _ => by obtain rfl : k = 0 := by omega
                  rfl
  | n + 1, h, he => by
    rcases Nat.eq_or_lt_of_le h with e | e
    · rw [e]
    · have := nv_sum_eq n (by omega) (fun i h1 h2 => he i h1 (by omega))
      simp only [nv]
      rw [he n (by omega) (by omega)]
      omega
/-- Normal numbers are equal as lists if they are as numbers. -/
theorem num_inj {a b : List Int} (ha : DL a) (hb : DL b) (h : num a = num b) : a.take (tz a a.length) = b.take (tz b b.length) := by
  rw [← num_take (l := a), ← num_take (l := b)] at h
  have la : ((a.take (tz a a.length)).length) = tz a a.length := by rw [List.length_take]; have := tz_le a a.length; omega
  have lb : ((b.take (tz b b.length)).length) = tz b b.length := by rw [List.length_take]; have := tz_le b b.length; omega
  simp only [num, la, lb] at h
  rw [nv_take _ _ _ (Nat.le_refl _), nv_take _ _ _ (Nat.le_refl _)] at h
  have hl : tz a a.length = tz b b.length := by
    rcases Nat.lt_trichotomy (tz a a.length) (tz b b.length) with h1 | h1 | h1
    · have := nv_len_lt ha hb h1 (tz_last b b.length (by omega)); omega
    · exact h1
    · have := nv_len_lt hb ha h1 (tz_last a a.length (by omega)); omega
  rw [← hl] at h
  have key : ∀ n, nv a n = nv b n → ∀ i, i < n → a.getD i 0 = b.getD i 0 := by
    intro n
    induction n with
    | zero => intro _ i hi; omega
    | succ n ih =>
      intro he i hi
      have : a.getD n 0 = b.getD n 0 := by
        rcases Int.lt_trichotomy (a.getD n 0) (b.getD n 0) with h1 | h1 | h1
        · have := nv_top_lt ha hb h1; omega
        · exact h1
        · have := nv_top_lt hb ha h1; omega
      rcases Nat.lt_or_ge i n with h2 | h2
      · refine ih ?_ i h2
        simp only [nv, this] at he
        omega
      · obtain rfl : i = n := by omega
        exact this
  refine List.ext_getElem (by rw [la, lb, hl]) fun i hi hi' => ?_
  rw [la] at hi
  have := key _ h i hi
  have h1 := tz_le a a.length
  have h2 := tz_le b b.length
  simp only [List.getElem_take]
  simpa [List.getD_eq_getElem?_getD, show i < a.length by omega, show i < b.length by omega] using this

theorem dl_nil : DL [] := fun i => by simp
theorem nv_cons (x : Int) (l : List Int) : ∀ k, nv (x :: l) (k + 1) = x + 256 * nv l k
  | 0 => by simp [nv]
  | k + 1 => by
    have ih := nv_cons x l k
    rw [nv, ih, nv, Int.pow_succ]
    have e : (x :: l).getD (k + 1) 0 = l.getD k 0 := by simp
    rw [e, Int.mul_add, show DB = 256 from rfl, Int.mul_comm 256 (l.getD k 0 * 256 ^ k), Int.mul_assoc]
    omega
theorem num_cons (x : Int) (l : List Int) : num (x :: l) = x + 256 * num l := by
  simp only [num, List.length_cons]; exact nv_cons x l l.length
/-- the digits of a number -/
def dg : Nat → List Int
  | 0 => []
  | n + 1 => ((((n + 1) % 256 : Nat)) : Int) :: dg ((n + 1) / 256)
decreasing_by omega
theorem dg_zero : dg 0 = [] := by unfold dg; rfl
theorem dg_pos {n : Nat} (h : 0 < n) : dg n = ((n % 256 : Nat) : Int) :: dg (n / 256) := by
  cases n with
  | zero => omega
  | succ n => rw [dg]
theorem dg_dl : ∀ n, DL (dg n) := by
  intro n
  induction n using Nat.strongRecOn with
  | ind n ih =>
    rcases Nat.eq_zero_or_pos n with rfl | h
    · rw [dg_zero]; exact dl_nil
    · intro i
      rw [dg_pos h]
      cases i with
      | zero => simp; omega
      | succ i => simpa using ih (n / 256) (by omega) i
theorem dg_num : ∀ n, num (dg n) = (n : Int) := by
  intro n
  induction n using Nat.strongRecOn with
  | ind n ih =>
    rcases Nat.eq_zero_or_pos n with rfl | h
    · rw [dg_zero]; rfl
    · rw [dg_pos h, num_cons, ih (n / 256) (by omega)]; omega
theorem dg_last : ∀ n, 0 < n → (dg n).getD ((dg n).length - 1) 0 ≠ 0 := by
  intro n
  induction n using Nat.strongRecOn with
  | ind n ih =>
    intro h
    rw [dg_pos h]
    rcases Nat.eq_zero_or_pos (n / 256) with h0 | h0
    · rw [h0, dg_zero]; simp; omega
    · have := ih (n / 256) (by omega) h0
      have hl : 0 < (dg (n / 256)).length := by rw [dg_pos h0]; simp
      rw [show (((n % 256 : Nat) : Int) :: dg (n / 256)).length - 1 = ((dg (n / 256)).length - 1) + 1 by simp; omega]
      simpa using this
theorem dg_tz (n : Nat) : tz (dg n) (dg n).length = (dg n).length := by
  refine tz_uniq _ _ _ (Nat.le_refl _) (fun h => ?_) fun i h1 h2 => by omega
  rcases Nat.eq_zero_or_pos n with rfl | h0
  · rw [dg_zero] at h; simp at h
  · exact dg_last n h0
/-- What is trimmed is what its number has. -/
theorem trim_dg {l : List Int} (h : DL l) : l.take (tz l l.length) = dg (num l).toNat := by
  have hn := num_nonneg h
  have := num_inj h (dg_dl (num l).toNat) (by rw [dg_num]; omega)
  rw [this, dg_tz, List.take_length]
theorem dg_len_le {n k : Nat} (h : n < 256 ^ k) : (dg n).length ≤ k := by
  rcases Nat.lt_or_ge k (dg n).length with h1 | h1
  · exfalso
    have h0 : 0 < n := by
      rcases Nat.eq_zero_or_pos n with rfl | h0
      · rw [dg_zero] at h1; simp at h1
      · exact h0
    have hge := nv_ge (dg_dl n) (dg_last n h0)
    rw [show (dg n).length - 1 + 1 = (dg n).length by omega] at hge
    have hnum := dg_num n
    simp only [num] at hnum
    rw [hnum] at hge
    have hm : DB ^ k ≤ DB ^ ((dg n).length - 1) := DB_mono (by omega)
    have e : DB ^ k = ((256 ^ k : Nat) : Int) := by rw [Int.natCast_pow]; rfl
    rw [e] at hm
    have : ((n : Nat) : Int) < ((256 ^ k : Nat) : Int) := by exact_mod_cast h
    omega
  · exact h1

/-! Sums, digit by digit. -/
def addD (a b : List Int) : Nat → List Int × Int
  | 0 => ([], 0)
  | i + 1 => ((addD a b i).1 ++ [((addD a b i).2 + a.getD i 0 + b.getD i 0) % 256], ((addD a b i).2 + a.getD i 0 + b.getD i 0) / 256)
theorem addD_length (a b : List Int) : ∀ i, (addD a b i).1.length = i
  | 0 => rfl
  | i + 1 => by simp [addD, addD_length a b i]
theorem addD_carry {a b : List Int} (ha : DL a) (hb : DL b) : ∀ i, 0 ≤ (addD a b i).2 ∧ (addD a b i).2 ≤ 1
  | 0 => by simp [addD]
  | i + 1 => by
    have := addD_carry ha hb i
    have h1 := ha i
    have h2 := hb i
    simp only [addD]; omega
theorem getD_snoc (l : List Int) (x : Int) (i : Nat) : (l ++ [x]).getD i 0 = if i = l.length then x else l.getD i 0 := by
  simp only [List.getD_eq_getElem?_getD, List.getElem?_append]
  by_cases h : i < l.length
  · rw [if_pos h, if_neg (by omega)]
  · rw [if_neg h]
    by_cases h2 : i = l.length
    · subst h2; simp
    · rw [if_neg h2, List.getElem?_eq_none (by simp; omega), List.getElem?_eq_none (by omega)]
theorem addD_dl {a b : List Int} (ha : DL a) (hb : DL b) : ∀ i, DL (addD a b i).1
  | 0 => dl_nil
  | i + 1 => fun j => by
    simp only [addD, getD_snoc]
    split
    · omega
    · exact addD_dl ha hb i j
theorem nv_snoc (l : List Int) (x : Int) : nv (l ++ [x]) (l.length + 1) = nv l l.length + x * DB ^ l.length := by
  simp only [nv]
  rw [getD_snoc, if_pos rfl, nv_congr (l := l ++ [x]) (l' := l) l.length fun i hi => by rw [getD_snoc, if_neg (by omega)]]
theorem addD_sum (a b : List Int) : ∀ i, nv (addD a b i).1 i + (addD a b i).2 * DB ^ i = nv a i + nv b i
  | 0 => by simp [addD, nv]
  | i + 1 => by
    have ih := addD_sum a b i
    have hl := addD_length a b i
    have e := nv_snoc (addD a b i).1 (((addD a b i).2 + a.getD i 0 + b.getD i 0) % 256)
    rw [hl] at e
    simp only [addD]
    rw [e, nv, nv, Int.pow_succ]
    generalize (addD a b i).2 = c at *
    generalize a.getD i 0 = x at *
    generalize b.getD i 0 = y at *
    have hb : DB = 256 := rfl
    have key : (c + x + y) % 256 * DB ^ i + (c + x + y) / 256 * (DB ^ i * DB) = (c + x + y) * DB ^ i := by
      have := Int.emod_add_mul_ediv (c + x + y) 256
      generalize (c + x + y) / 256 = q at *
      generalize (c + x + y) % 256 = r at *
      rw [← this, hb, Int.add_mul, ← Int.mul_assoc, Int.mul_right_comm q, Int.mul_comm q]
    rw [Int.add_mul, Int.add_mul] at key
    omega
theorem addD_num {a b : List Int} {i : Nat} (ha : a.length ≤ i) (hb : b.length ≤ i) (hc : (addD a b i).2 = 0) : num (addD a b i).1 = num a + num b := by
  have h := addD_sum a b i
  rw [nv_long a ha, nv_long b hb, hc] at h
  simp only [num, addD_length]
  omega
/-- where the sum ends -/
theorem addD_stops {a b : List Int} (ha : DL a) (hb : DL b) {i : Nat} (h1 : a.length ≤ i) (h2 : b.length ≤ i) : (addD a b (i + 1)).2 = 0 := by
  have := addD_carry ha hb i
  have e1 : a.getD i 0 = 0 := by rw [List.getD_eq_getElem?_getD, List.getElem?_eq_none h1]; rfl
  have e2 : b.getD i 0 = 0 := by rw [List.getD_eq_getElem?_getD, List.getElem?_eq_none h2]; rfl
  simp only [addD, e1, e2]; omega
end Go.Dg


