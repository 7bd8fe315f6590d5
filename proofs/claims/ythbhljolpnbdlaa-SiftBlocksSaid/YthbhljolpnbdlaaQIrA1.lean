/- The texts of layer 2: fields, words, seeds. -/
import Derived.Test.YthbhljolpnbdlaaV8
import Derived.Test.YthbhljolpnbdlaaProg
import Derived.KernelRfl
set_option linter.unusedSimpArgs false
set_option linter.unusedVariables false
namespace Go.Proofs.Ythbhljolpnbdlaa.S2
open Go Go.Vh
def ir_isLength : IR := (.seq (.ops [⟨(some 2), none, (.pure (.move (.c (.bool false))))⟩]) (.seq (.ops [⟨(some 3), none, (.pure (.move (.t 0)))⟩, ⟨(some 4), none, (.pure (.bin .geq (.t 3) (.c (.int .i64 0))))⟩, ⟨(some 5), none, (.pure (.move (.t 4)))⟩, ⟨(some 6), (some (5, true)), (.pure (.move (.t 0)))⟩, ⟨(some 7), (some (5, true)), (.pure (.bin .leq (.t 6) (.c (.int .i64 65536))))⟩, ⟨(some 8), none, (.pure (.pick (.t 5) (.t 7) (.c (.bool false))))⟩, ⟨(some 2), none, (.pure (.move (.t 8)))⟩]) .ret))
def rs_isLength : List IRes := [(.tmp 2)]
theorem ir_isLength_ok : (Func.body Try.f103).bind (irOf Try.prog Try.f103.ntmps) = some ir_isLength := by kernel_rfl
theorem rs_isLength_ok : Try.f103.results.toList.mapM (resOf Try.prog) = some rs_isLength := by kernel_rfl
theorem ent_isLength : enters Try.prog 103 = true := by kernel_rfl

def ir_dNew : IR := (.seq (.ops [⟨(some 2), none, (.pure (.move (.c .nilptr)))⟩]) (.seq (.ops [⟨(some 4), none, (.pure (.move (.t 0)))⟩, ⟨(some 5), none, (.pure (.build [.nilptr, (.int .u64 0)] [(1, (1, (.t 4)))]))⟩, ⟨(some 6), none, (.eff (.box (.t 5)))⟩, ⟨(some 3), none, (.pure (.move (.t 6)))⟩]) (.seq (.ops [⟨(some 7), none, (.pure (.move (.t 3)))⟩, ⟨(some 8), none, (.pure (.move (.t 3)))⟩, ⟨(some 9), none, (.pure (.nilCheck (.t 7)))⟩, ⟨(some 10), none, (.pure (.fieldAddr 0 (.t 9)))⟩, ⟨none, none, (.eff (.store 1 (.t 10) (.t 8)))⟩]) (.seq (.ops [⟨(some 11), none, (.pure (.move (.t 3)))⟩, ⟨(some 2), none, (.pure (.move (.t 11)))⟩]) .ret))))
def rs_dNew : List IRes := [(.tmp 2)]
theorem ir_dNew_ok : (Func.body Try.f72).bind (irOf Try.prog Try.f72.ntmps) = some ir_dNew := by kernel_rfl
theorem rs_dNew_ok : Try.f72.results.toList.mapM (resOf Try.prog) = some rs_dNew := by kernel_rfl
theorem ent_dNew : enters Try.prog 72 = true := by kernel_rfl

def ir_dNext : IR := (.seq (.ops [⟨(some 2), none, (.pure (.move (.c (.int .u64 0))))⟩]) (.seq (.seq (.ops [⟨(some 5), none, (.pure (.move (.t 0)))⟩, ⟨(some 6), none, (.call (.c (.func 102 [])) [(.t 5)])⟩, ⟨(some 7), none, (.pure (.not (.t 6)))⟩]) (.cond (.t 7) (.seq (.ops [⟨(some 2), none, (.pure (.move (.c (.int .u64 0))))⟩]) .ret) .skip)) (.seq (.ops [⟨(some 8), none, (.pure (.move (.t 0)))⟩, ⟨(some 9), none, (.pure (.move (.t 0)))⟩, ⟨(some 10), none, (.pure (.nilCheck (.t 9)))⟩, ⟨(some 11), none, (.pure (.fieldAddr 1 (.t 10)))⟩, ⟨(some 12), none, (.eff (.load1 (.t 11)))⟩, ⟨(some 13), none, (.pure (.bin .mul (.c (.int .u64 4906513781625342421)) (.t 12)))⟩, ⟨(some 14), none, (.pure (.bin .add (.t 13) (.c (.int .u64 1181783497276652981))))⟩, ⟨(some 15), none, (.pure (.nilCheck (.t 8)))⟩, ⟨(some 16), none, (.pure (.fieldAddr 1 (.t 15)))⟩, ⟨none, none, (.eff (.store 1 (.t 16) (.t 14)))⟩]) (.seq (.dops [⟨⟨(some 17), none, (.pure (.move (.t 0)))⟩, 0, 0⟩, ⟨⟨(some 18), none, (.pure (.nilCheck (.t 17)))⟩, 1, 0⟩, ⟨⟨(some 19), none, (.pure (.fieldAddr 1 (.t 18)))⟩, 2, 0⟩, ⟨⟨(some 20), none, (.eff (.load1 (.t 19)))⟩, 3, 1⟩, ⟨⟨(some 21), none, (.pure (.move (.t 0)))⟩, 4, 0⟩, ⟨⟨(some 22), none, (.pure (.nilCheck (.t 21)))⟩, 5, 0⟩, ⟨⟨(some 23), none, (.pure (.fieldAddr 1 (.t 22)))⟩, 6, 0⟩, ⟨⟨(some 24), none, (.eff (.load1 (.t 23)))⟩, 7, 1⟩, ⟨⟨(some 25), none, (.pure (.bin .shr (.t 24) (.c (.int .u64 32))))⟩, 8, 0⟩, ⟨⟨(some 26), none, (.pure (.bin .xor (.t 20) (.t 25)))⟩, 9, 0⟩, ⟨⟨(some 3), none, (.pure (.move (.t 26)))⟩, 10, 0⟩]) (.seq (.ops [⟨(some 27), none, (.pure (.move (.t 3)))⟩, ⟨(some 28), none, (.pure (.bin .mul (.c (.int .u64 7809847782465536323)) (.t 27)))⟩, ⟨(some 4), none, (.pure (.move (.t 28)))⟩]) (.seq (.ops [⟨(some 29), none, (.pure (.move (.t 4)))⟩, ⟨(some 30), none, (.pure (.move (.t 4)))⟩, ⟨(some 31), none, (.pure (.bin .shr (.t 30) (.c (.int .u64 29))))⟩, ⟨(some 32), none, (.pure (.bin .xor (.t 29) (.t 31)))⟩, ⟨(some 2), none, (.pure (.move (.t 32)))⟩]) .ret))))))
def rs_dNext : List IRes := [(.tmp 2)]
theorem ir_dNext_ok : (Func.body Try.f105).bind (irOf Try.prog Try.f105.ntmps) = some ir_dNext := by kernel_rfl
theorem rs_dNext_ok : Try.f105.results.toList.mapM (resOf Try.prog) = some rs_dNext := by kernel_rfl
theorem ent_dNext : enters Try.prog 105 = true := by kernel_rfl

def ir_dValid : IR := (.seq (.ops [⟨(some 2), none, (.pure (.move (.c (.bool false))))⟩]) (.seq (.ops [⟨(some 3), none, (.pure (.move (.t 0)))⟩, ⟨(some 4), none, (.pure (.eqPtr true (.t 3) (.c .nilptr)))⟩, ⟨(some 5), none, (.pure (.move (.t 4)))⟩, ⟨(some 6), (some (5, true)), (.pure (.move (.t 0)))⟩, ⟨(some 7), (some (5, true)), (.pure (.nilCheck (.t 6)))⟩, ⟨(some 8), (some (5, true)), (.pure (.fieldAddr 0 (.t 7)))⟩, ⟨(some 9), (some (5, true)), (.eff (.load1 (.t 8)))⟩, ⟨(some 10), (some (5, true)), (.pure (.move (.t 0)))⟩, ⟨(some 11), (some (5, true)), (.pure (.eqPtr false (.t 9) (.t 10)))⟩, ⟨(some 12), none, (.pure (.pick (.t 5) (.t 11) (.c (.bool false))))⟩, ⟨(some 2), none, (.pure (.move (.t 12)))⟩]) .ret))
def rs_dValid : List IRes := [(.tmp 2)]
theorem ir_dValid_ok : (Func.body Try.f102).bind (irOf Try.prog Try.f102.ntmps) = some ir_dValid := by kernel_rfl
theorem rs_dValid_ok : Try.f102.results.toList.mapM (resOf Try.prog) = some rs_dValid := by kernel_rfl
theorem ent_dValid : enters Try.prog 102 = true := by kernel_rfl

end Go.Proofs.Ythbhljolpnbdlaa.S2


