/- Texts of code of this program, checked against its dump. -/
import Derived.Test.YtjmceapnhmeflaaDoorV7
import Derived.Test.YtjmceapnhmeflaaDoorChecked
namespace Go.Proofs.YtjmceapnhmeflaaDoor
open Go Go.Vh
def ir_xtrim : IR := (.seq (.ops [⟨(some 2), none, (.pure (.move (.c .nilslice)))⟩]) (.seq (.block 0 (.loop (.seq (.seq (.ops [⟨(some 3), none, (.pure (.move (.t 0)))⟩, ⟨(some 4), none, (.pure (.len (.t 3)))⟩, ⟨(some 5), none, (.pure (.bin .gtr (.t 4) (.c (.int .i64 0))))⟩, ⟨(some 6), none, (.pure (.move (.t 5)))⟩, ⟨(some 7), (some (6, true)), (.pure (.move (.t 0)))⟩, ⟨(some 8), (some (6, true)), (.pure (.move (.t 0)))⟩, ⟨(some 9), (some (6, true)), (.pure (.len (.t 8)))⟩, ⟨(some 10), (some (6, true)), (.pure (.bin .sub (.t 9) (.c (.int .i64 1))))⟩, ⟨(some 11), (some (6, true)), (.pure (.indexAddr 1 (.t 7) (.t 10)))⟩, ⟨(some 12), (some (6, true)), (.eff (.load1 (.t 11)))⟩, ⟨(some 13), (some (6, true)), (.pure (.bin .eql (.t 12) (.c (.int .u32 0))))⟩, ⟨(some 14), none, (.pure (.pick (.t 6) (.t 13) (.c (.bool false))))⟩]) (.cond (.t 14) .skip (.exit 0))) (.block 1 (.ops [⟨(some 15), none, (.pure (.move (.t 0)))⟩, ⟨(some 16), none, (.pure (.move (.t 0)))⟩, ⟨(some 17), none, (.pure (.len (.t 16)))⟩, ⟨(some 18), none, (.pure (.bin .sub (.t 17) (.c (.int .i64 1))))⟩, ⟨(some 19), none, (.pure (.slice 1 (.t 15) none (some (.t 18))))⟩, ⟨(some 0), none, (.pure (.move (.t 19)))⟩]))))) (.seq (.ops [⟨(some 20), none, (.pure (.move (.t 0)))⟩, ⟨(some 2), none, (.pure (.move (.t 20)))⟩]) .ret)))
def rs_xtrim : List IRes := [(.tmp 2)]
theorem ir_xtrim_ok : (Func.body Tryd.f59).bind (irOf Tryd.prog Tryd.f59.ntmps) = some ir_xtrim := by kernel_rfl
theorem rs_xtrim_ok : Tryd.f59.results.toList.mapM (resOf Tryd.prog) = some rs_xtrim := by kernel_rfl
theorem ent_xtrim : enters Tryd.prog 59 = true := by kernel_rfl

def ir_rsame : IR := (.seq (.ops [⟨(some 4), none, (.pure (.move (.c (.bool false))))⟩]) (.seq (.seq (.ops [⟨(some 6), none, (.pure (.move (.t 0)))⟩, ⟨(some 7), none, (.pure (.len (.t 6)))⟩, ⟨(some 8), none, (.pure (.move (.t 1)))⟩, ⟨(some 9), none, (.pure (.len (.t 8)))⟩, ⟨(some 10), none, (.pure (.bin .neq (.t 7) (.t 9)))⟩]) (.cond (.t 10) (.seq (.ops [⟨(some 4), none, (.pure (.move (.c (.bool false))))⟩]) .ret) .skip)) (.seq (.seq (.ops [⟨(some 5), none, (.pure (.move (.c (.int .i64 0))))⟩]) (.block 0 (.loop (.seq (.seq (.ops [⟨(some 11), none, (.pure (.move (.t 5)))⟩, ⟨(some 12), none, (.pure (.move (.t 0)))⟩, ⟨(some 13), none, (.pure (.len (.t 12)))⟩, ⟨(some 14), none, (.pure (.bin .lss (.t 11) (.t 13)))⟩]) (.cond (.t 14) .skip (.exit 0))) (.seq (.block 1 (.seq (.dops [⟨⟨(some 17), none, (.pure (.move (.t 0)))⟩, 0, 0⟩, ⟨⟨(some 18), none, (.pure (.move (.t 5)))⟩, 1, 0⟩, ⟨⟨(some 19), none, (.pure (.indexAddr 1 (.t 17) (.t 18)))⟩, 2, 0⟩, ⟨⟨(some 20), none, (.eff (.load1 (.t 19)))⟩, 3, 1⟩, ⟨⟨(some 21), none, (.pure (.move (.t 1)))⟩, 4, 0⟩, ⟨⟨(some 22), none, (.pure (.move (.t 5)))⟩, 5, 0⟩, ⟨⟨(some 23), none, (.pure (.indexAddr 1 (.t 21) (.t 22)))⟩, 6, 0⟩, ⟨⟨(some 24), none, (.eff (.load1 (.t 23)))⟩, 7, 1⟩, ⟨⟨(some 25), none, (.pure (.bin .neq (.t 20) (.t 24)))⟩, 8, 0⟩]) (.cond (.t 25) (.seq (.ops [⟨(some 4), none, (.pure (.move (.c (.bool false))))⟩]) .ret) .skip))) (.ops [⟨(some 15), none, (.pure (.move (.t 5)))⟩, ⟨(some 16), none, (.pure (.bin .add (.t 15) (.c (.int .i64 1))))⟩, ⟨(some 5), none, (.pure (.move (.t 16)))⟩])))))) (.seq (.ops [⟨(some 4), none, (.pure (.move (.c (.bool true))))⟩]) .ret))))
def rs_rsame : List IRes := [(.tmp 4)]
theorem ir_rsame_ok : (Func.body Tryd.f16).bind (irOf Tryd.prog Tryd.f16.ntmps) = some ir_rsame := by kernel_rfl
theorem rs_rsame_ok : Tryd.f16.results.toList.mapM (resOf Tryd.prog) = some rs_rsame := by kernel_rfl
theorem ent_rsame : enters Tryd.prog 16 = true := by kernel_rfl

def ir_tooLong : IR := (.seq (.ops [⟨(some 2), none, (.pure (.move (.c (.int .i64 0))))⟩]) (.seq (.seq (.ops [⟨(some 5), none, (.pure (.move (.t 0)))⟩, ⟨(some 6), none, (.pure (.len (.t 5)))⟩, ⟨(some 7), none, (.pure (.move (.c (.int .i64 0))))⟩]) (.block 0 (.loop (.seq (.ops [⟨(some 8), none, (.pure (.bin .lss (.t 7) (.t 6)))⟩]) (.seq (.cond (.t 8) .skip (.exit 0)) (.seq (.block 1 (.seq (.ops [⟨(some 9), none, (.pure (.indexAddr 1 (.t 5) (.t 7)))⟩, ⟨(some 10), none, (.eff (.load1 (.t 9)))⟩, ⟨(some 4), none, (.pure (.move (.t 10)))⟩]) (.seq (.ops [⟨(some 11), none, (.pure (.move (.t 4)))⟩, ⟨(some 12), none, (.pure (.len (.t 11)))⟩, ⟨(some 13), none, (.pure (.bin .gtr (.t 12) (.c (.int .i64 64))))⟩]) (.cond (.t 13) (.seq (.ops [⟨(some 2), none, (.pure (.move (.c (.int .i64 4))))⟩]) .ret) .skip)))) (.ops [⟨(some 14), none, (.pure (.bin .add (.t 7) (.c (.int .i64 1))))⟩, ⟨(some 7), none, (.pure (.move (.t 14)))⟩]))))))) (.seq (.ops [⟨(some 2), none, (.pure (.move (.c (.int .i64 0))))⟩]) .ret)))
def rs_tooLong : List IRes := [(.tmp 2)]
theorem ir_tooLong_ok : (Func.body Tryd.f60).bind (irOf Tryd.prog Tryd.f60.ntmps) = some ir_tooLong := by kernel_rfl
theorem rs_tooLong_ok : Tryd.f60.results.toList.mapM (resOf Tryd.prog) = some rs_tooLong := by kernel_rfl
theorem ent_tooLong : enters Tryd.prog 60 = true := by kernel_rfl

def ir_limb : IR := (.seq (.ops [⟨(some 4), none, (.pure (.move (.c (.int .u32 0))))⟩]) (.seq (.seq (.ops [⟨(some 5), none, (.pure (.move (.t 1)))⟩, ⟨(some 6), none, (.pure (.move (.t 0)))⟩, ⟨(some 7), none, (.pure (.len (.t 6)))⟩, ⟨(some 8), none, (.pure (.bin .lss (.t 5) (.t 7)))⟩]) (.cond (.t 8) (.seq (.ops [⟨(some 9), none, (.pure (.move (.t 0)))⟩, ⟨(some 10), none, (.pure (.move (.t 1)))⟩, ⟨(some 11), none, (.pure (.indexAddr 1 (.t 9) (.t 10)))⟩, ⟨(some 12), none, (.eff (.load1 (.t 11)))⟩, ⟨(some 4), none, (.pure (.move (.t 12)))⟩]) .ret) .skip)) (.seq (.ops [⟨(some 4), none, (.pure (.move (.c (.int .u32 0))))⟩]) .ret)))
def rs_limb : List IRes := [(.tmp 4)]
theorem ir_limb_ok : (Func.body Tryd.f61).bind (irOf Tryd.prog Tryd.f61.ntmps) = some ir_limb := by kernel_rfl
theorem rs_limb_ok : Tryd.f61.results.toList.mapM (resOf Tryd.prog) = some rs_limb := by kernel_rfl
theorem ent_limb : enters Tryd.prog 61 = true := by kernel_rfl

def ir_xof : IR := (.seq (.ops [⟨(some 2), none, (.pure (.move (.c .nilslice)))⟩]) (.seq (.ops [⟨(some 3), none, (.pure (.move (.t 0)))⟩, ⟨(some 4), none, (.pure (.conv .u32 (.t 3)))⟩, ⟨(some 5), none, (.pure (.move (.t 0)))⟩, ⟨(some 6), none, (.pure (.bin .shr (.t 5) (.c (.int .u64 32))))⟩, ⟨(some 7), none, (.pure (.conv .u32 (.t 6)))⟩, ⟨(some 8), none, (.eff (.buildSlice 2 [(.int .u32 0), (.int .u32 0)] [(0, (1, (.t 4))), (1, (1, (.t 7)))]))⟩, ⟨(some 9), none, (.call (.c (.func 59 [])) [(.t 8)])⟩, ⟨(some 2), none, (.pure (.move (.t 9)))⟩]) .ret))
def rs_xof : List IRes := [(.tmp 2)]
theorem ir_xof_ok : (Func.body Tryd.f14).bind (irOf Tryd.prog Tryd.f14.ntmps) = some ir_xof := by kernel_rfl
theorem rs_xof_ok : Tryd.f14.results.toList.mapM (resOf Tryd.prog) = some rs_xof := by kernel_rfl
theorem ent_xof : enters Tryd.prog 14 = true := by kernel_rfl

end Go.Proofs.YtjmceapnhmeflaaDoor

