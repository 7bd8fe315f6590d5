/- Texts of code of this program, checked against its dump. -/
import Derived.Test.YtjmceapnhmeflaaDoorV7
import Derived.Test.YtjmceapnhmeflaaDoorChecked
namespace Go.Proofs.YtjmceapnhmeflaaDoor
open Go Go.Vh
def ir_firstError : IR := (.seq (.ops [⟨(some 2), none, (.pure (.move (.c (.int .i64 0))))⟩]) (.seq (.seq (.ops [⟨(some 6), none, (.pure (.move (.t 0)))⟩, ⟨(some 7), none, (.pure (.len (.t 6)))⟩, ⟨(some 8), none, (.pure (.move (.c (.int .i64 0))))⟩]) (.block 0 (.loop (.seq (.ops [⟨(some 9), none, (.pure (.bin .lss (.t 8) (.t 7)))⟩]) (.seq (.cond (.t 9) .skip (.exit 0)) (.seq (.block 1 (.seq (.ops [⟨(some 10), none, (.pure (.indexAddr 1 (.t 6) (.t 8)))⟩, ⟨(some 11), none, (.eff (.load1 (.t 10)))⟩, ⟨(some 4), none, (.pure (.move (.t 11)))⟩]) (.seq (.ops [⟨(some 12), none, (.pure (.move (.t 4)))⟩, ⟨(some 13), none, (.call (.t 12) [])⟩, ⟨(some 5), none, (.pure (.move (.t 13)))⟩]) (.seq (.ops [⟨(some 14), none, (.pure (.move (.t 5)))⟩, ⟨(some 15), none, (.pure (.bin .neq (.t 14) (.c (.int .i64 0))))⟩]) (.cond (.t 15) (.seq (.ops [⟨(some 16), none, (.pure (.move (.t 5)))⟩, ⟨(some 2), none, (.pure (.move (.t 16)))⟩]) .ret) .skip))))) (.ops [⟨(some 17), none, (.pure (.bin .add (.t 8) (.c (.int .i64 1))))⟩, ⟨(some 8), none, (.pure (.move (.t 17)))⟩]))))))) (.seq (.ops [⟨(some 2), none, (.pure (.move (.c (.int .i64 0))))⟩]) .ret)))
def rs_firstError : List IRes := [(.tmp 2)]
theorem ir_firstError_ok : (Func.body Tryd.f92).bind (irOf Tryd.prog Tryd.f92.ntmps) = some ir_firstError := by kernel_rfl
theorem rs_firstError_ok : Tryd.f92.results.toList.mapM (resOf Tryd.prog) = some rs_firstError := by kernel_rfl
theorem ent_firstError : enters Tryd.prog 92 = true := by kernel_rfl

def ir_reduced : IR := (.seq (.ops [⟨(some 2), none, (.eff (.box (.t 0)))⟩, ⟨(some 3), none, (.eff (.box (.t 1)))⟩, ⟨(some 4), none, (.eff (.alloc [.nilslice, .nilslice]))⟩, ⟨(some 5), none, (.pure (.move (.c (.int .i64 0))))⟩]) (.seq (.ops [⟨(some 6), none, (.eff (.alloc [.nilslice, .nilslice]))⟩]) (.seq (.ops [⟨(some 7), none, (.eff (.alloc [.nilslice]))⟩]) (.seq (.ops [⟨(some 9), none, (.pure (.makeFunc 116 [(.t 2), (.t 3), (.t 7)]))⟩, ⟨(some 10), none, (.pure (.makeFunc 117 [(.t 2), (.t 7), (.t 6)]))⟩, ⟨(some 11), none, (.pure (.makeFunc 119 [(.t 3), (.t 7), (.t 6)]))⟩, ⟨(some 12), none, (.eff (.buildSlice 3 [(.lit .nilFunc), (.lit .nilFunc), (.lit .nilFunc)] [(0, (1, (.t 9))), (1, (1, (.t 10))), (2, (1, (.t 11)))]))⟩, ⟨(some 13), none, (.call (.c (.func 92 [])) [(.t 12)])⟩, ⟨(some 8), none, (.pure (.move (.t 13)))⟩]) (.seq (.seq (.ops [⟨(some 14), none, (.pure (.move (.t 8)))⟩, ⟨(some 15), none, (.pure (.bin .neq (.t 14) (.c (.int .i64 0))))⟩]) (.cond (.t 15) (.seq (.ops [⟨(some 16), none, (.pure (.build [.nilslice, .nilslice] []))⟩, ⟨(some 17), none, (.pure (.move (.t 8)))⟩, ⟨none, none, (.eff (.store 2 (.t 4) (.t 16)))⟩, ⟨(some 5), none, (.pure (.move (.t 17)))⟩]) .ret) .skip)) (.seq (.ops [⟨(some 18), none, (.eff (.loadN 2 (.t 6)))⟩, ⟨none, none, (.eff (.store 2 (.t 4) (.t 18)))⟩, ⟨(some 5), none, (.pure (.move (.c (.int .i64 0))))⟩]) .ret))))))
def rs_reduced : List IRes := [(.cell 4 2 true), (.tmp 5)]
theorem ir_reduced_ok : (Func.body Tryd.f79).bind (irOf Tryd.prog Tryd.f79.ntmps) = some ir_reduced := by kernel_rfl
theorem rs_reduced_ok : Tryd.f79.results.toList.mapM (resOf Tryd.prog) = some rs_reduced := by kernel_rfl
theorem ent_reduced : enters Tryd.prog 79 = true := by kernel_rfl

def ir_reduced1 : IR := (.seq (.ops [⟨(some 3), none, (.pure (.move (.c (.int .i64 0))))⟩]) (.seq (.ops [⟨(some 4), none, (.eff (.load1 (.t 0)))⟩, ⟨(some 5), none, (.eff (.load1 (.t 1)))⟩, ⟨(some 6), none, (.call (.c (.func 72 [])) [(.t 4), (.t 5)])⟩, ⟨none, none, (.eff (.store 1 (.t 2) (.t 6)))⟩]) (.seq (.ops [⟨(some 3), none, (.pure (.move (.c (.int .i64 0))))⟩]) .ret)))
def rs_reduced1 : List IRes := [(.tmp 3)]
theorem ir_reduced1_ok : (Func.body Tryd.f116).bind (irOf Tryd.prog Tryd.f116.ntmps) = some ir_reduced1 := by kernel_rfl
theorem rs_reduced1_ok : Tryd.f116.results.toList.mapM (resOf Tryd.prog) = some rs_reduced1 := by kernel_rfl
theorem ent_reduced1 : enters Tryd.prog 116 = true := by kernel_rfl

def ir_reduced2 : IR := (.seq (.ops [⟨(some 3), none, (.pure (.move (.c (.int .i64 0))))⟩]) (.seq (.ops [⟨(some 5), none, (.eff (.load1 (.t 0)))⟩, ⟨(some 6), none, (.eff (.load1 (.t 1)))⟩, ⟨(some 7), none, (.call (.c (.func 118 [])) [(.t 5), (.t 6)])⟩, ⟨(some 8), none, (.call (.c (.func 66 [])) [(.t 7)])⟩, ⟨(some 4), none, (.pure (.move (.t 8)))⟩, ⟨(some 9), none, (.pure (.extract (.t 4) 0))⟩, ⟨(some 10), none, (.pure (.extract (.t 4) 1))⟩, ⟨(some 11), none, (.pure (.fieldAddr 0 (.t 2)))⟩, ⟨none, none, (.eff (.store 1 (.t 11) (.t 9)))⟩, ⟨(some 3), none, (.pure (.move (.t 10)))⟩]) (.seq (.ops [⟨(some 12), none, (.pure (.move (.t 3)))⟩, ⟨(some 3), none, (.pure (.move (.t 12)))⟩]) .ret)))
def rs_reduced2 : List IRes := [(.tmp 3)]
theorem ir_reduced2_ok : (Func.body Tryd.f117).bind (irOf Tryd.prog Tryd.f117.ntmps) = some ir_reduced2 := by kernel_rfl
theorem rs_reduced2_ok : Tryd.f117.results.toList.mapM (resOf Tryd.prog) = some rs_reduced2 := by kernel_rfl
theorem ent_reduced2 : enters Tryd.prog 117 = true := by kernel_rfl

def ir_reduced3 : IR := (.seq (.ops [⟨(some 3), none, (.pure (.move (.c (.int .i64 0))))⟩]) (.seq (.ops [⟨(some 5), none, (.eff (.load1 (.t 0)))⟩, ⟨(some 6), none, (.eff (.load1 (.t 1)))⟩, ⟨(some 7), none, (.call (.c (.func 118 [])) [(.t 5), (.t 6)])⟩, ⟨(some 8), none, (.call (.c (.func 66 [])) [(.t 7)])⟩, ⟨(some 4), none, (.pure (.move (.t 8)))⟩, ⟨(some 9), none, (.pure (.extract (.t 4) 0))⟩, ⟨(some 10), none, (.pure (.extract (.t 4) 1))⟩, ⟨(some 11), none, (.pure (.fieldAddr 1 (.t 2)))⟩, ⟨none, none, (.eff (.store 1 (.t 11) (.t 9)))⟩, ⟨(some 3), none, (.pure (.move (.t 10)))⟩]) (.seq (.ops [⟨(some 12), none, (.pure (.move (.t 3)))⟩, ⟨(some 3), none, (.pure (.move (.t 12)))⟩]) .ret)))
def rs_reduced3 : List IRes := [(.tmp 3)]
theorem ir_reduced3_ok : (Func.body Tryd.f119).bind (irOf Tryd.prog Tryd.f119.ntmps) = some ir_reduced3 := by kernel_rfl
theorem rs_reduced3_ok : Tryd.f119.results.toList.mapM (resOf Tryd.prog) = some rs_reduced3 := by kernel_rfl
theorem ent_reduced3 : enters Tryd.prog 119 = true := by kernel_rfl

def ir_checkFracs : IR := (.seq (.ops [⟨(some 2), none, (.pure (.move (.c (.int .i64 0))))⟩]) (.seq (.seq (.ops [⟨(some 8), none, (.pure (.move (.t 0)))⟩, ⟨(some 9), none, (.pure (.len (.t 8)))⟩, ⟨(some 10), none, (.pure (.move (.c (.int .i64 0))))⟩]) (.block 0 (.loop (.seq (.ops [⟨(some 11), none, (.pure (.bin .lss (.t 10) (.t 9)))⟩]) (.seq (.cond (.t 11) .skip (.exit 0)) (.seq (.block 1 (.seq (.ops [⟨(some 12), none, (.pure (.indexAddr 2 (.t 8) (.t 10)))⟩, ⟨(some 13), none, (.eff (.loadN 2 (.t 12)))⟩, ⟨(some 4), none, (.eff (.alloc [.nilslice, .nilslice]))⟩, ⟨none, none, (.eff (.store 2 (.t 4) (.t 13)))⟩]) (.seq (.ops [⟨(some 14), none, (.pure (.fieldAddr 0 (.t 4)))⟩, ⟨(some 15), none, (.eff (.load1 (.t 14)))⟩, ⟨(some 16), none, (.pure (.fieldAddr 1 (.t 4)))⟩, ⟨(some 17), none, (.eff (.load1 (.t 16)))⟩, ⟨(some 18), none, (.eff (.buildSlice 2 [.nilslice, .nilslice] [(0, (1, (.t 15))), (1, (1, (.t 17)))]))⟩, ⟨(some 19), none, (.call (.c (.func 60 [])) [(.t 18)])⟩, ⟨(some 5), none, (.pure (.move (.t 19)))⟩]) (.seq (.ops [⟨(some 20), none, (.pure (.move (.t 5)))⟩, ⟨(some 21), none, (.pure (.bin .neq (.t 20) (.c (.int .i64 0))))⟩]) (.cond (.t 21) (.seq (.ops [⟨(some 22), none, (.pure (.move (.t 5)))⟩, ⟨(some 2), none, (.pure (.move (.t 22)))⟩]) .ret) .skip))))) (.ops [⟨(some 23), none, (.pure (.bin .add (.t 10) (.c (.int .i64 1))))⟩, ⟨(some 10), none, (.pure (.move (.t 23)))⟩]))))))) (.seq (.seq (.ops [⟨(some 24), none, (.pure (.move (.t 0)))⟩, ⟨(some 25), none, (.pure (.len (.t 24)))⟩, ⟨(some 26), none, (.pure (.move (.c (.int .i64 0))))⟩]) (.block 2 (.loop (.seq (.ops [⟨(some 27), none, (.pure (.bin .lss (.t 26) (.t 25)))⟩]) (.seq (.cond (.t 27) .skip (.exit 2)) (.seq (.block 3 (.seq (.ops [⟨(some 28), none, (.pure (.indexAddr 2 (.t 24) (.t 26)))⟩, ⟨(some 29), none, (.eff (.loadN 2 (.t 28)))⟩, ⟨(some 7), none, (.eff (.alloc [.nilslice, .nilslice]))⟩, ⟨none, none, (.eff (.store 2 (.t 7) (.t 29)))⟩]) (.seq (.ops [⟨(some 30), none, (.pure (.fieldAddr 1 (.t 7)))⟩, ⟨(some 31), none, (.eff (.load1 (.t 30)))⟩, ⟨(some 32), none, (.call (.c (.func 73 [])) [(.t 31)])⟩]) (.cond (.t 32) (.seq (.ops [⟨(some 2), none, (.pure (.move (.c (.int .i64 7))))⟩]) .ret) .skip)))) (.ops [⟨(some 33), none, (.pure (.bin .add (.t 26) (.c (.int .i64 1))))⟩, ⟨(some 26), none, (.pure (.move (.t 33)))⟩]))))))) (.seq (.ops [⟨(some 2), none, (.pure (.move (.c (.int .i64 0))))⟩]) .ret))))
def rs_checkFracs : List IRes := [(.tmp 2)]
theorem ir_checkFracs_ok : (Func.body Tryd.f77).bind (irOf Tryd.prog Tryd.f77.ntmps) = some ir_checkFracs := by kernel_rfl
theorem rs_checkFracs_ok : Tryd.f77.results.toList.mapM (resOf Tryd.prog) = some rs_checkFracs := by kernel_rfl
theorem ent_checkFracs : enters Tryd.prog 77 = true := by kernel_rfl

end Go.Proofs.YtjmceapnhmeflaaDoor


/- Texts of code of this program, checked against its dump. -/
namespace Go.Proofs.YtjmceapnhmeflaaDoor
open Go Go.Vh
def ir_rfits : IR := (.seq (.ops [⟨(some 2), none, (.pure (.move (.c (.bool false))))⟩]) (.seq (.ops [⟨(some 3), none, (.pure (.move (.t 0)))⟩, ⟨(some 4), none, (.pure (.len (.t 3)))⟩, ⟨(some 5), none, (.pure (.bin .leq (.t 4) (.c (.int .i64 256))))⟩, ⟨(some 2), none, (.pure (.move (.t 5)))⟩]) .ret))
def rs_rfits : List IRes := [(.tmp 2)]
theorem ir_rfits_ok : (Func.body Tryd.f74).bind (irOf Tryd.prog Tryd.f74.ntmps) = some ir_rfits := by kernel_rfl
theorem rs_rfits_ok : Tryd.f74.results.toList.mapM (resOf Tryd.prog) = some rs_rfits := by kernel_rfl
theorem ent_rfits : enters Tryd.prog 74 = true := by kernel_rfl

def ir_lfrac : IR := (.seq (.ops [⟨(some 4), none, (.eff (.box (.t 0)))⟩, ⟨(some 6), none, (.eff (.box (.t 2)))⟩, ⟨(some 8), none, (.pure (.move (.c (.bool false))))⟩]) (.seq (.ops [⟨(some 9), none, (.pure (.move (.t 1)))⟩, ⟨(some 10), none, (.pure (.move (.t 3)))⟩, ⟨(some 11), none, (.pure (.bin .eql (.t 9) (.t 10)))⟩, ⟨(some 12), none, (.pure (.move (.t 11)))⟩, ⟨(some 13), (some (12, true)), (.eff (.loadN 2 (.t 4)))⟩, ⟨(some 14), (some (12, true)), (.eff (.loadN 2 (.t 6)))⟩, ⟨(some 15), (some (12, true)), (.call (.c (.func 75 [])) [(.t 13), (.t 14)])⟩, ⟨(some 16), none, (.pure (.pick (.t 12) (.t 15) (.c (.bool false))))⟩, ⟨(some 8), none, (.pure (.move (.t 16)))⟩]) .ret))
def rs_lfrac : List IRes := [(.tmp 8)]
theorem ir_lfrac_ok : (Func.body Tryd.f24).bind (irOf Tryd.prog Tryd.f24.ntmps) = some ir_lfrac := by kernel_rfl
theorem rs_lfrac_ok : Tryd.f24.results.toList.mapM (resOf Tryd.prog) = some rs_lfrac := by kernel_rfl
theorem ent_lfrac : enters Tryd.prog 24 = true := by kernel_rfl

def ir_rSameFrac : IR := (.seq (.ops [⟨(some 2), none, (.eff (.box (.t 0)))⟩, ⟨(some 3), none, (.eff (.box (.t 1)))⟩, ⟨(some 4), none, (.pure (.move (.c (.bool false))))⟩]) (.seq (.ops [⟨(some 5), none, (.pure (.fieldAddr 0 (.t 2)))⟩, ⟨(some 6), none, (.eff (.load1 (.t 5)))⟩, ⟨(some 7), none, (.pure (.fieldAddr 0 (.t 3)))⟩, ⟨(some 8), none, (.eff (.load1 (.t 7)))⟩, ⟨(some 9), none, (.call (.c (.func 16 [])) [(.t 6), (.t 8)])⟩, ⟨(some 10), none, (.pure (.move (.t 9)))⟩, ⟨(some 11), (some (10, true)), (.pure (.fieldAddr 1 (.t 2)))⟩, ⟨(some 12), (some (10, true)), (.eff (.load1 (.t 11)))⟩, ⟨(some 13), (some (10, true)), (.pure (.fieldAddr 1 (.t 3)))⟩, ⟨(some 14), (some (10, true)), (.eff (.load1 (.t 13)))⟩, ⟨(some 15), (some (10, true)), (.call (.c (.func 16 [])) [(.t 12), (.t 14)])⟩, ⟨(some 16), none, (.pure (.pick (.t 10) (.t 15) (.c (.bool false))))⟩, ⟨(some 4), none, (.pure (.move (.t 16)))⟩]) .ret))
def rs_rSameFrac : List IRes := [(.tmp 4)]
theorem ir_rSameFrac_ok : (Func.body Tryd.f75).bind (irOf Tryd.prog Tryd.f75.ntmps) = some ir_rSameFrac := by kernel_rfl
theorem rs_rSameFrac_ok : Tryd.f75.results.toList.mapM (resOf Tryd.prog) = some rs_rSameFrac := by kernel_rfl
theorem ent_rSameFrac : enters Tryd.prog 75 = true := by kernel_rfl

end Go.Proofs.YtjmceapnhmeflaaDoor

