/- Texts of code of this program, checked against its dump. -/
import Derived.Test.YtpkeneadkiabiaaDoorV8
import Derived.Test.YtpkeneadkiabiaaDoorChecked
namespace Go.Proofs.YtpkeneadkiabiaaDoor
open Go Go.Vh
def ir_rCheckFrac : IR := (.seq (.ops [⟨(some 1), none, (.eff (.box (.t 0)))⟩, ⟨(some 2), none, (.pure (.move (.c (.int .i64 0))))⟩]) (.seq (.seq (.ops [⟨(some 3), none, (.pure (.fieldAddr 0 (.t 1)))⟩, ⟨(some 4), none, (.eff (.load1 (.t 3)))⟩, ⟨(some 5), none, (.pure (.fieldAddr 1 (.t 1)))⟩, ⟨(some 6), none, (.eff (.load1 (.t 5)))⟩, ⟨(some 7), none, (.call (.c (.func 78 [])) [(.t 4), (.t 6)])⟩, ⟨(some 8), none, (.pure (.bin .neq (.t 7) (.c (.int .i64 0))))⟩]) (.cond (.t 8) (.seq (.ops [⟨(some 2), none, (.pure (.move (.c (.int .i64 4))))⟩]) .ret) .skip)) (.seq (.seq (.ops [⟨(some 9), none, (.pure (.fieldAddr 1 (.t 1)))⟩, ⟨(some 10), none, (.eff (.load1 (.t 9)))⟩, ⟨(some 11), none, (.call (.c (.func 64 [])) [(.t 10)])⟩, ⟨(some 12), none, (.pure (.len (.t 11)))⟩, ⟨(some 13), none, (.pure (.bin .eql (.t 12) (.c (.int .i64 0))))⟩]) (.cond (.t 13) (.seq (.ops [⟨(some 2), none, (.pure (.move (.c (.int .i64 7))))⟩]) .ret) .skip)) (.seq (.ops [⟨(some 2), none, (.pure (.move (.c (.int .i64 0))))⟩]) .ret))))
def rs_rCheckFrac : List IRes := [(.tmp 2)]
theorem ir_rCheckFrac_ok : (Func.body Tryd.f27).bind (irOf Tryd.prog Tryd.f27.ntmps) = some ir_rCheckFrac := by kernel_rfl
theorem rs_rCheckFrac_ok : Tryd.f27.results.toList.mapM (resOf Tryd.prog) = some rs_rCheckFrac := by kernel_rfl
theorem ent_rCheckFrac : enters Tryd.prog 27 = true := by kernel_rfl

def ir_rboth : IR := (.seq (.ops [⟨(some 4), none, (.pure (.move (.c (.int .i64 0))))⟩]) (.seq (.seq (.ops [⟨(some 5), none, (.pure (.move (.t 0)))⟩, ⟨(some 6), none, (.call (.c (.func 115 [])) [(.t 5)])⟩, ⟨(some 7), none, (.pure (.bin .neq (.t 6) (.c (.int .i64 0))))⟩, ⟨(some 8), none, (.pure (.move (.t 7)))⟩, ⟨(some 9), (some (8, false)), (.pure (.move (.t 1)))⟩, ⟨(some 10), (some (8, false)), (.call (.c (.func 115 [])) [(.t 9)])⟩, ⟨(some 11), (some (8, false)), (.pure (.bin .neq (.t 10) (.c (.int .i64 0))))⟩, ⟨(some 12), none, (.pure (.pick (.t 8) (.c (.bool true)) (.t 11)))⟩]) (.cond (.t 12) (.seq (.ops [⟨(some 4), none, (.pure (.move (.c (.int .i64 4))))⟩]) .ret) .skip)) (.seq (.ops [⟨(some 4), none, (.pure (.move (.c (.int .i64 0))))⟩]) .ret)))
def rs_rboth : List IRes := [(.tmp 4)]
theorem ir_rboth_ok : (Func.body Tryd.f78).bind (irOf Tryd.prog Tryd.f78.ntmps) = some ir_rboth := by kernel_rfl
theorem rs_rboth_ok : Tryd.f78.results.toList.mapM (resOf Tryd.prog) = some rs_rboth := by kernel_rfl
theorem ent_rboth : enters Tryd.prog 78 = true := by kernel_rfl

def ir_rCheck : IR := (.seq (.ops [⟨(some 2), none, (.pure (.move (.c (.int .i64 0))))⟩]) (.seq (.seq (.ops [⟨(some 3), none, (.pure (.move (.t 0)))⟩, ⟨(some 4), none, (.pure (.len (.t 3)))⟩, ⟨(some 5), none, (.pure (.bin .gtr (.t 4) (.c (.int .i64 64))))⟩]) (.cond (.t 5) (.seq (.ops [⟨(some 2), none, (.pure (.move (.c (.int .i64 4))))⟩]) .ret) .skip)) (.seq (.ops [⟨(some 2), none, (.pure (.move (.c (.int .i64 0))))⟩]) .ret)))
def rs_rCheck : List IRes := [(.tmp 2)]
theorem ir_rCheck_ok : (Func.body Tryd.f115).bind (irOf Tryd.prog Tryd.f115.ntmps) = some ir_rCheck := by kernel_rfl
theorem rs_rCheck_ok : Tryd.f115.results.toList.mapM (resOf Tryd.prog) = some rs_rCheck := by kernel_rfl
theorem ent_rCheck : enters Tryd.prog 115 = true := by kernel_rfl

end Go.Proofs.YtpkeneadkiabiaaDoor

