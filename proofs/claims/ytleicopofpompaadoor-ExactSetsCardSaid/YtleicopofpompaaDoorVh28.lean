/- What a law's row asks behind the call, its closed facts as one test. -/
import Derived.Test.YtleicopofpompaaDoorVh27
set_option linter.unusedSimpArgs false
set_option linter.unusedVariables false
namespace Go.Vh
open Go Go.ChangeShapes Go.WideShapes Go.RowKit Go.ChangeAt

def rowOK (P : Program) (f : Func) : Bool := laidOutB P && f.params.toList.all fun t => P.readableRec t && decide (t < P.types.size)

theorem law_post' {P : Program} {H : Type} {enc : TypeId × Value → H} {f : Func} {s : ChangeSpec} {W W' : World} {args : Array Value} {ds : List (DataW H)} {before : List MemPlace} {tb : TypeId}
    (hok : rowOK P f = true) (hr : f.resultTypes = #[tb]) (htb : P.underlying tb = some .bool)
    (hs : (s.fn H ds).results = [.lit (.bool true)]) (hsa : (s.fn H ds).args = ds) (hsv : (s.fn H ds).vars = []) (hv : s.vars = [])
    (hW : DataW.Whole enc P f.params.toList s.vars false W args.toList ds [] before) (hf : Frm W.heap.size (fun _ => False) W W') : s.post enc P f false true false false W args (.bool true) W' := by
  simp only [rowOK, Bool.and_eq_true, List.all_eq_true, decide_eq_true_eq] at hok
  exact law_post hok.1 hok.2 hr htb hs hsa hsv hv hW hf
end Go.Vh
