/- ExactLaws' walk. -/
import Derived.Test.YtjmceapnhmeflaaDoorVX
import Derived.Test.YtjmceapnhmeflaaDoorFF
set_option linter.unusedSimpArgs false
set_option linter.unusedVariables false
-- NEWSET
namespace Go.Proofs.YtjmceapnhmeflaaDoor
open Go Go.Vh

theorem call_same' {x x' : Int} {u v : AV} {K : St → AHeap → Prop} {d : Option Nat} {s : St} {H : AHeap} (hu : AtN H u x) (hv : AtN H v x') (he : x = x') {k : Nat} (hb : x < BB ^ k) (hk : k ≤ 100000) (hK : K (putI d s (.bool true)) H) : thenC Tryd.prog K d s H [u, v] (.func 16 []) := by
  subst he
  exact call_same hu hv (Int.lt_of_lt_of_le hb (BB_mono hk)) hK

end Go.Proofs.YtjmceapnhmeflaaDoor

