/- Ones of numbers: how many numbers below a power of two have so many. -/
import Derived.Test.YtjmceapnhmeflaaDoorVX
import Derived.Test.YtjmceapnhmeflaaDoorFH
import Derived.Test.YtjmceapnhmeflaaDoorV7
import Derived.Test.YtjmceapnhmeflaaDoorCD
import Derived.Test.YtjmceapnhmeflaaDoorC8
import Derived.Test.YtjmceapnhmeflaaDoorChecked
import Derived.Test.YtjmceapnhmeflaaDoorIrC
import Derived.Test.YtjmceapnhmeflaaDoorFI
set_option linter.unusedSimpArgs false
set_option linter.unusedVariables false
namespace Go.Pc

/-- how many of the first numbers have a property -/
def cs (f : Nat → Bool) : Nat → Nat
  | 0 => 0
  | j + 1 => cs f j + if f j then 1 else 0
section
variable {c : Nat → Nat → Nat} (h0 : ∀ n, c n 0 = 1) (h1 : ∀ k, c 0 (k + 1) = 0) (h2 : ∀ n k, c (n + 1) (k + 1) = c n k + c n (k + 1))
include h0 h1 h2
end
end Go.Pc


/- Samples, counted. -/
-- NEWSET
namespace Go.Proofs.YtjmceapnhmeflaaDoor
open Go Go.Vh Go.Pc

end Go.Proofs.YtjmceapnhmeflaaDoor


/- ExactSampling's walk. -/
-- NEWSET
namespace Go.Proofs.YtjmceapnhmeflaaDoor
open Go Go.Vh Go.Pc

section
variable {K : St → AHeap → Prop} {d : Option Nat} {s : St} {H : AHeap}
end
theorem cmp_eq {a b : Int} (h : a = b) : cmpI a b = 0 := by subst h; simp [cmpI]
theorem red_le {x y : Int} (hx : 0 ≤ x) : 0 ≤ redX x y ∧ redX x y ≤ x := by
  unfold redX
  exact ⟨Int.ediv_nonneg hx (by omega), Int.ediv_le_self _ hx⟩
end Go.Proofs.YtjmceapnhmeflaaDoor

