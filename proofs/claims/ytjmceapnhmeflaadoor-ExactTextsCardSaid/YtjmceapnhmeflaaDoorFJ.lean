/- Ones of numbers: how many numbers below a power of two have so many. -/
import Derived.Test.YtjmceapnhmeflaaDoorVX
import Derived.Test.YtjmceapnhmeflaaDoorFH
import Derived.Test.YtjmceapnhmeflaaDoorV7
import Derived.Test.YtjmceapnhmeflaaDoorCD
import Derived.Test.YtjmceapnhmeflaaDoorC8
import Derived.Test.YtjmceapnhmeflaaDoorChecked
import Derived.Test.YtjmceapnhmeflaaDoorFI
set_option linter.unusedSimpArgs false
set_option linter.unusedVariables false
namespace Go.Pc

/-- how many of the first numbers have a property -/
def cs (f : Nat → Bool) : Nat → Nat
  | 0 => 0
  | j + 1 => cs f j + if f j then 1 else 0
section
variable {c : Nat → Nat → Nat} (h0 : ∀ n, c n 0 = 1) (h1 : ∀ k, c 0 (k + 1) = 0) (h2 : ∀ n k, c (n + 1) (k + 1) = c n k + c n (k + 1))
include h0 h1 h2
end
end Go.Pc


/- Samples, counted. -/
-- NEWSET
namespace Go.Proofs.YtjmceapnhmeflaaDoor
open Go Go.Vh Go.Pc

end Go.Proofs.YtjmceapnhmeflaaDoor


/- ExactSampling's walk. -/
-- NEWSET
namespace Go.Proofs.YtjmceapnhmeflaaDoor
open Go Go.Vh Go.Pc

section
variable {K : St → AHeap → Prop} {d : Option Nat} {s : St} {H : AHeap}
end
theorem red_cross {x y : Int} (hx : 0 ≤ x) (hy : 0 < y) : redX x y * y = x * redX y x := by
  obtain ⟨a, rfl⟩ := Int.eq_ofNat_of_zero_le hx
  obtain ⟨b, rfl⟩ := Int.eq_ofNat_of_zero_le (Int.le_of_lt hy)
  unfold redX
  simp only [Int.toNat_natCast]
  rw [Nat.gcd_comm b a]
  have h1 := Nat.div_mul_cancel (Nat.gcd_dvd_left a b)
  have h2 := Nat.div_mul_cancel (Nat.gcd_dvd_right a b)
  rw [← Int.natCast_ediv, ← Int.natCast_ediv, ← Int.natCast_mul, ← Int.natCast_mul]
  congr 1
  generalize Nat.gcd a b = g at *
  calc a / g * b = a / g * (b / g * g) := by rw [h2]
    _ = a / g * g * (b / g) := by rw [Nat.mul_assoc, Nat.mul_comm g]
    _ = a * (b / g) := by rw [h1]
theorem red_le {x y : Int} (hx : 0 ≤ x) : 0 ≤ redX x y ∧ redX x y ≤ x := by
  unfold redX
  exact ⟨Int.ediv_nonneg hx (by omega), Int.ediv_le_self _ hx⟩
theorem red_pos {x y : Int} (hx : 0 < x) : 0 < redX x y := by
  obtain ⟨a, rfl⟩ := Int.eq_ofNat_of_zero_le (Int.le_of_lt hx)
  unfold redX
  simp only [Int.toNat_natCast]
  have hd := Nat.gcd_dvd_left a y.toNat
  have hp : 0 < Nat.gcd a y.toNat := Nat.gcd_pos_of_pos_left _ (by omega)
  have := Nat.div_pos (Nat.le_of_dvd (by omega) hd) hp
  rw [← Int.natCast_ediv]; omega

end Go.Proofs.YtjmceapnhmeflaaDoor

