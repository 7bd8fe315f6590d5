/- Samples, counted. -/
import Derived.Test.YtpkeneadkiabiabDoorVX
import Derived.Test.YtpkeneadkiabiabDoorFH
import Derived.Test.YtpkeneadkiabiabDoorC30
import Derived.Test.YtpkeneadkiabiabDoorV8
import Derived.Test.YtpkeneadkiabiabDoorChecked
import Derived.Test.YtpkeneadkiabiabDoorFI
set_option linter.unusedSimpArgs false
set_option linter.unusedVariables false
-- NEWSET
namespace Go.Proofs.YtpkeneadkiabiabDoor
open Go Go.Vh Go.Pc

end Go.Proofs.YtpkeneadkiabiabDoor



/- ExactSampling's walk. -/
-- NEWSET
namespace Go.Proofs.YtpkeneadkiabiabDoor
open Go Go.Vh Go.Pc

section
variable {K : St → AHeap → Prop} {d : Option Nat} {s : St} {H : AHeap}
end
theorem red_le {x y : Int} (hx : 0 ≤ x) : 0 ≤ redX x y ∧ redX x y ≤ x := by
  unfold redX
  exact ⟨Int.ediv_nonneg hx (by omega), Int.ediv_le_self _ hx⟩
theorem red_pos {x y : Int} (hx : 0 < x) : 0 < redX x y := by
  obtain ⟨a, rfl⟩ := Int.eq_ofNat_of_zero_le (Int.le_of_lt hx)
  unfold redX
  simp only [Int.toNat_natCast]
  have hd := Nat.gcd_dvd_left a y.toNat
  have hp : 0 < Nat.gcd a y.toNat := Nat.gcd_pos_of_pos_left _ (by omega)
  have := Nat.div_pos (Nat.le_of_dvd (by omega) hd) hp
  rw [← Int.natCast_ediv]; omega

end Go.Proofs.YtpkeneadkiabiabDoor


