/- Contracts: shifts of limbs. -/
import Derived.Test.YtpkeneadkiabiaaDoorVX
import Derived.Test.YtpkeneadkiabiaaDoorCD
import Derived.Test.YtpkeneadkiabiaaDoorIrB
import Derived.Test.YtpkeneadkiabiaaDoorVY
set_option linter.unusedSimpArgs false
set_option linter.unusedVariables false
-- NEWSET
namespace Go.Proofs.YtpkeneadkiabiaaDoor
open Go Go.Vh

end Go.Proofs.YtpkeneadkiabiaaDoor


/- Contracts: limbs shifted down. -/
-- NEWSET
namespace Go.Proofs.YtpkeneadkiabiaaDoor
open Go Go.Vh

theorem nvb_cons (x : Int) (l : List Int) : ∀ k, nv (x :: l) (k + 1) = x + BB * nv l k
  | 0 => by simp [nv]
  | k + 1 => by
    have ih := nvb_cons x l k
    rw [nv, ih, nv, Int.pow_succ]
    have e : (x :: l).getD (k + 1) 0 = l.getD k 0 := by simp
    rw [e, Int.mul_add, Int.mul_comm BB (l.getD k 0 * BB ^ k), Int.mul_assoc]
    omega
theorem numb_cons (x : Int) (l : List Int) : num (x :: l) = x + BB * num l := by
  simp only [num, List.length_cons]; exact nvb_cons x l l.length
theorem limbs_drop {l : List Int} (h : Limbs l) (i : Nat) : Limbs (l.drop i) := fun j => by
  have := h (i + j)
  simpa [List.getD_eq_getElem?_getD, List.getElem?_drop] using this
/-- the number of the limbs from i on -/
def upB (a : List Int) (i : Nat) : Nat := (num (a.drop i)).toNat
theorem upB_num {a : List Int} (h : Limbs a) (i : Nat) : num (a.drop i) = (upB a i : Int) := by
  have := num_nonneg (limbs_drop h i)
  simp only [upB]; omega
theorem upB_over {a : List Int} {i : Nat} (h : a.length ≤ i) : upB a i = 0 := by
  simp [upB, List.drop_eq_nil_of_le h, num, nv]
theorem dropB_getD {a : List Int} {i : Nat} (h : i < a.length) : a.drop i = a.getD i 0 :: a.drop (i + 1) := by
  rw [List.drop_eq_getElem_cons h]
  congr 1
  simp [List.getD_eq_getElem?_getD, h]
theorem upB_step {a : List Int} (ha : Limbs a) (i : Nat) : upB a i = (a.getD i 0).toNat + 4294967296 * upB a (i + 1) := by
  rcases Nat.lt_or_ge i a.length with h | h
  · have h1 := upB_num ha i
    rw [dropB_getD h, numb_cons, upB_num ha (i + 1), show BB = 4294967296 from rfl] at h1
    have := ha i
    omega
  · rw [upB_over h, upB_over (by omega), List.getD_eq_getElem?_getD, List.getElem?_eq_none h]; rfl
end Go.Proofs.YtpkeneadkiabiaaDoor


/- Contracts: a multiple is taken from limbs, and given back. -/
-- NEWSET
namespace Go.Proofs.YtpkeneadkiabiaaDoor
open Go Go.Vh

end Go.Proofs.YtpkeneadkiabiaaDoor

