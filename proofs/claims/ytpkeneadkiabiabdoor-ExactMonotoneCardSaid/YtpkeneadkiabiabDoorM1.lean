/- Bad things and samples may be exchanged; fractions, reduced, are compared as they are. -/
import Derived.Test.YtpkeneadkiabiabDoorVX
import Derived.Test.YtpkeneadkiabiabDoorFK
import Derived.Test.YtpkeneadkiabiabDoorFJ
set_option linter.unusedSimpArgs false
set_option linter.unusedVariables false
-- NEWSET
namespace Go.Proofs.YtpkeneadkiabiabDoor
open Go Go.Vh

def fa : Nat → Nat
  | 0 => 1
  | n + 1 => (n + 1) * fa n
theorem fa_pos : ∀ n, 0 < fa n
  | 0 => Nat.one_pos
  | n + 1 => Nat.mul_pos (Nat.succ_pos n) (fa_pos n)
theorem cnk_fa : ∀ a b, cnk (a + b) a * (fa a * fa b) = fa (a + b)
  | 0, b => by rw [cnk_zero, Nat.zero_add, Nat.one_mul]; simp [fa]
  | a + 1, 0 => by
    have h := cnk_fa a 0
    rw [Nat.add_zero] at h ⊢
    have hz : ∀ m j, m < j → cnk m j = 0 := fun m j h => cnk_over m j h
    have : cnk (a + 1) (a + 1) = cnk a a + cnk a (a + 1) := rfl
    rw [this, hz a (a + 1) (by omega), Nat.add_zero]
    show cnk a a * ((a + 1) * fa a * fa 0) = (a + 1) * fa a
    calc cnk a a * ((a + 1) * fa a * fa 0) = (a + 1) * (cnk a a * (fa a * fa 0)) := by
          rw [Nat.mul_assoc (a + 1), Nat.mul_left_comm]
      _ = (a + 1) * fa a := by rw [h]
  | a + 1, b + 1 => by
    have h1 := cnk_fa a (b + 1)
    have h2 := cnk_fa (a + 1) b
    have e : cnk (a + 1 + (b + 1)) (a + 1) = cnk (a + (b + 1)) a + cnk (a + 1 + b) (a + 1) := by
      rw [show a + 1 + (b + 1) = (a + (b + 1)) + 1 by omega, show a + 1 + b = a + (b + 1) by omega]; rfl
    rw [e, Nat.add_mul]
    have f1 : fa (a + 1) = (a + 1) * fa a := rfl
    have f2 : fa (b + 1) = (b + 1) * fa b := rfl
    have f3 : fa (a + 1 + (b + 1)) = (a + (b + 1) + 1) * fa (a + (b + 1)) := by
      rw [show a + 1 + (b + 1) = (a + (b + 1)) + 1 by omega]; rfl
    have g1 : cnk (a + (b + 1)) a * (fa (a + 1) * fa (b + 1)) = (a + 1) * fa (a + (b + 1)) := by
      rw [← h1, f1, Nat.mul_assoc (a + 1), Nat.mul_left_comm]
    have g2 : cnk (a + 1 + b) (a + 1) * (fa (a + 1) * fa (b + 1)) = (b + 1) * fa (a + (b + 1)) := by
      rw [show a + (b + 1) = a + 1 + b by omega, ← h2, f2, Nat.mul_left_comm (fa (a + 1)), Nat.mul_left_comm]
    rw [g1, g2, f3, ← Nat.add_mul]
    congr 1; omega
theorem multi (i p q r : Nat) : cnk (i + p + (q + r)) (i + p) * (cnk (i + p) i * cnk (q + r) q) * (fa i * fa p * (fa q * fa r)) = fa (i + p + (q + r)) := by
  have h1 := cnk_fa i p
  have h2 := cnk_fa q r
  have h3 := cnk_fa (i + p) (q + r)
  rw [← h3, ← h1, ← h2]
  generalize cnk (i + p + (q + r)) (i + p) = A
  generalize cnk (i + p) i = B
  generalize cnk (q + r) q = C
  generalize fa i * fa p = D
  generalize fa q * fa r = E
  rw [Nat.mul_assoc A, Nat.mul_mul_mul_comm B C D E]
theorem tN_swap {n b k : Nat} (hb : b ≤ n) (hk : k ≤ n) (i : Nat) : tN b (n - b) k i * cnk n b = tN k (n - k) b i * cnk n k := by
  by_cases h1 : b < i ∨ k < i
  · rw [tN_high h1, tN_high (by omega)]; omega
  · by_cases h2 : i + (n - b) < k
    · rw [tN_low h2, tN_low (by omega)]; omega
    · obtain ⟨p, rfl⟩ : ∃ p, b = i + p := ⟨b - i, by omega⟩
      obtain ⟨q, rfl⟩ : ∃ q, k = i + q := ⟨k - i, by omega⟩
      obtain ⟨r, rfl⟩ : ∃ r, n = i + p + (q + r) := ⟨n - (i + p + q), by omega⟩
      have e1 : i + p + (q + r) - (i + p) = q + r := by omega
      have e2 : i + p + (q + r) - (i + q) = p + r := by omega
      have m1 := multi i p q r
      have m2 := multi i q p r
      rw [show i + q + (p + r) = i + p + (q + r) by omega] at m2
      unfold tN
      rw [if_pos (by omega), if_pos (by omega), e1, e2, show i + q - i = q by omega, show i + p - i = p by omega]
      have hp : 0 < fa i * fa p * (fa q * fa r) := Nat.mul_pos (Nat.mul_pos (fa_pos i) (fa_pos p)) (Nat.mul_pos (fa_pos q) (fa_pos r))
      have hc : fa i * fa q * (fa p * fa r) = fa i * fa p * (fa q * fa r) := by rw [Nat.mul_mul_mul_comm]
      rw [hc] at m2
      refine Nat.eq_of_mul_eq_mul_right hp ?_
      rw [Nat.mul_comm (cnk (i + p) i * cnk (q + r) q), Nat.mul_comm (cnk (i + q) i * cnk (p + r) p), m1, m2]
theorem sumT_swap {n b k : Nat} (hb : b ≤ n) (hk : k ≤ n) : ∀ m, sumT b (n - b) k m * cnk n b = sumT k (n - k) b m * cnk n k
  | 0 => by simp [sumT]
  | m + 1 => by rw [sumT, sumT, Nat.add_mul, Nat.add_mul, sumT_swap hb hk m, tN_swap hb hk m]
theorem wT_swap {n b k : Nat} {seen : Int} (hb : b ≤ n) (hk : k ≤ n) : wT n b k seen * cnk n b = wT n k b seen * cnk n k := sumT_swap hb hk _
theorem wT_seen {n b k : Nat} {s : Nat} : wT n b k (s : Int) ≤ wT n b k ((s : Int) + 1) := by
  unfold wT wN
  rw [show ((s : Int) + 1 + 1).toNat = (((s : Int) + 1).toNat) + 1 by omega, sumT]
  omega

theorem red_parts {x y : Nat} (hy : 0 < y) : ∃ a c g, 0 < g ∧ 0 < c ∧ x = a * g ∧ y = c * g ∧ Nat.gcd a c = 1 ∧ redX (x : Int) (y : Int) = (a : Int) ∧ redX (y : Int) (x : Int) = (c : Int) := by
  have hg : 0 < Nat.gcd x y := Nat.gcd_pos_of_pos_right _ hy
  have h1 := Nat.div_mul_cancel (Nat.gcd_dvd_left x y)
  have h2 := Nat.div_mul_cancel (Nat.gcd_dvd_right x y)
  refine ⟨x / Nat.gcd x y, y / Nat.gcd x y, Nat.gcd x y, hg, ?_, h1.symm, h2.symm, ?_, ?_, ?_⟩
  · exact Nat.div_pos (Nat.le_of_dvd hy (Nat.gcd_dvd_right x y)) hg
  · rw [Nat.gcd_div (Nat.gcd_dvd_left x y) (Nat.gcd_dvd_right x y), Nat.div_self hg]
  · unfold redX; rw [Int.toNat_natCast, Int.toNat_natCast, Int.natCast_ediv]
  · unfold redX; rw [Int.toNat_natCast, Int.toNat_natCast, Int.natCast_ediv, Nat.gcd_comm]
theorem red_cross_le {x1 y1 x2 y2 : Nat} (h1 : 0 < y1) (h2 : 0 < y2) (h : x1 * y2 ≤ x2 * y1) : redX (x1 : Int) (y1 : Int) * redX (y2 : Int) (x2 : Int) ≤ redX (x2 : Int) (y2 : Int) * redX (y1 : Int) (x1 : Int) := by
  obtain ⟨a1, c1, g1, p1, _, rfl, rfl, _, e1, e2⟩ := red_parts (x := x1) h1
  obtain ⟨a2, c2, g2, p2, _, rfl, rfl, _, e3, e4⟩ := red_parts (x := x2) h2
  rw [e1, e2, e3, e4, ← Int.natCast_mul, ← Int.natCast_mul]
  rw [Nat.mul_mul_mul_comm a1, Nat.mul_mul_mul_comm a2, Nat.mul_comm g2 g1] at h
  have := Nat.le_of_mul_le_mul_right h (Nat.mul_pos p1 p2)
  omega
theorem red_same {x1 y1 x2 y2 : Nat} (h1 : 0 < y1) (h2 : 0 < y2) (h : x1 * y2 = x2 * y1) : redX (x1 : Int) (y1 : Int) = redX (x2 : Int) (y2 : Int) ∧ redX (y1 : Int) (x1 : Int) = redX (y2 : Int) (x2 : Int) := by
  obtain ⟨a1, c1, g1, p1, q1, rfl, rfl, k1, e1, e2⟩ := red_parts (x := x1) h1
  obtain ⟨a2, c2, g2, p2, q2, rfl, rfl, k2, e3, e4⟩ := red_parts (x := x2) h2
  rw [e1, e2, e3, e4]
  rw [Nat.mul_mul_mul_comm a1, Nat.mul_mul_mul_comm a2, Nat.mul_comm g2 g1] at h
  have hh := Nat.eq_of_mul_eq_mul_right (Nat.mul_pos p1 p2) h
  have d1 : c1 ∣ c2 := Nat.Coprime.dvd_of_dvd_mul_left (k := c1) (m := a1) (n := c2) (by rw [Nat.Coprime, Nat.gcd_comm]; exact k1) (by rw [hh]; exact Nat.dvd_mul_left _ _)
  have d2 : c2 ∣ c1 := Nat.Coprime.dvd_of_dvd_mul_left (k := c2) (m := a2) (n := c1) (by rw [Nat.Coprime, Nat.gcd_comm]; exact k2) (by rw [← hh]; exact Nat.dvd_mul_left _ _)
  have hc := Nat.dvd_antisymm d1 d2
  subst hc
  have ha := Nat.eq_of_mul_eq_mul_right q1 hh
  subst ha
  exact ⟨rfl, rfl⟩
end Go.Proofs.YtpkeneadkiabiabDoor

