/- A digit of a quotient, guessed from three limbs and two. -/
import Derived.Test.YtpkeneadkiabiaaDoorVX
import Derived.Test.YtpkeneadkiabiaaDoorFB
set_option linter.unusedSimpArgs false
set_option linter.unusedVariables false
-- NEWSET
namespace Go.Proofs.YtpkeneadkiabiaaDoor
open Go Go.Vh

/-- The numbers of a guess: W from three limbs, V from two. -/
structure Guess (u0 u1 u2 v1 v2 R D : Nat) : Prop where
  b0 : u0 < 4294967296
  b1 : u1 < 4294967296
  b2 : u2 < 4294967296
  c1 : v1 < 4294967296
  c2 : v2 < 4294967296
  top : 2147483648 ≤ v1
  split : ∃ P rl dl, rl < P ∧ dl < P ∧ R = ((u0 * 4294967296 + u1) * 4294967296 + u2) * P + rl ∧ D = (v1 * 4294967296 + v2) * P + dl
  small : R < D * 4294967296

theorem Guess.pos {u0 u1 u2 v1 v2 R D : Nat} (g : Guess u0 u1 u2 v1 v2 R D) : 0 < D := by
  have := g.small
  rcases Nat.eq_zero_or_pos D with h | h
  · subst h; omega
  · exact h
theorem Guess.le {u0 u1 u2 v1 v2 R D : Nat} (g : Guess u0 u1 u2 v1 v2 R D) : u0 ≤ v1 := by
  obtain ⟨P, rl, dl, h1, h2, rfl, rfl⟩ := g.split
  have hs := g.small
  have c2 := g.c2
  rcases Nat.lt_or_ge v1 u0 with h | h
  · exfalso
    have e1 : (v1 + 1) * 4294967296 * 4294967296 * P ≤ ((u0 * 4294967296 + u1) * 4294967296 + u2) * P := Nat.mul_le_mul_right _ (by omega)
    have e2 : ((v1 * 4294967296 + v2) * P + dl) ≤ (v1 * 4294967296 + v2 + 1) * P := by rw [Nat.add_mul _ 1, Nat.one_mul]; omega
    have e3 : (v1 * 4294967296 + v2 + 1) * P ≤ ((v1 + 1) * 4294967296) * P := Nat.mul_le_mul_right _ (by omega)
    have e4 : ((v1 + 1) * 4294967296) * P * 4294967296 = (v1 + 1) * 4294967296 * 4294967296 * P := Nat.mul_right_comm _ _ _
    omega
  · exact h
/-- what is guessed at first is not too small -/
theorem Guess.first {u0 u1 u2 v1 v2 R D : Nat} (g : Guess u0 u1 u2 v1 v2 R D) : R / D ≤ (u0 * 4294967296 + u1) / v1 := by
  have hD := g.pos
  have ht := g.top
  have b2 := g.b2
  obtain ⟨P, rl, dl, h1, h2, rfl, rfl⟩ := g.split
  rw [Nat.le_div_iff_mul_le (by omega)]
  have hq := Nat.div_mul_le_self (((u0 * 4294967296 + u1) * 4294967296 + u2) * P + rl) ((v1 * 4294967296 + v2) * P + dl)
  generalize (((u0 * 4294967296 + u1) * 4294967296 + u2) * P + rl) / ((v1 * 4294967296 + v2) * P + dl) = q at *
  have hP : 0 < P := by omega
  have e1 : q * (v1 * 4294967296 * P) ≤ q * ((v1 * 4294967296 + v2) * P + dl) := Nat.mul_le_mul_left _ (by rw [Nat.add_mul]; omega)
  have e2 : q * (v1 * 4294967296 * P) = q * v1 * 4294967296 * P := by rw [← Nat.mul_assoc, ← Nat.mul_assoc]
  have e3 : ((u0 * 4294967296 + u1) * 4294967296 + u2) * P + rl < ((u0 * 4294967296 + u1 + 1) * 4294967296) * P := by
    have : ((u0 * 4294967296 + u1) * 4294967296 + u2 + 1) * P ≤ ((u0 * 4294967296 + u1 + 1) * 4294967296) * P := Nat.mul_le_mul_right _ (by omega)
    rw [Nat.add_mul _ 1, Nat.one_mul] at this
    omega
  have e4 : q * v1 * 4294967296 * P < ((u0 * 4294967296 + u1 + 1) * 4294967296) * P := by omega
  have e5 := Nat.lt_of_mul_lt_mul_right e4
  omega
/-- a guess that fails the test is too large -/
theorem Guess.down {u0 u1 u2 v1 v2 R D q r : Nat} (g : Guess u0 u1 u2 v1 v2 R D) (hqr : q * v1 + r = u0 * 4294967296 + u1) (ht : r * 4294967296 + u2 < q * v2) : R / D + 1 ≤ q := by
  have hD := g.pos
  rw [Nat.add_one_le_iff, Nat.div_lt_iff_lt_mul hD]
  obtain ⟨P, rl, dl, h1, h2, rfl, rfl⟩ := g.split
  have e0 : q * (v1 * 4294967296 + v2) = q * v1 * 4294967296 + q * v2 := by rw [Nat.mul_add, Nat.mul_assoc]
  have e1 : (u0 * 4294967296 + u1) * 4294967296 + u2 + 1 ≤ q * (v1 * 4294967296 + v2) := by rw [e0]; omega
  have e2 := Nat.mul_le_mul_right P e1
  rw [Nat.add_mul _ 1, Nat.one_mul] at e2
  have e3 : q * ((v1 * 4294967296 + v2) * P + dl) = q * (v1 * 4294967296 + v2) * P + q * dl := by rw [Nat.mul_add, Nat.mul_assoc]
  rw [e3]; omega
/-- a guess that passes is at most one too large -/
theorem Guess.last {u0 u1 u2 v1 v2 R D q r : Nat} (g : Guess u0 u1 u2 v1 v2 R D) (hq : q ≤ 4294967295) (hqr : q * v1 + r = u0 * 4294967296 + u1) (ht : q * v2 ≤ r * 4294967296 + u2) : q ≤ R / D + 1 := by
  have hD := g.pos
  have htop := g.top
  rw [← Nat.add_div_right R hD, Nat.le_div_iff_mul_le hD]
  obtain ⟨P, rl, dl, h1, h2, rfl, rfl⟩ := g.split
  have e0 : q * (v1 * 4294967296 + v2) = q * v1 * 4294967296 + q * v2 := by rw [Nat.mul_add, Nat.mul_assoc]
  have e1 : q * (v1 * 4294967296 + v2) ≤ (u0 * 4294967296 + u1) * 4294967296 + u2 := by rw [e0]; omega
  have e2 := Nat.mul_le_mul_right P e1
  have e3 : q * ((v1 * 4294967296 + v2) * P + dl) = q * (v1 * 4294967296 + v2) * P + q * dl := by rw [Nat.mul_add, Nat.mul_assoc]
  have e4 : q * dl ≤ 4294967295 * P := Nat.mul_le_mul hq (by omega)
  have e5 : 4294967295 * P ≤ (v1 * 4294967296 + v2) * P := Nat.mul_le_mul_right _ (by omega)
  rw [e3]; omega
end Go.Proofs.YtpkeneadkiabiaaDoor


/- Contracts: guessDigit. -/
-- NEWSET
namespace Go.Proofs.YtpkeneadkiabiaaDoor
open Go Go.Vh

end Go.Proofs.YtpkeneadkiabiaaDoor


/- Contracts: takeDigit. -/
-- NEWSET
namespace Go.Proofs.YtpkeneadkiabiaaDoor
open Go Go.Vh

end Go.Proofs.YtpkeneadkiabiaaDoor

