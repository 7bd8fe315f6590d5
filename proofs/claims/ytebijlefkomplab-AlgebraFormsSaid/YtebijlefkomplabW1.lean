/- Numbers of bits, from the first one on. -/
import Derived.Test.YtebijlefkomplabVh34
set_option linter.unusedSimpArgs false
set_option linter.unusedVariables false
namespace Go.Wd

def wd (h : Nat → Bool) : Nat → Nat
  | 0 => 0
  | j + 1 => 2 * wd h j + (if h j then 1 else 0)

theorem wd_lt (h : Nat → Bool) : ∀ m, wd h m < 2 ^ m
  | 0 => by simp [wd]
  | m + 1 => by
    have := wd_lt h m
    rw [wd, Nat.pow_succ]
    split <;> omega

theorem wd_congr {h h' : Nat → Bool} : ∀ {m}, (∀ i, i < m → h i = h' i) → wd h m = wd h' m
  | 0, _ => rfl
  | m + 1, e => by rw [wd, wd, wd_congr fun i hi => e i (by omega), e m (by omega)]

theorem wd_at (h : Nat → Bool) : ∀ m i, i < m → (wd h m / 2 ^ (m - 1 - i)) % 2 = if h i then 1 else 0
  | 0, i, hi => by omega
  | m + 1, i, hi => by
    rw [wd]
    rcases Nat.eq_or_lt_of_le (Nat.le_of_lt_succ hi) with e | e
    · subst e
      rw [show i + 1 - 1 - i = 0 by omega, Nat.pow_zero, Nat.div_one]
      split <;> omega
    · have ih := wd_at h m i e
      rw [show m + 1 - 1 - i = (m - 1 - i) + 1 by omega, Nat.pow_succ, Nat.mul_comm (2 ^ (m - 1 - i)) 2, ← Nat.div_div_eq_div_mul]
      rw [show (2 * wd h m + (if h m then 1 else 0)) / 2 = wd h m by split <;> omega]
      exact ih

/-- The bits of a list from a place on; behind its end false. -/
def cut (n : Nat) (f : Nat → Bool) (d : Nat) : Nat → Bool := fun i => decide (d + i < n) && f (d + i)
/-- The last digits of a number. -/
def dg (x w : Nat) : Nat → Bool := fun i => decide ((x / 2 ^ (w - 1 - i)) % 2 = 1)
theorem dg_wd (h : Nat → Bool) (m i : Nat) (hi : i < m) : dg (wd h m) m i = h i := by
  unfold dg
  rw [wd_at h m i hi]
  cases h i <;> rfl
end Go.Wd
