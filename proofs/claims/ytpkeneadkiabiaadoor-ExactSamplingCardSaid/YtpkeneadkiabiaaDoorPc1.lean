/- Ones of numbers: how many numbers below a power of two have so many. -/
set_option linter.unusedSimpArgs false
set_option linter.unusedVariables false
namespace Go.Pc

/-- how many bits are true -/
def pc : Nat → Nat
  | 0 => 0
  | n + 1 => (n + 1) % 2 + pc ((n + 1) / 2)
decreasing_by omega
theorem pc_zero : pc 0 = 0 := by unfold pc; rfl
theorem pc_pos {n : Nat} (h : 0 < n) : pc n = n % 2 + pc (n / 2) := by
  cases n with
  | zero => omega
  | succ n => rw [pc]
theorem pc_even (n : Nat) : pc (2 * n) = pc n := by
  rcases Nat.eq_zero_or_pos n with rfl | h
  · rfl
  · rw [pc_pos (by omega), show 2 * n % 2 = 0 by omega, show 2 * n / 2 = n by omega, Nat.zero_add]
theorem pc_odd (n : Nat) : pc (2 * n + 1) = pc n + 1 := by
  rw [pc_pos (by omega), show (2 * n + 1) % 2 = 1 by omega, show (2 * n + 1) / 2 = n by omega, Nat.add_comm]
theorem pc_le : ∀ n : Nat, pc n ≤ n := by
  intro n
  induction n using Nat.strongRecOn with
  | ind n ih =>
    rcases Nat.eq_zero_or_pos n with rfl | h
    · rw [pc_zero]; exact Nat.le_refl 0
    · have := ih (n / 2) (by omega)
      rw [pc_pos h]; omega

/-- how many of the first numbers have a property -/
def cs (f : Nat → Bool) : Nat → Nat
  | 0 => 0
  | j + 1 => cs f j + if f j then 1 else 0
theorem cs_le (f : Nat → Bool) : ∀ j, cs f j ≤ j
  | 0 => Nat.le_refl 0
  | j + 1 => by have := cs_le f j; unfold cs; split <;> omega
theorem cs_congr {f g : Nat → Bool} (h : ∀ i, f i = g i) : ∀ j, cs f j = cs g j
  | 0 => rfl
  | j + 1 => by rw [cs, cs, cs_congr h j, h]
theorem cs_two (f : Nat → Bool) : ∀ m, cs f (2 * m) = cs (fun i => f (2 * i)) m + cs (fun i => f (2 * i + 1)) m
  | 0 => rfl
  | m + 1 => by
    rw [show 2 * (m + 1) = 2 * m + 1 + 1 by omega, cs, cs, cs_two f m, cs, cs]
    omega
theorem cs_none : ∀ j, cs (fun _ => false) j = 0
  | 0 => rfl
  | j + 1 => by rw [cs, cs_none j]; rfl
theorem cs_add {f g h : Nat → Bool} (hd : ∀ i, (if h i then 1 else 0) = (if f i then 1 else 0) + (if g i then 1 else 0)) : ∀ j, cs h j = cs f j + cs g j
  | 0 => rfl
  | j + 1 => by rw [cs, cs, cs, cs_add hd j, hd]; omega

section
variable {c : Nat → Nat → Nat} (h0 : ∀ n, c n 0 = 1) (h1 : ∀ k, c 0 (k + 1) = 0) (h2 : ∀ n k, c (n + 1) (k + 1) = c n k + c n (k + 1))
include h0 h1 h2
theorem sets_just : ∀ n k, cs (fun s => decide (pc s = k)) (2 ^ n) = c n k := by
  intro n
  induction n with
  | zero =>
    intro k
    cases k with
    | zero => rw [h0]; simp [cs, pc_zero]
    | succ k => rw [h1]; simp [cs, pc_zero]
  | succ n ih =>
    intro k
    rw [Nat.pow_succ, Nat.mul_comm, cs_two]
    have e1 : ∀ j, cs (fun i => decide (pc (2 * i) = k)) j = cs (fun i => decide (pc i = k)) j := cs_congr fun i => by rw [pc_even]
    rw [e1, ih]
    cases k with
    | zero =>
      have e2 : ∀ j, cs (fun i => decide (pc (2 * i + 1) = 0)) j = cs (fun _ => false) j := cs_congr fun i => by rw [pc_odd]; simp
      rw [e2, cs_none, h0, h0]
    | succ k =>
      have e2 : ∀ j, cs (fun i => decide (pc (2 * i + 1) = k + 1)) j = cs (fun i => decide (pc i = k)) j := cs_congr fun i => by rw [pc_odd]; simp
      rw [e2, ih, h2]; omega
/-- the sum of the first ones -/
theorem sets_most {b : Nat → Nat → Nat} (b0 : ∀ n, b n 0 = c n 0) (b1 : ∀ n k, b n (k + 1) = b n k + c n (k + 1)) (n : Nat) : ∀ k, cs (fun s => decide (pc s ≤ k)) (2 ^ n) = b n k
  | 0 => by
    rw [b0, ← sets_just h0 h1 h2 n 0]
    exact cs_congr (fun i => by simp) _
  | k + 1 => by
    rw [b1, ← sets_most b0 b1 n k, ← sets_just h0 h1 h2 n (k + 1)]
    refine cs_add (fun i => ?_) _
    by_cases h : pc i ≤ k
    · have : pc i ≠ k + 1 := by omega
      simp [h, this, Nat.le_succ_of_le h]
    · by_cases h' : pc i = k + 1
      · simp [h']
      · have : ¬ pc i ≤ k + 1 := by omega
        simp [h, h', this]
end
end Go.Pc
