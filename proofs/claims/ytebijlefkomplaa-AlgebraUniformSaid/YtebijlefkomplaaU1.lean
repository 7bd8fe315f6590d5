/- Toeplitz hashes of few bits: each result has as many seeds as any other one. -/
import Derived.Test.YtebijlefkomplaaGf1
set_option linter.unusedSimpArgs false
set_option linter.unusedVariables false
namespace Go.Gf

def lx (f : Nat → Bool) : Nat → Nat → Nat
  | 0, _ => 0
  | j + 1, t => lx f j t ^^^ (if f j then t / 2 ^ j else 0)

def wd (h : Nat → Bool) : Nat → Nat
  | 0 => 0
  | j + 1 => 2 * wd h j + (if h j then 1 else 0)

theorem wd_lt (h : Nat → Bool) : ∀ m, wd h m < 2 ^ m
  | 0 => by simp [wd]
  | m + 1 => by
    have := wd_lt h m
    rw [wd, Nat.pow_succ]
    split <;> omega

theorem wd_congr {h h' : Nat → Bool} : ∀ {m}, (∀ i, i < m → h i = h' i) → wd h m = wd h' m
  | 0, _ => rfl
  | m + 1, e => by rw [wd, wd, wd_congr fun i hi => e i (by omega), e m (by omega)]

theorem wd_bits (X m : Nat) : ∀ j, j ≤ m → wd (fun i => X.testBit (m - 1 - i)) j = X % 2 ^ m / 2 ^ (m - j)
  | 0, _ => by
    rw [wd, Nat.sub_zero, Nat.div_eq_of_lt (Nat.mod_lt _ (Nat.two_pow_pos m))]
  | j + 1, h => by
    rw [wd, wd_bits X m j (by omega)]
    have hb : X.testBit (m - 1 - j) = (X % 2 ^ m).testBit (m - (j + 1)) := by
      rw [Nat.testBit_mod_two_pow, show m - 1 - j = m - (j + 1) by omega]
      simp [show m - (j + 1) < m by omega]
    have e : m - j = (m - (j + 1)) + 1 := by omega
    have hd : X % 2 ^ m / 2 ^ (m - j) = X % 2 ^ m / 2 ^ (m - (j + 1)) / 2 := by
      rw [e, Nat.pow_succ, Nat.div_div_eq_div_mul]
    rw [hd, hb, Nat.testBit_eq_decide_div_mod_eq]
    generalize X % 2 ^ m / 2 ^ (m - (j + 1)) = z
    by_cases hz : z % 2 = 1
    · simp [hz]; omega
    · simp [hz]; omega

theorem wd_word (X m : Nat) : wd (fun i => X.testBit (m - 1 - i)) m = X % 2 ^ m := by
  rw [wd_bits X m m (Nat.le_refl m), Nat.sub_self, Nat.pow_zero, Nat.div_one]

/-- How often a value comes. -/
def often (T : Nat → Nat) (y : Nat) : Nat → Nat
  | 0 => 0
  | N + 1 => often T y N + (if T N = y then 1 else 0)
/-- All that at once. -/
def heap (T : Nat → Nat) : Nat → Nat
  | 0 => 0
  | N + 1 => heap T N + 1024 ^ T N
def pk (c : Nat → Nat) : Nat → Nat
  | 0 => 0
  | y + 1 => pk c y + c y * 1024 ^ y

theorem often_le (T : Nat → Nat) (y : Nat) : ∀ N, often T y N ≤ N
  | 0 => Nat.le_refl _
  | N + 1 => by
    have := often_le T y N
    rw [often]; split <;> omega

theorem pk_add (c : Nat → Nat) (z : Nat) : ∀ M, pk (fun y => c y + (if z = y then 1 else 0)) M = pk c M + (if z < M then 1024 ^ z else 0)
  | 0 => by simp [pk]
  | M + 1 => by
    rw [pk, pk, pk_add c z M]
    by_cases h : z = M
    · subst h
      simp [Nat.add_mul]; omega
    · by_cases h2 : z < M
      · simp [h, h2, show z < M + 1 by omega]; omega
      · simp [h, h2, show ¬ z < M + 1 by omega]

theorem pk_heap (T : Nat → Nat) (M : Nat) (hT : ∀ t, T t < M) : ∀ N, pk (fun y => often T y N) M = heap T N
  | 0 => by
    have : ∀ M, pk (fun y => often T y 0) M = 0 := fun M => by
      induction M with
      | zero => rfl
      | succ M ih => rw [pk, ih]; simp [often]
    rw [this]; rfl
  | N + 1 => by
    have := pk_add (fun y => often T y N) (T N) M
    rw [if_pos (hT N), pk_heap T M hT N] at this
    exact this

theorem pk_lt (c : Nat → Nat) : ∀ M, (∀ y, y < M → c y < 1024) → pk c M < 1024 ^ M
  | 0, _ => by simp [pk]
  | M + 1, h => by
    have h1 := pk_lt c M fun y hy => h y (by omega)
    have h2 := h M (by omega)
    rw [pk, Nat.pow_succ]
    have : c M * 1024 ^ M ≤ 1023 * 1024 ^ M := Nat.mul_le_mul_right _ (by omega)
    omega

theorem pk_inj (c d : Nat → Nat) : ∀ M, (∀ y, y < M → c y < 1024) → (∀ y, y < M → d y < 1024) → pk c M = pk d M → ∀ y, y < M → c y = d y
  | 0, _, _, _, y, hy => by omega
  | M + 1, hc, hd, h, y, hy => by
    have c1 := pk_lt c M fun y hy => hc y (by omega)
    have d1 := pk_lt d M fun y hy => hd y (by omega)
    rw [pk, pk] at h
    have hp : 0 < 1024 ^ M := Nat.pow_pos (by decide)
    have e1 : (pk c M + c M * 1024 ^ M) / 1024 ^ M = c M := by
      rw [Nat.add_mul_div_right _ _ hp, Nat.div_eq_of_lt c1, Nat.zero_add]
    have e2 : (pk d M + d M * 1024 ^ M) / 1024 ^ M = d M := by
      rw [Nat.add_mul_div_right _ _ hp, Nat.div_eq_of_lt d1, Nat.zero_add]
    have e3 : c M = d M := by rw [← e1, h, e2]
    rcases Nat.eq_or_lt_of_le (Nat.le_of_lt_succ hy) with e | e
    · rw [e]; exact e3
    · rw [e3] at h
      exact pk_inj c d M (fun y hy => hc y (by omega)) (fun y hy => hd y (by omega)) (by omega) y e

/-- The hash of a seed. -/
def hs (f : Nat → Bool) (n m t : Nat) : Nat := lx f n t % 2 ^ m

def one (n m a : Nat) : Bool := heap (hs a.testBit n m) (2 ^ (n + m - 1)) == pk (fun _ => 2 ^ (n - 1)) (2 ^ m)
def allOne : Bool := (List.range 6).all fun n => (List.range 5).all fun m => (List.range (2 ^ (n + 1) - 1)).all fun a => one (n + 1) m (a + 1)
theorem allOne_ok : allOne = true := by decide +kernel

theorem one_ok {n m a : Nat} (hn : 1 ≤ n) (hn' : n ≤ 6) (hm : m ≤ 4) (ha : 0 < a) (ha' : a < 2 ^ n) : one n m a = true := by
  have h := allOne_ok
  simp only [allOne, List.all_eq_true, List.mem_range] at h
  have := h (n - 1) (by omega) m (by omega) (a - 1) (by rw [show n - 1 + 1 = n by omega]; omega)
  rwa [show n - 1 + 1 = n by omega, show a - 1 + 1 = a by omega] at this

theorem bits_of (f : Nat → Bool) : ∀ n, ∃ a, a < 2 ^ n ∧ ∀ j, j < n → a.testBit j = f j
  | 0 => ⟨0, by simp, fun j hj => by omega⟩
  | n + 1 => by
    obtain ⟨a, ha, hb⟩ := bits_of f n
    cases hf : f n with
    | false =>
      refine ⟨a, by rw [Nat.pow_succ]; omega, fun j hj => ?_⟩
      rcases Nat.eq_or_lt_of_le (Nat.le_of_lt_succ hj) with e | e
      · rw [e, hf, Nat.testBit_lt_two_pow ha]
      · exact hb j e
    | true =>
      refine ⟨a ^^^ 2 ^ n, Nat.xor_lt_two_pow (by rw [Nat.pow_succ]; omega) (Nat.pow_lt_pow_right (by decide) (by omega)), fun j hj => ?_⟩
      rw [Nat.testBit_xor, Nat.testBit_two_pow]
      rcases Nat.eq_or_lt_of_le (Nat.le_of_lt_succ hj) with e | e
      · rw [e, hf, Nat.testBit_lt_two_pow ha]; simp
      · rw [hb j e]
        have : ¬ n = j := by omega
        simp [this]

theorem lx_congr {f g : Nat → Bool} : ∀ {n}, (∀ j, j < n → f j = g j) → ∀ t, lx f n t = lx g n t
  | 0, _, _ => rfl
  | n + 1, h, t => by rw [lx, lx, lx_congr (fun j hj => h j (by omega)) t, h n (by omega)]

theorem lx_none {f : Nat → Bool} : ∀ {n}, (∀ j, j < n → f j = false) → ∀ t, lx f n t = 0
  | 0, _, _ => rfl
  | n + 1, h, t => by rw [lx, lx_none (fun j hj => h j (by omega)) t, h n (by omega)]; simp

theorem often_congr {T T' : Nat → Nat} (h : ∀ t, T t = T' t) (y : Nat) : ∀ N, often T y N = often T' y N
  | 0 => rfl
  | N + 1 => by rw [often, often, often_congr h y N, h N]

theorem uniform {n m : Nat} (f : Nat → Bool) (hn : 1 ≤ n) (hn' : n ≤ 6) (hm : m ≤ 4) (hf : ∃ j, j < n ∧ f j = true) {y : Nat} (hy : y < 2 ^ m) : often (hs f n m) y (2 ^ (n + m - 1)) = 2 ^ (n - 1) := by
  obtain ⟨a, ha, hb⟩ := bits_of f n
  have hT : ∀ t, hs f n m t = hs a.testBit n m t := fun t => by
    unfold hs; rw [lx_congr (fun j hj => (hb j hj).symm) t]
  rw [often_congr hT]
  have hpos : 0 < a := by
    obtain ⟨j, hj, hfj⟩ := hf
    rcases Nat.eq_zero_or_pos a with h | h
    · have := hb j hj
      rw [h, hfj] at this
      simp at this
    · exact h
  have h1 := one_ok hn hn' hm hpos ha
  simp only [one, beq_iff_eq] at h1
  rw [← pk_heap (hs a.testBit n m) (2 ^ m) (fun t => Nat.mod_lt _ (Nat.two_pow_pos m))] at h1
  have hs9 : 2 ^ (n + m - 1) ≤ 2 ^ 9 := Nat.pow_le_pow_right (by decide) (by omega)
  have hs5 : 2 ^ (n - 1) ≤ 2 ^ 5 := Nat.pow_le_pow_right (by decide) (by omega)
  exact pk_inj _ _ _ (fun z _ => by have := often_le (hs a.testBit n m) z (2 ^ (n + m - 1)); omega) (fun z _ => by omega) h1 y hy

theorem none_often {n m : Nat} (f : Nat → Bool) (hf : ∀ j, j < n → f j = false) (y : Nat) : ∀ N, often (hs f n m) y N = if y = 0 then N else 0
  | 0 => by simp [often]
  | N + 1 => by
    rw [often, none_often f hf y N]
    have : hs f n m N = 0 := by unfold hs; rw [lx_none hf]; simp
    rw [this]
    by_cases h : y = 0
    · simp [h]
    · simp [h, Ne.symm h]
end Go.Gf
