/- Numbers to the base 256: differences, products, comparison. -/
import Derived.Test.YthbhljolpnbdlaaPJ
set_option linter.unusedSimpArgs false
set_option linter.unusedVariables false
namespace Go.Dg

def cmpI (x y : Int) : Int := if x < y then -1 else if y < x then 1 else 0
/-- one row of the product: j columns -/
def mulJ (x : Int) (b P : List Int) (i : Nat) : Nat → List Int × Int
  | 0 => (P, 0)
  | j + 1 => ((mulJ x b P i j).1.set (i + j) (((mulJ x b P i j).2 + (x * b.getD j 0 + (mulJ x b P i j).1.getD (i + j) 0)) % 256), ((mulJ x b P i j).2 + (x * b.getD j 0 + (mulJ x b P i j).1.getD (i + j) 0)) / 256)
def mulI (a b : List Int) : Nat → List Int
  | 0 => List.replicate (a.length + b.length) 0
  | i + 1 => (mulJ (a.getD i 0) b (mulI a b i) i b.length).1.set (i + b.length) (mulJ (a.getD i 0) b (mulI a b i) i b.length).2
theorem mulJ_length (x : Int) (b P : List Int) (i : Nat) : ∀ j, (mulJ x b P i j).1.length = P.length
  | 0 => rfl
  | j + 1 => by simp only [mulJ, List.length_set]; exact mulJ_length x b P i j
theorem mulI_length (a b : List Int) : ∀ i, (mulI a b i).length = a.length + b.length
  | 0 => by simp [mulI]
  | i + 1 => by simp only [mulI, List.length_set, mulJ_length]; exact mulI_length a b i
theorem prod_range {x y : Int} (hx : 0 ≤ x ∧ x ≤ 255) (hy : 0 ≤ y ∧ y ≤ 255) : 0 ≤ x * y ∧ x * y ≤ 65025 := by
  refine ⟨Int.mul_nonneg hx.1 hy.1, ?_⟩
  have h1 : x * y ≤ 255 * y := Int.mul_le_mul_of_nonneg_right hx.2 hy.1
  omega
theorem set_dl {l : List Int} (h : DL l) (i : Nat) {x : Int} (hx : 0 ≤ x ∧ x ≤ 255) : DL (l.set i x) := fun j => by
  rw [getD_set]; split
  · exact hx
  · exact h j
theorem mulJ_range {x : Int} {b P : List Int} (hx : 0 ≤ x ∧ x ≤ 255) (hb : DL b) (hP : DL P) (i : Nat) : ∀ j, DL (mulJ x b P i j).1 ∧ 0 ≤ (mulJ x b P i j).2 ∧ (mulJ x b P i j).2 ≤ 255
  | 0 => ⟨hP, by simp [mulJ], by simp [mulJ]⟩
  | j + 1 => by
    obtain ⟨h1, h2, h3⟩ := mulJ_range hx hb hP i j
    have h4 := prod_range hx (hb j)
    have h5 := h1 (i + j)
    simp only [mulJ]
    generalize x * b.getD j 0 = p at *
    refine ⟨set_dl h1 _ ?_, ?_, ?_⟩ <;> omega
theorem mulI_dl {a b : List Int} (ha : DL a) (hb : DL b) : ∀ i, DL (mulI a b i)
  | 0 => fun j => by
    have : (mulI a b 0).getD j 0 = 0 := by simp only [mulI, List.getD_eq_getElem?_getD, List.getElem?_replicate]; split <;> rfl
    rw [this]; omega
  | i + 1 => by
    obtain ⟨h1, h2⟩ := mulJ_range (ha i) hb (mulI_dl ha hb i) i b.length
    exact set_dl h1 _ h2

theorem nv_set (l : List Int) (k : Nat) (x : Int) (hk : k < l.length) : ∀ n, nv (l.set k x) n = nv l n + (if k < n then (x - l.getD k 0) * DB ^ k else 0)
  | 0 => by simp [nv]
  | n + 1 => by
    simp only [nv]
    rw [nv_set l k x hk n, getD_set]
    by_cases h : k = n
    · subst h
      have h1 : ¬ k < k := by omega
      have h2 : k < k + 1 := by omega
      simp only [hk, h1, h2, and_self, if_true, if_false, Int.sub_mul]
      omega
    · have h3 : ¬ (k = n ∧ k < l.length) := by omega
      rw [if_neg h3]
      by_cases h2 : k < n
      · have h4 : k < n + 1 := by omega
        simp only [h2, h4, if_true]
        omega
      · have h4 : ¬ k < n + 1 := by omega
        simp only [h2, h4, if_false]
        omega
theorem mulJ_keep (x : Int) (b P : List Int) (i k : Nat) : ∀ j, i + j ≤ k → (mulJ x b P i j).1.getD k 0 = P.getD k 0
  | 0, _ => rfl
  | j + 1, h => by
    simp only [mulJ, getD_set]
    rw [if_neg (by omega)]
    exact mulJ_keep x b P i k j (by omega)
theorem mulI_zero (a b : List Int) (k : Nat) : ∀ i, i + b.length ≤ k → (mulI a b i).getD k 0 = 0
  | 0, _ => by simp only [mulI, List.getD_eq_getElem?_getD, List.getElem?_replicate]; split <;> rfl
  | i + 1, h => by
    simp only [mulI, getD_set]
    rw [if_neg (by omega), mulJ_keep _ _ _ _ _ _ (by omega)]
    exact mulI_zero a b k i (by omega)
theorem mulJ_sum (x : Int) (b P : List Int) (i N : Nat) (hP : P.length = N) : ∀ j, i + j ≤ N → nv (mulJ x b P i j).1 N + (mulJ x b P i j).2 * DB ^ (i + j) = nv P N + x * nv b j * DB ^ i
  | 0, _ => by simp [mulJ, nv]
  | j + 1, h => by
    have ih := mulJ_sum x b P i N hP j (by omega)
    have hl : (mulJ x b P i j).1.length = N := by rw [mulJ_length, hP]
    simp only [mulJ, nv]
    rw [nv_set _ _ _ (by omega), if_pos (by omega), show i + (j + 1) = (i + j) + 1 by omega, Int.pow_succ]
    generalize (mulJ x b P i j).2 = c at *
    generalize hq : (mulJ x b P i j).1.getD (i + j) 0 = q at *
    have hb : DB = 256 := rfl
    have key : (c + (x * b.getD j 0 + q)) % 256 * DB ^ (i + j) + (c + (x * b.getD j 0 + q)) / 256 * (DB ^ (i + j) * DB) = (c + (x * b.getD j 0 + q)) * DB ^ (i + j) := by
      have := Int.emod_add_mul_ediv (c + (x * b.getD j 0 + q)) 256
      generalize (c + (x * b.getD j 0 + q)) / 256 = u at *
      generalize (c + (x * b.getD j 0 + q)) % 256 = r at *
      rw [← this, hb, Int.add_mul, ← Int.mul_assoc, Int.mul_right_comm u, Int.mul_comm u]
    rw [Int.sub_mul]
    have e1 : x * (nv b j + b.getD j 0 * DB ^ j) * DB ^ i = x * nv b j * DB ^ i + x * b.getD j 0 * DB ^ (i + j) := by
      rw [Int.mul_add, Int.add_mul, Int.pow_add, ← Int.mul_assoc x, Int.mul_assoc (x * b.getD j 0), Int.mul_comm (DB ^ j)]
    have e2 : (c + (x * b.getD j 0 + q)) * DB ^ (i + j) = c * DB ^ (i + j) + (x * b.getD j 0 * DB ^ (i + j) + q * DB ^ (i + j)) := by rw [Int.add_mul, Int.add_mul]
    rw [e1]
    rw [e2] at key
    omega
theorem mulI_sum (a b : List Int) : ∀ i, i ≤ a.length → nv (mulI a b i) (a.length + b.length) = nv a i * num b
  | 0, _ => by
    have : ∀ k, nv (mulI a b 0) k = 0 := by
      intro k
      induction k with
      | zero => rfl
      | succ k ih =>
        have : (mulI a b 0).getD k 0 = 0 := by simp only [mulI, List.getD_eq_getElem?_getD, List.getElem?_replicate]; split <;> rfl
        simp only [nv, ih, this]; omega
    rw [this]; simp [nv]
  | i + 1, h => by
    have ih := mulI_sum a b i (by omega)
    have hl := mulI_length a b i
    have hs := mulJ_sum (a.getD i 0) b (mulI a b i) i (a.length + b.length) hl b.length (by omega)
    have hz : (mulJ (a.getD i 0) b (mulI a b i) i b.length).1.getD (i + b.length) 0 = 0 := by
      rw [mulJ_keep _ _ _ _ _ _ (Nat.le_refl _)]; exact mulI_zero a b _ i (Nat.le_refl _)
    simp only [mulI, nv]
    rw [nv_set _ _ _ (by rw [mulJ_length, hl]; omega), if_pos (by omega), hz, Int.sub_zero, hs, ih, Int.add_mul]
    rw [show nv b b.length = num b from rfl, Int.mul_right_comm]
theorem mul_num (a b : List Int) : num (mulI a b a.length) = num a * num b := by
  have := mulI_sum a b a.length (Nat.le_refl _)
  simp only [num, mulI_length] at this ⊢
  exact this

/-! Differences, digit by digit. -/
def subD (a b : List Int) : Nat → List Int × Int
  | 0 => ([], 0)
  | i + 1 =>
    let x := a.getD i 0 - (subD a b i).2 - b.getD i 0
    if x < 0 then ((subD a b i).1 ++ [x + 256], 1) else ((subD a b i).1 ++ [x], 0)
theorem subD_length (a b : List Int) : ∀ i, (subD a b i).1.length = i
  | 0 => rfl
  | i + 1 => by simp only [subD]; split <;> simp [subD_length a b i]
theorem subD_borrow (a b : List Int) : ∀ i, 0 ≤ (subD a b i).2 ∧ (subD a b i).2 ≤ 1
  | 0 => by simp [subD]
  | i + 1 => by simp only [subD]; split <;> simp
theorem subD_dl {a b : List Int} (ha : DL a) (hb : DL b) : ∀ i, DL (subD a b i).1
  | 0 => dl_nil
  | i + 1 => fun j => by
    have h1 := ha i
    have h2 := hb i
    have h3 := subD_borrow a b i
    have h4 := subD_dl ha hb i j
    simp only [subD]
    split
    · simp only [getD_snoc]; split
      · omega
      · exact h4
    · simp only [getD_snoc]; split
      · omega
      · exact h4
theorem subD_sum (a b : List Int) : ∀ i, nv (subD a b i).1 i - (subD a b i).2 * DB ^ i = nv a i - nv b i
  | 0 => by simp [subD, nv]
  | i + 1 => by
    have ih := subD_sum a b i
    have hl := subD_length a b i
    have e := fun x => nv_snoc (subD a b i).1 x
    rw [hl] at e
    simp only [subD]
    split
    · simp only
      rw [e, nv, nv, Int.pow_succ, show DB = 256 from rfl, Int.add_mul, Int.sub_mul, Int.sub_mul]
      rw [show DB = 256 from rfl] at ih
      omega
    · simp only
      rw [e, nv, nv, Int.sub_mul, Int.sub_mul]
      omega
theorem len_le {a b : List Int} (ha : DL a) (hb : DL b) (hn : tz b b.length = b.length) (h : num b ≤ num a) : b.length ≤ a.length := by
  rcases Nat.lt_or_ge a.length b.length with h1 | h1
  · have h2 := nv_len_lt ha hb h1 (by
      have := tz_last b b.length (by omega)
      rwa [hn] at this)
    simp only [num] at h; omega
  · exact h1
theorem subD_num {a b : List Int} (ha : DL a) (hb : DL b) (hl : b.length ≤ a.length) (h : num b ≤ num a) : num (subD a b a.length).1 = num a - num b := by
  have hs := subD_sum a b a.length
  rw [nv_long b hl] at hs
  have hb' := subD_borrow a b a.length
  have hd := nv_bound (subD_dl ha hb a.length) a.length
  have e : num (subD a b a.length).1 = nv (subD a b a.length).1 a.length := by simp only [num, subD_length]
  rw [e]
  rcases (show (subD a b a.length).2 = 0 ∨ (subD a b a.length).2 = 1 by omega) with h0 | h0
  · rw [h0] at hs; simp only [num] at *; omega
  · rw [h0] at hs; simp only [num] at *; omega

/-! Comparison. -/
theorem cmp_lt {x y : Int} (h : x < y) : cmpI x y = -1 ∧ cmpI y x = 1 := by
  unfold cmpI
  rw [if_pos h, if_neg (by omega), if_pos h]; exact ⟨rfl, rfl⟩
theorem cmp_len {a b : List Int} (ha : DL a) (hb : DL b) (na : tz a a.length = a.length) (nb : tz b b.length = b.length) (h : a.length < b.length) : cmpI (num a) (num b) = -1 ∧ cmpI (num b) (num a) = 1 := by
  have h2 := nv_len_lt ha hb h (by
    have := tz_last b b.length (by omega)
    rwa [nb] at this)
  exact cmp_lt h2
theorem cmp_top {a b : List Int} (ha : DL a) (hb : DL b) {n k : Nat} (hn : a.length = n) (hm : b.length = n) (hk : k < n) (he : ∀ i, k < i → i < n → a.getD i 0 = b.getD i 0) (h : a.getD k 0 < b.getD k 0) : cmpI (num a) (num b) = -1 ∧ cmpI (num b) (num a) = 1 := by
  have h1 := nv_top_lt ha hb h
  have h2 := nv_sum_eq (a := a) (b := b) (k := k + 1) n (by omega) (fun i h3 h4 => he i (by omega) h4)
  have h3 : num a < num b := by simp only [num, hn, hm]; omega
  exact cmp_lt h3
theorem cmp_eq {a b : List Int} {n : Nat} (hn : a.length = n) (hm : b.length = n) (he : ∀ i, i < n → a.getD i 0 = b.getD i 0) : cmpI (num a) (num b) = 0 := by
  have h2 := nv_sum_eq (a := a) (b := b) (k := 0) n (by omega) (fun i _ h4 => he i h4)
  simp only [nv] at h2
  have h3 : num a = num b := by simp only [num, hn, hm]; omega
  unfold cmpI
  rw [h3, if_neg (by omega), if_neg (by omega)]
end Go.Dg


