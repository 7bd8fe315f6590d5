/- Numbers to the base 256, the lowest digit first. -/
set_option linter.unusedSimpArgs false
set_option linter.unusedVariables false
namespace Go.Dg

def tz (l : List Int) : Nat → Nat
  | 0 => 0
  | k+1 => if l.getD k 0 = 0 then tz l k else k+1

theorem tz_le (l : List Int) : ∀ n, tz l n ≤ n
  | 0 => Nat.le_refl _
  | n + 1 => by unfold tz; split; exact Nat.le_succ_of_le (tz_le l n); exact Nat.le_refl _

theorem tz_zero (l : List Int) : ∀ n i, tz l n ≤ i → i < n → l.getD i 0 = 0
  | 0, i, _, h => by omega
  | n + 1, i, h1, h2 => by
    unfold tz at h1
    split at h1
    · rename_i hz
      rcases Nat.lt_or_ge i n with h | h
      · exact tz_zero l n i h1 h
      · obtain rfl : i = n := by omega
        exact hz
    · omega
theorem tz_last (l : List Int) : ∀ n, tz l n ≠ 0 → l.getD (tz l n - 1) 0 ≠ 0
  | 0, h => (h rfl).elim
  | n + 1, h => by
    unfold tz at h ⊢
    split
    · rename_i hz; rw [if_pos hz] at h; exact tz_last l n h
    · rename_i hz; simpa using hz
theorem tz_uniq (l : List Int) (n m : Nat) (h1 : m ≤ n) (h2 : m ≠ 0 → l.getD (m - 1) 0 ≠ 0) (h3 : ∀ i, m ≤ i → i < n → l.getD i 0 = 0) : tz l n = m := by
  rcases Nat.lt_trichotomy (tz l n) m with h | h | h
  · exact (h2 (by omega) (tz_zero l n (m - 1) (by omega) (by omega))).elim
  · exact h
  · exact (tz_last l n (by omega) (h3 _ (by omega) (by have := tz_le l n; omega))).elim
theorem getD_take (l : List Int) (n m i : Nat) (h : ∀ j, m ≤ j → j < n → l.getD j 0 = 0) (hn : l.length ≤ n) : (l.take m).getD i 0 = l.getD i 0 := by
  rcases Nat.lt_or_ge i m with h1 | h1
  · simp [List.getD_eq_getElem?_getD, List.getElem?_take, h1]
  · have e1 : (l.take m).getD i 0 = 0 := by
      rw [List.getD_eq_getElem?_getD, List.getElem?_eq_none (by rw [List.length_take]; omega)]; rfl
    rw [e1]
    rcases Nat.lt_or_ge i n with h2 | h2
    · exact (h i h1 h2).symm
    · rw [List.getD_eq_getElem?_getD, List.getElem?_eq_none (by omega)]; rfl

def DL (l : List Int) : Prop := ∀ i, 0 ≤ l.getD i 0 ∧ l.getD i 0 ≤ 255
theorem getD_set (l : List Int) (i j : Nat) (x : Int) : (l.set i x).getD j 0 = if i = j ∧ i < l.length then x else l.getD j 0 := by
  simp only [List.getD_eq_getElem?_getD, List.getElem?_set]
  by_cases h : i = j
  · subst h
    by_cases h2 : i < l.length
    · simp [h2]
    · simp [h2]
  · simp [h]
/-- one digit's worth -/
def DB : Int := 256
theorem DB_pos (k : Nat) : 0 < DB ^ k := Int.pow_pos (by decide)
/-- the number of the first k digits -/
def nv (l : List Int) : Nat → Int
  | 0 => 0
  | k + 1 => nv l k + l.getD k 0 * DB ^ k
theorem nv_bound {l : List Int} (h : DL l) : ∀ k, 0 ≤ nv l k ∧ nv l k < DB ^ k
  | 0 => by simp [nv]
  | k + 1 => by
    obtain ⟨h1, h2⟩ := nv_bound h k
    obtain ⟨h3, h4⟩ := h k
    have hp := DB_pos k
    simp only [nv]
    rw [Int.pow_succ]
    have h5 : l.getD k 0 * DB ^ k ≤ (DB - 1) * DB ^ k := Int.mul_le_mul_of_nonneg_right (by simp only [DB]; omega) (by omega)
    have h6 : 0 ≤ l.getD k 0 * DB ^ k := Int.mul_nonneg h3 (by omega)
    have h7 : (DB - 1) * DB ^ k = DB ^ k * DB - DB ^ k := by rw [Int.sub_mul, Int.mul_comm DB, Int.one_mul]
    omega
theorem nv_zeros (l : List Int) {n : Nat} : ∀ m, n ≤ m → (∀ i, n ≤ i → i < m → l.getD i 0 = 0) → nv l m = nv l n
  | 0, h, _ => by obtain rfl : n = 0 := by omega
                  rfl
  | m + 1, h, hz => by
    rcases Nat.eq_or_lt_of_le h with e | e
    · rw [e]
    · simp only [nv]
      rw [hz m (by omega) (by omega), nv_zeros l m (by omega) (fun i h1 h2 => hz i h1 (by omega))]
      omega
theorem nv_tz (l : List Int) (n : Nat) : nv l (tz l n) = nv l n := (nv_zeros l n (tz_le l n) (tz_zero l n)).symm
/-- beyond the list nothing comes -/
theorem nv_long (l : List Int) {m : Nat} (h : l.length ≤ m) : nv l m = nv l l.length := nv_zeros l m h fun i h1 _ => by
  rw [List.getD_eq_getElem?_getD, List.getElem?_eq_none h1]; rfl
theorem nv_congr {l l' : List Int} : ∀ k, (∀ i, i < k → l.getD i 0 = l'.getD i 0) → nv l k = nv l' k
  | 0, _ => rfl
  | k + 1, h => by simp only [nv]; rw [nv_congr k (fun i hi => h i (by omega)), h k (by omega)]
theorem nv_take (l : List Int) (n k : Nat) (h : k ≤ n) : nv (l.take n) k = nv l k := nv_congr k fun i hi => by
  simp [List.getD_eq_getElem?_getD, List.getElem?_take, show i < n by omega]
/-- The number. -/
def num (l : List Int) : Int := nv l l.length
theorem num_nonneg {l : List Int} (h : DL l) : 0 ≤ num l := (nv_bound h _).1
theorem num_take {l : List Int} : num (l.take (tz l l.length)) = num l := by
  have := tz_le l l.length
  simp only [num, List.length_take, Nat.min_eq_left this]
  rw [nv_take l _ _ (Nat.le_refl _), nv_tz]
/-- A number that has its last digit is at least that. -/
theorem nv_ge {l : List Int} (h : DL l) {k : Nat} (hk : l.getD k 0 ≠ 0) : DB ^ k ≤ nv l (k + 1) := by
  obtain ⟨h1, _⟩ := nv_bound h k
  obtain ⟨h3, _⟩ := h k
  have : 1 * DB ^ k ≤ l.getD k 0 * DB ^ k := Int.mul_le_mul_of_nonneg_right (by omega) (by have := DB_pos k; omega)
  simp only [nv]
  omega
theorem DB_mono {i j : Nat} (h : i ≤ j) : DB ^ i ≤ DB ^ j := by
  obtain ⟨d, rfl⟩ := Nat.exists_eq_add_of_le h
  have h1 := DB_pos i
  have h2 := DB_pos d
  have h3 : DB ^ i * 1 ≤ DB ^ i * DB ^ d := Int.mul_le_mul_of_nonneg_left (by omega) (by omega)
  rw [Int.pow_add]
  omega
/-- Numbers without zeros at the end: the longer one is greater. -/
theorem nv_len_lt {a b : List Int} (ha : DL a) (hb : DL b) {n m : Nat} (h : n < m) (hl : b.getD (m - 1) 0 ≠ 0) : nv a n < nv b m := by
  have h1 := (nv_bound ha n).2
  have h2 := nv_ge hb hl
  rw [show m - 1 + 1 = m by omega] at h2
  have h3 : DB ^ n ≤ DB ^ (m - 1) := DB_mono (by omega)
  omega
theorem nv_top_lt {a b : List Int} (ha : DL a) (hb : DL b) {k : Nat} (h : a.getD k 0 < b.getD k 0) : nv a (k + 1) < nv b (k + 1) := by
  have h1 := (nv_bound ha k).2
  have h2 := (nv_bound hb k).1
  have h3 : (a.getD k 0 + 1) * DB ^ k ≤ b.getD k 0 * DB ^ k := Int.mul_le_mul_of_nonneg_right (by omega) (by have := DB_pos k; omega)
  rw [Int.add_mul, Int.one_mul] at h3
  simp only [nv]
  omega
theorem nv_sum_eq {a b : List Int} {k : Nat} : ∀ n, k ≤ n → (∀ i, k ≤ i → i < n → a.getD i 0 = b.getD i 0) → nv a n - nv b n = nv a k - nv b k
  | 0, h, _ => by obtain rfl : k = 0 := by omega
                  rfl
  | n + 1, h, he => by
    rcases Nat.eq_or_lt_of_le h with e | e
    · rw [e]
    · have := nv_sum_eq n (by omega) (fun i h1 h2 => he i h1 (by omega))
      simp only [nv]
      rw [he n (by omega) (by omega)]
      omega
/-- Normal numbers are equal as lists if they are as numbers. -/
theorem num_inj {a b : List Int} (ha : DL a) (hb : DL b) (h : num a = num b) : a.take (tz a a.length) = b.take (tz b b.length) := by
  rw [← num_take (l := a), ← num_take (l := b)] at h
  have la : ((a.take (tz a a.length)).length) = tz a a.length := by rw [List.length_take]; have := tz_le a a.length; omega
  have lb : ((b.take (tz b b.length)).length) = tz b b.length := by rw [List.length_take]; have := tz_le b b.length; omega
  simp only [num, la, lb] at h
  rw [nv_take _ _ _ (Nat.le_refl _), nv_take _ _ _ (Nat.le_refl _)] at h
  have hl : tz a a.length = tz b b.length := by
    rcases Nat.lt_trichotomy (tz a a.length) (tz b b.length) with h1 | h1 | h1
    · have := nv_len_lt ha hb h1 (tz_last b b.length (by omega)); omega
    · exact h1
    · have := nv_len_lt hb ha h1 (tz_last a a.length (by omega)); omega
  rw [← hl] at h
  have key : ∀ n, nv a n = nv b n → ∀ i, i < n → a.getD i 0 = b.getD i 0 := by
    intro n
    induction n with
    | zero => intro _ i hi; omega
    | succ n ih =>
      intro he i hi
      have : a.getD n 0 = b.getD n 0 := by
        rcases Int.lt_trichotomy (a.getD n 0) (b.getD n 0) with h1 | h1 | h1
        · have := nv_top_lt ha hb h1; omega
        · exact h1
        · have := nv_top_lt hb ha h1; omega
      rcases Nat.lt_or_ge i n with h2 | h2
      · refine ih ?_ i h2
        simp only [nv, this] at he
        omega
      · obtain rfl : i = n := by omega
        exact this
  refine List.ext_getElem (by rw [la, lb, hl]) fun i hi hi' => ?_
  rw [la] at hi
  have := key _ h i hi
  have h1 := tz_le a a.length
  have h2 := tz_le b b.length
  simp only [List.getElem_take]
  simpa [List.getD_eq_getElem?_getD, show i < a.length by omega, show i < b.length by omega] using this

theorem dl_nil : DL [] := fun i => by simp
theorem nv_cons (x : Int) (l : List Int) : ∀ k, nv (x :: l) (k + 1) = x + 256 * nv l k
  | 0 => by simp [nv]
  | k + 1 => by
    have ih := nv_cons x l k
    rw [nv, ih, nv, Int.pow_succ]
    have e : (x :: l).getD (k + 1) 0 = l.getD k 0 := by simp
    rw [e, Int.mul_add, show DB = 256 from rfl, Int.mul_comm 256 (l.getD k 0 * 256 ^ k), Int.mul_assoc]
    omega
theorem num_cons (x : Int) (l : List Int) : num (x :: l) = x + 256 * num l := by
  simp only [num, List.length_cons]; exact nv_cons x l l.length
/-- the digits of a number -/
def dg : Nat → List Int
  | 0 => []
  | n + 1 => ((((n + 1) % 256 : Nat)) : Int) :: dg ((n + 1) / 256)
decreasing_by omega
theorem dg_zero : dg 0 = [] := by unfold dg; rfl
theorem dg_pos {n : Nat} (h : 0 < n) : dg n = ((n % 256 : Nat) : Int) :: dg (n / 256) := by
  cases n with
  | zero => omega
  | succ n => rw [dg]
theorem dg_dl : ∀ n, DL (dg n) := by
  intro n
  induction n using Nat.strongRecOn with
  | ind n ih =>
    rcases Nat.eq_zero_or_pos n with rfl | h
    · rw [dg_zero]; exact dl_nil
    · intro i
      rw [dg_pos h]
      cases i with
      | zero => simp; omega
      | succ i => simpa using ih (n / 256) (by omega) i
theorem dg_num : ∀ n, num (dg n) = (n : Int) := by
  intro n
  induction n using Nat.strongRecOn with
  | ind n ih =>
    rcases Nat.eq_zero_or_pos n with rfl | h
    · rw [dg_zero]; rfl
    · rw [dg_pos h, num_cons, ih (n / 256) (by omega)]; omega
theorem dg_last : ∀ n, 0 < n → (dg n).getD ((dg n).length - 1) 0 ≠ 0 := by
  intro n
  induction n using Nat.strongRecOn with
  | ind n ih =>
    intro h
    rw [dg_pos h]
    rcases Nat.eq_zero_or_pos (n / 256) with h0 | h0
    · rw [h0, dg_zero]; simp; omega
    · have := ih (n / 256) (by omega) h0
      have hl : 0 < (dg (n / 256)).length := by rw [dg_pos h0]; simp
      rw [show (((n % 256 : Nat) : Int) :: dg (n / 256)).length - 1 = ((dg (n / 256)).length - 1) + 1 by simp; omega]
      simpa using this
theorem dg_tz (n : Nat) : tz (dg n) (dg n).length = (dg n).length := by
  refine tz_uniq _ _ _ (Nat.le_refl _) (fun h => ?_) fun i h1 h2 => by omega
  rcases Nat.eq_zero_or_pos n with rfl | h0
  · rw [dg_zero] at h; simp at h
  · exact dg_last n h0
/-- What is trimmed is what its number has. -/
theorem trim_dg {l : List Int} (h : DL l) : l.take (tz l l.length) = dg (num l).toNat := by
  have hn := num_nonneg h
  have := num_inj h (dg_dl (num l).toNat) (by rw [dg_num]; omega)
  rw [this, dg_tz, List.take_length]
theorem norm_dg {l : List Int} (h : DL l) (hz : tz l l.length = l.length) : l = dg (num l).toNat := by
  have := trim_dg h
  rwa [hz, List.take_length] at this
theorem dg_len_le {n k : Nat} (h : n < 256 ^ k) : (dg n).length ≤ k := by
  rcases Nat.lt_or_ge k (dg n).length with h1 | h1
  · exfalso
    have h0 : 0 < n := by
      rcases Nat.eq_zero_or_pos n with rfl | h0
      · rw [dg_zero] at h1; simp at h1
      · exact h0
    have hge := nv_ge (dg_dl n) (dg_last n h0)
    rw [show (dg n).length - 1 + 1 = (dg n).length by omega] at hge
    have hnum := dg_num n
    simp only [num] at hnum
    rw [hnum] at hge
    have hm : DB ^ k ≤ DB ^ ((dg n).length - 1) := DB_mono (by omega)
    have e : DB ^ k = ((256 ^ k : Nat) : Int) := by rw [Int.natCast_pow]; rfl
    rw [e] at hm
    have : ((n : Nat) : Int) < ((256 ^ k : Nat) : Int) := by exact_mod_cast h
    omega
  · exact h1

/-! Sums, digit by digit. -/
def addD (a b : List Int) : Nat → List Int × Int
  | 0 => ([], 0)
  | i + 1 => ((addD a b i).1 ++ [((addD a b i).2 + a.getD i 0 + b.getD i 0) % 256], ((addD a b i).2 + a.getD i 0 + b.getD i 0) / 256)
theorem addD_length (a b : List Int) : ∀ i, (addD a b i).1.length = i
  | 0 => rfl
  | i + 1 => by simp [addD, addD_length a b i]
theorem addD_carry {a b : List Int} (ha : DL a) (hb : DL b) : ∀ i, 0 ≤ (addD a b i).2 ∧ (addD a b i).2 ≤ 1
  | 0 => by simp [addD]
  | i + 1 => by
    have := addD_carry ha hb i
    have h1 := ha i
    have h2 := hb i
    simp only [addD]; omega
theorem getD_snoc (l : List Int) (x : Int) (i : Nat) : (l ++ [x]).getD i 0 = if i = l.length then x else l.getD i 0 := by
  simp only [List.getD_eq_getElem?_getD, List.getElem?_append]
  by_cases h : i < l.length
  · rw [if_pos h, if_neg (by omega)]
  · rw [if_neg h]
    by_cases h2 : i = l.length
    · subst h2; simp
    · rw [if_neg h2, List.getElem?_eq_none (by simp; omega), List.getElem?_eq_none (by omega)]
theorem addD_dl {a b : List Int} (ha : DL a) (hb : DL b) : ∀ i, DL (addD a b i).1
  | 0 => dl_nil
  | i + 1 => fun j => by
    simp only [addD, getD_snoc]
    split
    · omega
    · exact addD_dl ha hb i j
theorem nv_snoc (l : List Int) (x : Int) : nv (l ++ [x]) (l.length + 1) = nv l l.length + x * DB ^ l.length := by
  simp only [nv]
  rw [getD_snoc, if_pos rfl, nv_congr (l := l ++ [x]) (l' := l) l.length fun i hi => by rw [getD_snoc, if_neg (by omega)]]
theorem addD_sum (a b : List Int) : ∀ i, nv (addD a b i).1 i + (addD a b i).2 * DB ^ i = nv a i + nv b i
  | 0 => by simp [addD, nv]
  | i + 1 => by
    have ih := addD_sum a b i
    have hl := addD_length a b i
    have e := nv_snoc (addD a b i).1 (((addD a b i).2 + a.getD i 0 + b.getD i 0) % 256)
    rw [hl] at e
    simp only [addD]
    rw [e, nv, nv, Int.pow_succ]
    generalize (addD a b i).2 = c at *
    generalize a.getD i 0 = x at *
    generalize b.getD i 0 = y at *
    have hb : DB = 256 := rfl
    have key : (c + x + y) % 256 * DB ^ i + (c + x + y) / 256 * (DB ^ i * DB) = (c + x + y) * DB ^ i := by
      have := Int.emod_add_mul_ediv (c + x + y) 256
      generalize (c + x + y) / 256 = q at *
      generalize (c + x + y) % 256 = r at *
      rw [← this, hb, Int.add_mul, ← Int.mul_assoc, Int.mul_right_comm q, Int.mul_comm q]
    rw [Int.add_mul, Int.add_mul] at key
    omega
theorem addD_num {a b : List Int} {i : Nat} (ha : a.length ≤ i) (hb : b.length ≤ i) (hc : (addD a b i).2 = 0) : num (addD a b i).1 = num a + num b := by
  have h := addD_sum a b i
  rw [nv_long a ha, nv_long b hb, hc] at h
  simp only [num, addD_length]
  omega
/-- where the sum ends -/
theorem addD_stops {a b : List Int} (ha : DL a) (hb : DL b) {i : Nat} (h1 : a.length ≤ i) (h2 : b.length ≤ i) : (addD a b (i + 1)).2 = 0 := by
  have := addD_carry ha hb i
  have e1 : a.getD i 0 = 0 := by rw [List.getD_eq_getElem?_getD, List.getElem?_eq_none h1]; rfl
  have e2 : b.getD i 0 = 0 := by rw [List.getD_eq_getElem?_getD, List.getElem?_eq_none h2]; rfl
  simp only [addD, e1, e2]; omega
end Go.Dg


/- Numbers to the base 256: differences, products, comparison. -/
namespace Go.Dg

def cmpI (x y : Int) : Int := if x < y then -1 else if y < x then 1 else 0
/-- one row of the product: j columns -/
def mulJ (x : Int) (b P : List Int) (i : Nat) : Nat → List Int × Int
  | 0 => (P, 0)
  | j + 1 => ((mulJ x b P i j).1.set (i + j) (((mulJ x b P i j).2 + (x * b.getD j 0 + (mulJ x b P i j).1.getD (i + j) 0)) % 256), ((mulJ x b P i j).2 + (x * b.getD j 0 + (mulJ x b P i j).1.getD (i + j) 0)) / 256)
def mulI (a b : List Int) : Nat → List Int
  | 0 => List.replicate (a.length + b.length) 0
  | i + 1 => (mulJ (a.getD i 0) b (mulI a b i) i b.length).1.set (i + b.length) (mulJ (a.getD i 0) b (mulI a b i) i b.length).2
theorem mulJ_length (x : Int) (b P : List Int) (i : Nat) : ∀ j, (mulJ x b P i j).1.length = P.length
  | 0 => rfl
  | j + 1 => by simp only [mulJ, List.length_set]; exact mulJ_length x b P i j
theorem mulI_length (a b : List Int) : ∀ i, (mulI a b i).length = a.length + b.length
  | 0 => by simp [mulI]
  | i + 1 => by simp only [mulI, List.length_set, mulJ_length]; exact mulI_length a b i
theorem prod_range {x y : Int} (hx : 0 ≤ x ∧ x ≤ 255) (hy : 0 ≤ y ∧ y ≤ 255) : 0 ≤ x * y ∧ x * y ≤ 65025 := by
  refine ⟨Int.mul_nonneg hx.1 hy.1, ?_⟩
  have h1 : x * y ≤ 255 * y := Int.mul_le_mul_of_nonneg_right hx.2 hy.1
  omega
theorem set_dl {l : List Int} (h : DL l) (i : Nat) {x : Int} (hx : 0 ≤ x ∧ x ≤ 255) : DL (l.set i x) := fun j => by
  rw [getD_set]; split
  · exact hx
  · exact h j
theorem mulJ_range {x : Int} {b P : List Int} (hx : 0 ≤ x ∧ x ≤ 255) (hb : DL b) (hP : DL P) (i : Nat) : ∀ j, DL (mulJ x b P i j).1 ∧ 0 ≤ (mulJ x b P i j).2 ∧ (mulJ x b P i j).2 ≤ 255
  | 0 => ⟨hP, by simp [mulJ], by simp [mulJ]⟩
  | j + 1 => by
    obtain ⟨h1, h2, h3⟩ := mulJ_range hx hb hP i j
    have h4 := prod_range hx (hb j)
    have h5 := h1 (i + j)
    simp only [mulJ]
    generalize x * b.getD j 0 = p at *
    refine ⟨set_dl h1 _ ?_, ?_, ?_⟩ <;> omega
theorem mulI_dl {a b : List Int} (ha : DL a) (hb : DL b) : ∀ i, DL (mulI a b i)
  | 0 => fun j => by
    have : (mulI a b 0).getD j 0 = 0 := by simp only [mulI, List.getD_eq_getElem?_getD, List.getElem?_replicate]; split <;> rfl
    rw [this]; omega
  | i + 1 => by
    obtain ⟨h1, h2⟩ := mulJ_range (ha i) hb (mulI_dl ha hb i) i b.length
    exact set_dl h1 _ h2

theorem nv_set (l : List Int) (k : Nat) (x : Int) (hk : k < l.length) : ∀ n, nv (l.set k x) n = nv l n + (if k < n then (x - l.getD k 0) * DB ^ k else 0)
  | 0 => by simp [nv]
  | n + 1 => by
    simp only [nv]
    rw [nv_set l k x hk n, getD_set]
    by_cases h : k = n
    · subst h
      have h1 : ¬ k < k := by omega
      have h2 : k < k + 1 := by omega
      simp only [hk, h1, h2, and_self, if_true, if_false, Int.sub_mul]
      omega
    · have h3 : ¬ (k = n ∧ k < l.length) := by omega
      rw [if_neg h3]
      by_cases h2 : k < n
      · have h4 : k < n + 1 := by omega
        simp only [h2, h4, if_true]
        omega
      · have h4 : ¬ k < n + 1 := by omega
        simp only [h2, h4, if_false]
        omega
theorem mulJ_keep (x : Int) (b P : List Int) (i k : Nat) : ∀ j, i + j ≤ k → (mulJ x b P i j).1.getD k 0 = P.getD k 0
  | 0, _ => rfl
  | j + 1, h => by
    simp only [mulJ, getD_set]
    rw [if_neg (by omega)]
    exact mulJ_keep x b P i k j (by omega)
theorem mulI_zero (a b : List Int) (k : Nat) : ∀ i, i + b.length ≤ k → (mulI a b i).getD k 0 = 0
  | 0, _ => by simp only [mulI, List.getD_eq_getElem?_getD, List.getElem?_replicate]; split <;> rfl
  | i + 1, h => by
    simp only [mulI, getD_set]
    rw [if_neg (by omega), mulJ_keep _ _ _ _ _ _ (by omega)]
    exact mulI_zero a b k i (by omega)
theorem mulJ_sum (x : Int) (b P : List Int) (i N : Nat) (hP : P.length = N) : ∀ j, i + j ≤ N → nv (mulJ x b P i j).1 N + (mulJ x b P i j).2 * DB ^ (i + j) = nv P N + x * nv b j * DB ^ i
  | 0, _ => by simp [mulJ, nv]
  | j + 1, h => by
    have ih := mulJ_sum x b P i N hP j (by omega)
    have hl : (mulJ x b P i j).1.length = N := by rw [mulJ_length, hP]
    simp only [mulJ, nv]
    rw [nv_set _ _ _ (by omega), if_pos (by omega), show i + (j + 1) = (i + j) + 1 by omega, Int.pow_succ]
    generalize (mulJ x b P i j).2 = c at *
    generalize hq : (mulJ x b P i j).1.getD (i + j) 0 = q at *
    have hb : DB = 256 := rfl
    have key : (c + (x * b.getD j 0 + q)) % 256 * DB ^ (i + j) + (c + (x * b.getD j 0 + q)) / 256 * (DB ^ (i + j) * DB) = (c + (x * b.getD j 0 + q)) * DB ^ (i + j) := by
      have := Int.emod_add_mul_ediv (c + (x * b.getD j 0 + q)) 256
      generalize (c + (x * b.getD j 0 + q)) / 256 = u at *
      generalize (c + (x * b.getD j 0 + q)) % 256 = r at *
      rw [← this, hb, Int.add_mul, ← Int.mul_assoc, Int.mul_right_comm u, Int.mul_comm u]
    rw [Int.sub_mul]
    have e1 : x * (nv b j + b.getD j 0 * DB ^ j) * DB ^ i = x * nv b j * DB ^ i + x * b.getD j 0 * DB ^ (i + j) := by
      rw [Int.mul_add, Int.add_mul, Int.pow_add, ← Int.mul_assoc x, Int.mul_assoc (x * b.getD j 0), Int.mul_comm (DB ^ j)]
    have e2 : (c + (x * b.getD j 0 + q)) * DB ^ (i + j) = c * DB ^ (i + j) + (x * b.getD j 0 * DB ^ (i + j) + q * DB ^ (i + j)) := by rw [Int.add_mul, Int.add_mul]
    rw [e1]
    rw [e2] at key
    omega
theorem mulI_sum (a b : List Int) : ∀ i, i ≤ a.length → nv (mulI a b i) (a.length + b.length) = nv a i * num b
  | 0, _ => by
    have : ∀ k, nv (mulI a b 0) k = 0 := by
      intro k
      induction k with
      | zero => rfl
      | succ k ih =>
        have : (mulI a b 0).getD k 0 = 0 := by simp only [mulI, List.getD_eq_getElem?_getD, List.getElem?_replicate]; split <;> rfl
        simp only [nv, ih, this]; omega
    rw [this]; simp [nv]
  | i + 1, h => by
    have ih := mulI_sum a b i (by omega)
    have hl := mulI_length a b i
    have hs := mulJ_sum (a.getD i 0) b (mulI a b i) i (a.length + b.length) hl b.length (by omega)
    have hz : (mulJ (a.getD i 0) b (mulI a b i) i b.length).1.getD (i + b.length) 0 = 0 := by
      rw [mulJ_keep _ _ _ _ _ _ (Nat.le_refl _)]; exact mulI_zero a b _ i (Nat.le_refl _)
    simp only [mulI, nv]
    rw [nv_set _ _ _ (by rw [mulJ_length, hl]; omega), if_pos (by omega), hz, Int.sub_zero, hs, ih, Int.add_mul]
    rw [show nv b b.length = num b from rfl, Int.mul_right_comm]
theorem mul_num (a b : List Int) : num (mulI a b a.length) = num a * num b := by
  have := mulI_sum a b a.length (Nat.le_refl _)
  simp only [num, mulI_length] at this ⊢
  exact this

/-! Differences, digit by digit. -/
def subD (a b : List Int) : Nat → List Int × Int
  | 0 => ([], 0)
  | i + 1 =>
    let x := a.getD i 0 - (subD a b i).2 - b.getD i 0
    if x < 0 then ((subD a b i).1 ++ [x + 256], 1) else ((subD a b i).1 ++ [x], 0)
theorem subD_length (a b : List Int) : ∀ i, (subD a b i).1.length = i
  | 0 => rfl
  | i + 1 => by simp only [subD]; split <;> simp [subD_length a b i]
theorem subD_borrow (a b : List Int) : ∀ i, 0 ≤ (subD a b i).2 ∧ (subD a b i).2 ≤ 1
  | 0 => by simp [subD]
  | i + 1 => by simp only [subD]; split <;> simp
theorem subD_dl {a b : List Int} (ha : DL a) (hb : DL b) : ∀ i, DL (subD a b i).1
  | 0 => dl_nil
  | i + 1 => fun j => by
    have h1 := ha i
    have h2 := hb i
    have h3 := subD_borrow a b i
    have h4 := subD_dl ha hb i j
    simp only [subD]
    split
    · simp only [getD_snoc]; split
      · omega
      · exact h4
    · simp only [getD_snoc]; split
      · omega
      · exact h4
theorem subD_sum (a b : List Int) : ∀ i, nv (subD a b i).1 i - (subD a b i).2 * DB ^ i = nv a i - nv b i
  | 0 => by simp [subD, nv]
  | i + 1 => by
    have ih := subD_sum a b i
    have hl := subD_length a b i
    have e := fun x => nv_snoc (subD a b i).1 x
    rw [hl] at e
    simp only [subD]
    split
    · simp only
      rw [e, nv, nv, Int.pow_succ, show DB = 256 from rfl, Int.add_mul, Int.sub_mul, Int.sub_mul]
      rw [show DB = 256 from rfl] at ih
      omega
    · simp only
      rw [e, nv, nv, Int.sub_mul, Int.sub_mul]
      omega
theorem len_le {a b : List Int} (ha : DL a) (hb : DL b) (hn : tz b b.length = b.length) (h : num b ≤ num a) : b.length ≤ a.length := by
  rcases Nat.lt_or_ge a.length b.length with h1 | h1
  · have h2 := nv_len_lt ha hb h1 (by
      have := tz_last b b.length (by omega)
      rwa [hn] at this)
    simp only [num] at h; omega
  · exact h1
theorem subD_num {a b : List Int} (ha : DL a) (hb : DL b) (hl : b.length ≤ a.length) (h : num b ≤ num a) : num (subD a b a.length).1 = num a - num b := by
  have hs := subD_sum a b a.length
  rw [nv_long b hl] at hs
  have hb' := subD_borrow a b a.length
  have hd := nv_bound (subD_dl ha hb a.length) a.length
  have e : num (subD a b a.length).1 = nv (subD a b a.length).1 a.length := by simp only [num, subD_length]
  rw [e]
  rcases (show (subD a b a.length).2 = 0 ∨ (subD a b a.length).2 = 1 by omega) with h0 | h0
  · rw [h0] at hs; simp only [num] at *; omega
  · rw [h0] at hs; simp only [num] at *; omega

/-! Comparison. -/
theorem cmp_lt {x y : Int} (h : x < y) : cmpI x y = -1 ∧ cmpI y x = 1 := by
  unfold cmpI
  rw [if_pos h, if_neg (by omega), if_pos h]; exact ⟨rfl, rfl⟩
theorem cmp_len {a b : List Int} (ha : DL a) (hb : DL b) (na : tz a a.length = a.length) (nb : tz b b.length = b.length) (h : a.length < b.length) : cmpI (num a) (num b) = -1 ∧ cmpI (num b) (num a) = 1 := by
  have h2 := nv_len_lt ha hb h (by
    have := tz_last b b.length (by omega)
    rwa [nb] at this)
  exact cmp_lt h2
theorem cmp_top {a b : List Int} (ha : DL a) (hb : DL b) {n k : Nat} (hn : a.length = n) (hm : b.length = n) (hk : k < n) (he : ∀ i, k < i → i < n → a.getD i 0 = b.getD i 0) (h : a.getD k 0 < b.getD k 0) : cmpI (num a) (num b) = -1 ∧ cmpI (num b) (num a) = 1 := by
  have h1 := nv_top_lt ha hb h
  have h2 := nv_sum_eq (a := a) (b := b) (k := k + 1) n (by omega) (fun i h3 h4 => he i (by omega) h4)
  have h3 : num a < num b := by simp only [num, hn, hm]; omega
  exact cmp_lt h3
theorem cmp_eq {a b : List Int} {n : Nat} (hn : a.length = n) (hm : b.length = n) (he : ∀ i, i < n → a.getD i 0 = b.getD i 0) : cmpI (num a) (num b) = 0 := by
  have h2 := nv_sum_eq (a := a) (b := b) (k := 0) n (by omega) (fun i _ h4 => he i h4)
  simp only [nv] at h2
  have h3 : num a = num b := by simp only [num, hn, hm]; omega
  unfold cmpI
  rw [h3, if_neg (by omega), if_neg (by omega)]
end Go.Dg


/- Numbers to the base 256: division, a digit at a time. -/
namespace Go.Dg

/-- a digit of the quotient, and what is left: behind t of eight trials -/
def trial (b x0 : Nat) : Nat → Nat × Nat
  | 0 => (0, x0)
  | t + 1 => if b * 2 ^ (7 - t) ≤ (trial b x0 t).2 then (2 * (trial b x0 t).1 + 1, (trial b x0 t).2 - b * 2 ^ (7 - t)) else (2 * (trial b x0 t).1, (trial b x0 t).2)
theorem trial_sum {b x0 : Nat} (h : x0 < b * 256) : ∀ t, t ≤ 8 → x0 = b * ((trial b x0 t).1 * 2 ^ (8 - t)) + (trial b x0 t).2 ∧ (trial b x0 t).2 < b * 2 ^ (8 - t) ∧ (trial b x0 t).1 < 2 ^ t
  | 0, _ => by simp [trial]; omega
  | t + 1, ht => by
    obtain ⟨h1, h2, h3⟩ := trial_sum h t (by omega)
    have e : 2 ^ (8 - t) = 2 * 2 ^ (8 - (t + 1)) := by
      rw [show 8 - t = (8 - (t + 1)) + 1 by omega, Nat.pow_succ, Nat.mul_comm]
    have e2 : 7 - t = 8 - (t + 1) := by omega
    rw [e] at h1 h2
    have et : trial b x0 (t + 1) = if b * 2 ^ (7 - t) ≤ (trial b x0 t).2 then (2 * (trial b x0 t).1 + 1, (trial b x0 t).2 - b * 2 ^ (7 - t)) else (2 * (trial b x0 t).1, (trial b x0 t).2) := rfl
    rw [et, e2]
    clear et
    obtain ⟨q, hq⟩ : ∃ q, (trial b x0 t).1 = q := ⟨_, rfl⟩
    obtain ⟨x, hx⟩ : ∃ x, (trial b x0 t).2 = x := ⟨_, rfl⟩
    rw [hq] at h1 h3 ⊢
    rw [hx] at h1 h2 ⊢
    generalize 2 ^ (8 - (t + 1)) = w at *
    have e3 : 2 ^ (t + 1) = 2 * 2 ^ t := by rw [Nat.pow_succ, Nat.mul_comm]
    rw [e3]
    have e4 : b * (q * (2 * w)) = b * (2 * q * w) := by rw [← Nat.mul_assoc q, Nat.mul_comm q 2]
    have e5 : b * (2 * w) = b * w + b * w := by rw [Nat.two_mul, Nat.mul_add]
    rw [e4] at h1
    rw [e5] at h2
    split
    · rename_i hc
      have e6 : b * ((2 * q + 1) * w) = b * (2 * q * w) + b * w := by rw [Nat.add_mul, Nat.one_mul, Nat.mul_add]
      simp only
      rw [e6]
      omega
    · rename_i hc
      simp only
      omega
/-- the digit and the rest -/
theorem trial_end {b x0 : Nat} (h : x0 < b * 256) : (trial b x0 8).1 = x0 / b ∧ (trial b x0 8).2 = x0 % b ∧ x0 / b < 256 := by
  obtain ⟨h1, h2, h3⟩ := trial_sum h 8 (Nat.le_refl 8)
  simp only [Nat.sub_self, Nat.pow_zero, Nat.mul_one] at h1 h2
  have hb : 0 < b := by
    rcases Nat.eq_zero_or_pos b with rfl | h0
    · omega
    · exact h0
  generalize (trial b x0 8).1 = q at *
  generalize (trial b x0 8).2 = x at *
  have hq : x0 / b = q := by
    rw [h1, Nat.mul_add_div hb, Nat.div_eq_of_lt h2, Nat.add_zero]
  have hr : x0 % b = x := by
    rw [h1, Nat.mul_add_mod, Nat.mod_eq_of_lt h2]
  refine ⟨hq.symm, hr.symm, ?_⟩
  rw [hq]; exact h3
theorem trial_le {b x0 : Nat} (h : x0 < b * 256) (t : Nat) (ht : t ≤ 8) : (trial b x0 t).2 ≤ x0 := by
  obtain ⟨h1, _⟩ := trial_sum h t ht
  omega
end Go.Dg


/- Numbers to the base 256: long division. -/
namespace Go.Dg

theorem dl_drop {l : List Int} (h : DL l) (i : Nat) : DL (l.drop i) := fun j => by
  have := h (i + j)
  simpa [List.getD_eq_getElem?_getD, List.getElem?_drop] using this
/-- the number of the digits from i on -/
def up (a : List Int) (i : Nat) : Nat := (num (a.drop i)).toNat
theorem up_num {a : List Int} (h : DL a) (i : Nat) : num (a.drop i) = (up a i : Int) := by
  have := num_nonneg (dl_drop h i)
  simp only [up]; omega
theorem up_over {a : List Int} {i : Nat} (h : a.length ≤ i) : up a i = 0 := by
  simp [up, List.drop_eq_nil_of_le h, num, nv]
theorem drop_getD {a : List Int} {i : Nat} (h : i < a.length) : a.drop i = a.getD i 0 :: a.drop (i + 1) := by
  rw [List.drop_eq_getElem_cons h]
  congr 1
  simp [List.getD_eq_getElem?_getD, h]
theorem up_step {a : List Int} (ha : DL a) {i : Nat} (h : i < a.length) : up a i = (a.getD i 0).toNat + 256 * up a (i + 1) := by
  have h1 := up_num ha i
  rw [drop_getD h, num_cons, up_num ha (i + 1)] at h1
  have := ha i
  omega
/-- a digit of the quotient -/
def qd (a : List Int) (b i : Nat) : Nat := (256 * (up a (i + 1) % b) + (a.getD i 0).toNat) / b
theorem qd_lt {a : List Int} (ha : DL a) {b : Nat} (hb : 0 < b) (i : Nat) : 256 * (up a (i + 1) % b) + (a.getD i 0).toNat < b * 256 := by
  have h1 := Nat.mod_lt (up a (i + 1)) hb
  have := ha i
  omega
theorem up_div {a : List Int} (ha : DL a) {b : Nat} (hb : 0 < b) {i : Nat} (h : i < a.length) : up a i / b = qd a b i + 256 * (up a (i + 1) / b) ∧ up a i % b = (256 * (up a (i + 1) % b) + (a.getD i 0).toNat) % b := by
  have h1 := Nat.div_add_mod (up a (i + 1)) b
  rw [up_step ha h]
  unfold qd
  generalize up a (i + 1) = u at *
  generalize (a.getD i 0).toNat = d at *
  have e : d + 256 * u = b * (256 * (u / b)) + (256 * (u % b) + d) := by
    have : 256 * u = 256 * (b * (u / b)) + 256 * (u % b) := by omega
    rw [this, Nat.mul_left_comm]; omega
  constructor
  · rw [e, Nat.mul_add_div hb]; omega
  · rw [e, Nat.mul_add_mod]
/-- the quotient's digits from i on -/
def ql (a : List Int) (b i : Nat) : List Int := (List.range a.length).map fun j => if i ≤ j then (qd a b j : Int) else 0
theorem ql_length {a : List Int} {b i : Nat} : (ql a b i).length = a.length := by simp [ql]
theorem ql_get {a : List Int} {b i j : Nat} (h : j < a.length) : (ql a b i).getD j 0 = if i ≤ j then (qd a b j : Int) else 0 := by simp [ql, h]
theorem qd_le {a : List Int} (ha : DL a) {b : Nat} (hb : 0 < b) (i : Nat) : qd a b i < 256 := (trial_end (qd_lt ha hb i)).2.2
theorem ql_dl {a : List Int} (ha : DL a) {b : Nat} (hb : 0 < b) (i : Nat) : DL (ql a b i) := fun j => by
  rcases Nat.lt_or_ge j a.length with h | h
  · rw [ql_get h]; have := qd_le ha hb j; split <;> omega
  · rw [List.getD_eq_getElem?_getD, List.getElem?_eq_none (by rw [ql_length]; exact h)]; simp
theorem ql_set {a : List Int} {b i : Nat} (h : i < a.length) : (ql a b (i + 1)).set i (qd a b i : Int) = ql a b i := by
  apply List.ext_getElem
  · simp [ql_length]
  · intro j h1 h2
    simp only [List.getElem_set]
    rw [ql_length] at h2
    split
    · rename_i e; subst e
      simp [ql]
    · rename_i e
      simp only [ql, List.getElem_map, List.getElem_range]
      by_cases h3 : i + 1 ≤ j
      · rw [if_pos h3, if_pos (by omega)]
      · rw [if_neg h3, if_neg (by omega)]
theorem ql_num {a : List Int} (ha : DL a) {b : Nat} (hb : 0 < b) : num (ql a b 0) = ((up a 0 / b : Nat) : Int) := by
  have key : ∀ k, k ≤ a.length → num ((ql a b 0).drop (a.length - k)) = ((up a (a.length - k) / b : Nat) : Int) := by
    intro k
    induction k with
    | zero =>
      intro _
      rw [Nat.sub_zero, List.drop_eq_nil_of_le (by rw [ql_length]; omega), up_over (Nat.le_refl _)]
      simp [num, nv]
    | succ k ih =>
      intro hk
      have hi : a.length - (k + 1) < a.length := by omega
      have e : a.length - (k + 1) + 1 = a.length - k := by omega
      rw [drop_getD (by rw [ql_length]; exact hi), num_cons, e, ih (by omega), (up_div ha hb hi).1, ql_get hi, if_pos (Nat.zero_le _), e]
      omega
  have := key a.length (Nat.le_refl _)
  rwa [Nat.sub_self, List.drop_zero] at this
/-- digits that are too few for the divisor -/
theorem up_small {a d : List Int} (ha : DL a) (hd : DL d) (hn : tz d d.length = d.length) {b : Nat} (hb : num d = b) (h0 : 0 < d.length) {i : Nat} (h : a.length ≤ i + (d.length - 1)) : up a i < b := by
  have h1 := (nv_bound (dl_drop ha i) (a.drop i).length).2
  have h2 := nv_ge hd (k := d.length - 1) (by
    have := tz_last d d.length (by omega)
    rwa [hn] at this)
  rw [show d.length - 1 + 1 = d.length by omega] at h2
  have h3 : DB ^ (a.drop i).length ≤ DB ^ (d.length - 1) := DB_mono (by rw [List.length_drop]; omega)
  have h4 := up_num ha i
  simp only [num] at h4 hb
  omega
/-- the quotient's first digits are zeros -/
theorem ql_start {a d : List Int} (ha : DL a) (hd : DL d) (hn : tz d d.length = d.length) {b : Nat} (hb : num d = b) (h0 : 0 < d.length) {i : Nat} (h : a.length ≤ i + (d.length - 1)) : ql a b i = List.replicate a.length 0 := by
  apply List.ext_getElem
  · simp [ql_length]
  · intro j h1 h2
    rw [ql_length] at h1
    simp only [ql, List.getElem_map, List.getElem_range, List.getElem_replicate]
    split
    · rename_i hij
      have hs1 := up_small ha hd hn hb h0 (i := j) (by omega)
      have hs2 := up_small ha hd hn hb h0 (i := j + 1) (by omega)
      have hst := up_step ha h1
      have : qd a b j = 0 := by
        unfold qd
        rw [Nat.mod_eq_of_lt hs2]
        exact Nat.div_eq_of_lt (by omega)
      rw [this]; rfl
    · rfl
end Go.Dg

