/- Contracts: isZero, own, sign, Add32. -/
import Derived.Test.YtjmceapnhmeflaaDoorV7
import Derived.Test.YtjmceapnhmeflaaDoorCF
import Derived.Test.YtjmceapnhmeflaaDoorIrA
set_option linter.unusedSimpArgs false
set_option linter.unusedVariables false
namespace Go.Proofs.YtjmceapnhmeflaaDoor
open Go Go.Vh

theorem take_all {k : IntKind} {l : List Int} : (ints k l).take l.length = ints k l := by rw [← ints_length (k := k) (l := l), List.take_length]

theorem isZero_calls (κ : SK) (l : List Int) (hk : okS κ l.length) (hm : l.length < 9223372036854775807) : ACalls Tryd.prog 73 [mkS κ 0 0 l.length] [ro (ints .u32 l)] [0] fun v H => v = .bool (decide (tz l l.length = 0)) ∧ H = [ro (ints .u32 l)] := by
  refine ACalls.body Tryd.func73 ent_isZero ir_isZero_ok rs_isZero_ok Tryd.ntmps73 (by simp) rfl ?_
  unfold ir_isZero
  have e0 : s0 [mkS κ 0 0 l.length] 0 = mkS κ 0 0 l.length := rfl
  have ht := tz_le l l.length
  simp (disch := omega) only [sS, ↓reduceIte, Nat.reduceEqDiff, Nat.reduceAdd, Nat.reduceMul, Nat.reduceSub, reduceCtorEq, e_none, e_some, e_bindS, e0]
  refine call_rdS (r := 0) (row := ⟨false, false, ints .u32 l⟩) (xtrim_calls κ l hk hm) rfl rfl take_all rfl ?_
  by_cases h : tz l l.length = 0
  · simp (disch := omega) only [sS, ↓reduceIte, Nat.reduceEqDiff, Nat.reduceAdd, Nat.reduceMul, Nat.reduceSub, reduceCtorEq, e_none, e_some, e_bindS, k_len hk]
    refine ret_keep (by simp) ⟨?_, rfl⟩
    simp only [e_upd, Nat.reduceEqDiff, ↓reduceIte, h, decide_true]
  · simp (disch := omega) only [sS, ↓reduceIte, Nat.reduceEqDiff, Nat.reduceAdd, Nat.reduceMul, Nat.reduceSub, reduceCtorEq, e_none, e_some, e_bindS, k_len hk]
    refine ret_keep (by simp) ⟨?_, rfl⟩
    simp only [e_upd, Nat.reduceEqDiff, ↓reduceIte, h, decide_false]

theorem own_calls (κ : SK) (l : List Int) (hk : okS κ l.length) (hm : l.length ≤ 1000000) : ACalls Tryd.prog 105 [mkS κ 0 0 l.length] [ro (ints .u32 l)] [0] fun v H =>
    v = mkS (.cap (tz l l.length)) 1 0 (tz l l.length) ∧ H = [ro (ints .u32 l), rw_ (ints .u32 (l.take (tz l l.length)))] := by
  refine ACalls.body Tryd.func105 ent_own ir_own_ok rs_own_ok Tryd.ntmps105 (by simp) rfl ?_
  unfold ir_own
  have e0 : s0 [mkS κ 0 0 l.length] 0 = mkS κ 0 0 l.length := rfl
  have ht := tz_le l l.length
  simp (disch := omega) only [sS, ↓reduceIte, Nat.reduceEqDiff, Nat.reduceAdd, Nat.reduceMul, Nat.reduceSub, reduceCtorEq, e_none, e_some, e_bindS, e0]
  refine call_rdS (r := 0) (row := ⟨false, false, ints .u32 l⟩) (xtrim_calls κ l hk (by omega)) rfl rfl take_all rfl ?_
  simp (disch := omega) only [sS, ↓reduceIte, Nat.reduceEqDiff, Nat.reduceAdd, Nat.reduceMul, Nat.reduceSub, reduceCtorEq, e_none, e_some, e_bindS, k_len hk]
  rw [x_make (n := (tz l l.length : Nat)) (by simp only [e_t, e_upd, Nat.reduceEqDiff, ↓reduceIte]) (by omega) (by omega) (by omega)]
  simp (disch := omega) only [sS, ↓reduceIte, Nat.reduceEqDiff, Nat.reduceAdd, Nat.reduceMul, Nat.reduceSub, reduceCtorEq, e_none, e_some, e_bindS]
  rw [x_copy (κ := κ) (r := 1) (q := 0) (n := tz l l.length) (c := tz l l.length) (row := ⟨false, false, ints .u32 l⟩) (old := ints .u32 (List.replicate (tz l l.length) 0)) (by simp only [e_t, e_upd, Nat.reduceEqDiff, ↓reduceIte]; rfl) (by simp only [e_t, e_upd, Nat.reduceEqDiff, ↓reduceIte]) (hk.le ht) rfl (by simp [ints_length]) rfl (by simp only [ints_length]; omega) (by simp only [ints_take]; exact ints_cell)]
  simp (disch := omega) only [sS, ↓reduceIte, Nat.reduceEqDiff, Nat.reduceAdd, Nat.reduceMul, Nat.reduceSub, reduceCtorEq, e_none, e_some, e_bindS]
  refine ret_keep (by simp) ⟨?_, ?_⟩
  · simp only [e_upd, Nat.reduceEqDiff, ↓reduceIte]; rfl
  · simp only [ints_take]; rfl

theorem sign_calls (b : Bool) : ACalls Tryd.prog 111 [.bool b] [] [] fun v H => v = .int .i64 (if b then 1 else -1) ∧ H = [] := by
  refine ACalls.body Tryd.func111 ent_sign ir_sign_ok rs_sign_ok Tryd.ntmps111 (by simp) rfl ?_
  unfold ir_sign
  have e0 : s0 [.bool b] 0 = .bool b := rfl
  cases b <;> (simp (disch := omega) only [sS, ↓reduceIte, Nat.reduceEqDiff, Nat.reduceAdd, Nat.reduceMul, Nat.reduceSub, reduceCtorEq, e_none, e_some, e_bindS, e0]; exact ret_keep (by simp) ⟨by simp only [e_upd, ↓reduceIte, Bool.false_eq_true], rfl⟩)

theorem add32_calls {x y c : Int} (hx : 0 ≤ x ∧ x ≤ 4294967295) (hy : 0 ≤ y ∧ y ≤ 4294967295) (hc : 0 ≤ c ∧ c ≤ 1) : ACalls Tryd.prog 125 [.int .u32 x, .int .u32 y, .int .u32 c] [] [] fun v H =>
    v = .tuple [.int .u32 ((x + y + c) % 4294967296), .int .u32 ((x + y + c) / 4294967296)] ∧ H = [] := by
  refine ACalls.body Tryd.func125 ent_add32 ir_add32_ok rs_add32_ok Tryd.ntmps125 (by simp) rfl ?_
  unfold ir_add32
  have e0 : s0 [.int .u32 x, .int .u32 y, .int .u32 c] 0 = .int .u32 x := rfl
  have e1 : s0 [.int .u32 x, .int .u32 y, .int .u32 c] 1 = .int .u32 y := rfl
  have e2 : s0 [.int .u32 x, .int .u32 y, .int .u32 c] 2 = .int .u32 c := rfl
  have hs : abin .shr (.int .u64 (x + y + c)) (.int .u64 32) = some (.int .u64 ((x + y + c) / 4294967296)) := b_shr (n := 32) (by decide)
  have wu : IntKind.u32.wrap (x + y + c) = (x + y + c) % 4294967296 := IntKind.wrap_u32 _
  have wv : IntKind.u32.wrap ((x + y + c) / 4294967296) = (x + y + c) / 4294967296 := by rw [IntKind.wrap_u32]; omega
  simp (disch := omega) only [sS, ↓reduceIte, Nat.reduceEqDiff, Nat.reduceAdd, Nat.reduceMul, Nat.reduceSub, reduceCtorEq, e_none, e_some, e_bindS, e0, e1, e2, hs, wu, wv]
  exact ret_keep (by simp) ⟨by simp only [e_upd, Nat.reduceEqDiff, ↓reduceIte], rfl⟩
end Go.Proofs.YtjmceapnhmeflaaDoor


/- Contracts: add. -/
namespace Go.Proofs.YtjmceapnhmeflaaDoor
open Go Go.Vh

def Limbs (l : List Int) : Prop := ∀ i, 0 ≤ l.getD i 0 ∧ l.getD i 0 ≤ 4294967295
theorem getD_set (l : List Int) (i j : Nat) (x : Int) : (l.set i x).getD j 0 = if i = j ∧ i < l.length then x else l.getD j 0 := by
  simp only [List.getD_eq_getElem?_getD, List.getElem?_set]
  by_cases h : i = j
  · subst h
    by_cases h2 : i < l.length
    · simp [h2]
    · simp [h2]
  · simp [h]
end Go.Proofs.YtjmceapnhmeflaaDoor


/- Numbers in limbs. -/
namespace Go.Proofs.YtjmceapnhmeflaaDoor
open Go Go.Vh

/-- one limb's worth -/
def BB : Int := 4294967296
theorem BB_pos (k : Nat) : 0 < BB ^ k := Int.pow_pos (by decide)
/-- the number of the first k limbs -/
def nv (l : List Int) : Nat → Int
  | 0 => 0
  | k + 1 => nv l k + l.getD k 0 * BB ^ k
theorem nv_bound {l : List Int} (h : Limbs l) : ∀ k, 0 ≤ nv l k ∧ nv l k < BB ^ k
  | 0 => by simp [nv]
  | k + 1 => by
    obtain ⟨h1, h2⟩ := nv_bound h k
    obtain ⟨h3, h4⟩ := h k
    have hp := BB_pos k
    simp only [nv]
    rw [Int.pow_succ]
    have h5 : l.getD k 0 * BB ^ k ≤ (BB - 1) * BB ^ k := Int.mul_le_mul_of_nonneg_right (by simp only [BB]; omega) (by omega)
    have h6 : 0 ≤ l.getD k 0 * BB ^ k := Int.mul_nonneg h3 (by omega)
    have h7 : (BB - 1) * BB ^ k = BB ^ k * BB - BB ^ k := by rw [Int.sub_mul, Int.mul_comm BB, Int.one_mul]
    omega
theorem nv_zeros (l : List Int) {n : Nat} : ∀ m, n ≤ m → (∀ i, n ≤ i → i < m → l.getD i 0 = 0) → nv l m = nv l n
  | 0, h, _ => by obtain rfl : n = 0 := by omega
                  rfl
  | m + 1, h, hz => by
    rcases Nat.eq_or_lt_of_le h with e | e
    · rw [e]
    · simp only [nv]
      rw [hz m (by omega) (by omega), nv_zeros l m (by omega) (fun i h1 h2 => hz i h1 (by omega))]
      omega
theorem nv_tz (l : List Int) (n : Nat) : nv l (tz l n) = nv l n := (nv_zeros l n (tz_le l n) (tz_zero l n)).symm
/-- beyond the list nothing comes -/
theorem nv_long (l : List Int) {m : Nat} (h : l.length ≤ m) : nv l m = nv l l.length := nv_zeros l m h fun i h1 _ => by
  rw [List.getD_eq_getElem?_getD, List.getElem?_eq_none h1]; rfl
theorem nv_congr {l l' : List Int} : ∀ k, (∀ i, i < k → l.getD i 0 = l'.getD i 0) → nv l k = nv l' k
  | 0, _ => rfl
  | k + 1, h => by simp only [nv]; rw [nv_congr k (fun i hi => h i (by omega)), h k (by omega)]
theorem nv_take (l : List Int) (n k : Nat) (h : k ≤ n) : nv (l.take n) k = nv l k := nv_congr k fun i hi => by
  simp [List.getD_eq_getElem?_getD, List.getElem?_take, show i < n by omega]
/-- The number. -/
def num (l : List Int) : Int := nv l l.length
theorem num_nonneg {l : List Int} (h : Limbs l) : 0 ≤ num l := (nv_bound h _).1
theorem num_take {l : List Int} : num (l.take (tz l l.length)) = num l := by
  have := tz_le l l.length
  simp only [num, List.length_take, Nat.min_eq_left this]
  rw [nv_take l _ _ (Nat.le_refl _), nv_tz]
/-- A number that has its last limb is at least that. -/
theorem nv_ge {l : List Int} (h : Limbs l) {k : Nat} (hk : l.getD k 0 ≠ 0) : BB ^ k ≤ nv l (k + 1) := by
  obtain ⟨h1, _⟩ := nv_bound h k
  obtain ⟨h3, _⟩ := h k
  have : 1 * BB ^ k ≤ l.getD k 0 * BB ^ k := Int.mul_le_mul_of_nonneg_right (by omega) (by have := BB_pos k; omega)
  simp only [nv]
  omega
theorem BB_mono {i j : Nat} (h : i ≤ j) : BB ^ i ≤ BB ^ j := by
  obtain ⟨d, rfl⟩ := Nat.exists_eq_add_of_le h
  have h1 := BB_pos i
  have h2 := BB_pos d
  have h3 : BB ^ i * 1 ≤ BB ^ i * BB ^ d := Int.mul_le_mul_of_nonneg_left (by omega) (by omega)
  rw [Int.pow_add]
  omega
/-- Numbers without zeros at the end: the longer one is greater. -/
theorem nv_len_lt {a b : List Int} (ha : Limbs a) (hb : Limbs b) {n m : Nat} (h : n < m) (hl : b.getD (m - 1) 0 ≠ 0) : nv a n < nv b m := by
  have h1 := (nv_bound ha n).2
  have h2 := nv_ge hb hl
  rw [show m - 1 + 1 = m by omega] at h2
  have h3 : BB ^ n ≤ BB ^ (m - 1) := BB_mono (by omega)
  omega
theorem nv_top_lt {a b : List Int} (ha : Limbs a) (hb : Limbs b) {k : Nat} (h : a.getD k 0 < b.getD k 0) : nv a (k + 1) < nv b (k + 1) := by
  have h1 := (nv_bound ha k).2
  have h2 := (nv_bound hb k).1
  have h3 : (a.getD k 0 + 1) * BB ^ k ≤ b.getD k 0 * BB ^ k := Int.mul_le_mul_of_nonneg_right (by omega) (by have := BB_pos k; omega)
  rw [Int.add_mul, Int.one_mul] at h3
  simp only [nv]
  omega
theorem nv_sum_eq {a b : List Int} {k : Nat} : ∀ n, k ≤ n → (∀ i, k ≤ i → i < n → a.getD i 0 = b.getD i 0) → nv a n - nv b n = nv a k - nv b k
  | 0, h, _ => by obtain rfl : k = 0 := by omega
                  rfl
  | n + 1, h, he => by
    rcases Nat.eq_or_lt_of_le h with e | e
    · rw [e]
    · have := nv_sum_eq n (by omega) (fun i h1 h2 => he i h1 (by omega))
      simp only [nv]
      rw [he n (by omega) (by omega)]
      omega
/-- Normal numbers are equal as lists if they are as numbers. -/
theorem num_inj {a b : List Int} (ha : Limbs a) (hb : Limbs b) (h : num a = num b) : a.take (tz a a.length) = b.take (tz b b.length) := by
  rw [← num_take (l := a), ← num_take (l := b)] at h
  have la : ((a.take (tz a a.length)).length) = tz a a.length := by rw [List.length_take]; have := tz_le a a.length; omega
  have lb : ((b.take (tz b b.length)).length) = tz b b.length := by rw [List.length_take]; have := tz_le b b.length; omega
  simp only [num, la, lb] at h
  rw [nv_take _ _ _ (Nat.le_refl _), nv_take _ _ _ (Nat.le_refl _)] at h
  have hl : tz a a.length = tz b b.length := by
    rcases Nat.lt_trichotomy (tz a a.length) (tz b b.length) with h1 | h1 | h1
    · have := nv_len_lt ha hb h1 (tz_last b b.length (by omega)); omega
    · exact h1
    · have := nv_len_lt hb ha h1 (tz_last a a.length (by omega)); omega
  rw [← hl] at h
  have key : ∀ n, nv a n = nv b n → ∀ i, i < n → a.getD i 0 = b.getD i 0 := by
    intro n
    induction n with
    | zero => intro _ i hi; omega
    | succ n ih =>
      intro he i hi
      have : a.getD n 0 = b.getD n 0 := by
        rcases Int.lt_trichotomy (a.getD n 0) (b.getD n 0) with h1 | h1 | h1
        · have := nv_top_lt ha hb h1; omega
        · exact h1
        · have := nv_top_lt hb ha h1; omega
      rcases Nat.lt_or_ge i n with h2 | h2
      · refine ih ?_ i h2
        simp only [nv, this] at he
        omega
      · obtain rfl : i = n := by omega
        exact this
  refine List.ext_getElem (by rw [la, lb, hl]) fun i hi hi' => ?_
  rw [la] at hi
  have := key _ h i hi
  have h1 := tz_le a a.length
  have h2 := tz_le b b.length
  simp only [List.getElem_take]
  simpa [List.getD_eq_getElem?_getD, show i < a.length by omega, show i < b.length by omega] using this
end Go.Proofs.YtjmceapnhmeflaaDoor


/- Contracts: compare. -/
namespace Go.Proofs.YtjmceapnhmeflaaDoor
open Go Go.Vh

def cmpI (x y : Int) : Int := if x < y then -1 else if y < x then 1 else 0

theorem xcompare_calls (κ κ' : SK) (a b : List Int) (hk : okS κ a.length) (hk' : okS κ' b.length) (hm : a.length ≤ 1000000) (hm' : b.length ≤ 1000000) (ha : Limbs a) (hb : Limbs b) :
    ACalls Tryd.prog 71 [mkS κ 0 0 a.length, mkS κ' 1 0 b.length] [ro (ints .u32 a), ro (ints .u32 b)] [0, 1] fun v H =>
      v = .int .i64 (cmpI (num a) (num b)) ∧ H = [ro (ints .u32 a), ro (ints .u32 b)] := by
  refine ACalls.body Tryd.func71 ent_xcompare ir_xcompare_ok rs_xcompare_ok Tryd.ntmps71 (by simp) rfl ?_
  unfold ir_xcompare
  have e0 : s0 [mkS κ 0 0 a.length, mkS κ' 1 0 b.length] 0 = mkS κ 0 0 a.length := rfl
  have e1 : s0 [mkS κ 0 0 a.length, mkS κ' 1 0 b.length] 1 = mkS κ' 1 0 b.length := rfl
  have hta := tz_le a a.length
  have htb := tz_le b b.length
  have hla := tz_last a a.length
  have hlb := tz_last b b.length
  have na : num a = nv a (tz a a.length) := (nv_tz a _).symm
  have nb : num b = nv b (tz b b.length) := (nv_tz b _).symm
  simp (disch := omega) only [sS, ↓reduceIte, Nat.reduceEqDiff, Nat.reduceAdd, Nat.reduceMul, Nat.reduceSub, reduceCtorEq, e_none, e_some, e_bindS, e0, e1]
  refine call_rdS (r := 0) (row := ⟨false, false, ints .u32 a⟩) (xtrim_calls κ a hk (by omega)) rfl rfl take_all rfl ?_
  simp (disch := omega) only [sS, ↓reduceIte, Nat.reduceEqDiff, Nat.reduceAdd, Nat.reduceMul, Nat.reduceSub, reduceCtorEq, e_none, e_some, e_bindS, e0, e1]
  refine call_rdS (r := 1) (row := ⟨false, false, ints .u32 b⟩) (xtrim_calls κ' b hk' (by omega)) rfl rfl take_all rfl ?_
  rw [na, nb]
  generalize tz a a.length = ta at *
  generalize tz b b.length = tb at *
  by_cases hne : ta = tb
  · subst hne
    simp (disch := omega) only [sS, ↓reduceIte, Nat.reduceEqDiff, Nat.reduceAdd, Nat.reduceMul, Nat.reduceSub, reduceCtorEq, e_none, e_some, e_bindS, k_len hk, k_len hk']
    refine ⟨fun m s H => ∃ k : Nat, k ≤ ta ∧ m = ta - k ∧ (∀ j, ta - k ≤ j → j < ta → a.getD j 0 = b.getD j 0) ∧ s 0 = mkS κ 0 0 ta ∧ s 1 = mkS κ' 1 0 ta ∧ s 23 = .int .i64 ta ∧ s 24 = .int .i64 k ∧ H = [ro (ints .u32 a), ro (ints .u32 b)], ta, ⟨0, by omega, rfl, fun j h1 h2 => by omega, ?_, ?_, ?_, ?_, rfl⟩, ?_⟩
    · simp only [e_upd, Nat.reduceEqDiff, ↓reduceIte]
    · simp only [e_upd, Nat.reduceEqDiff, ↓reduceIte]
    · simp only [e_upd, Nat.reduceEqDiff, ↓reduceIte]
    · simp only [e_upd, Nat.reduceEqDiff, ↓reduceIte]; rfl
    rintro m s H ⟨k, hk1, rfl, heq, h0, h1, h23, h24, rfl⟩
    by_cases hlt : k < ta
    · have hidx : (ta : Int) - 1 - (k : Int) = ((ta - 1 - k : Nat) : Int) := by omega
      have hsum := nv_sum_eq (a := a) (b := b) (k := ta - 1 - k + 1) ta (by omega) (fun i h h' => heq i (by omega) h')
      by_cases he : a.getD (ta - 1 - k) 0 = b.getD (ta - 1 - k) 0
      · simp (disch := omega) only [sS, ↓reduceIte, Nat.reduceEqDiff, Nat.reduceAdd, Nat.reduceMul, Nat.reduceSub, reduceCtorEq, e_none, e_some, e_bindS, h0, h1, h23, h24, k_len hk, k_len hk', k_idx hk, k_idx hk', hidx]
        refine loop_keep (m := ta - (k + 1)) (by omega) ⟨k + 1, by omega, rfl, fun j h5 h6 => ?_, ?_, ?_, ?_, ?_, rfl⟩
        · rcases Nat.lt_or_ge j (ta - k) with h7 | h7
          · obtain rfl : j = ta - 1 - k := by omega
            exact he
          · exact heq j h7 h6
        · simp only [e_upd, Nat.reduceEqDiff, ↓reduceIte, h0]
        · simp only [e_upd, Nat.reduceEqDiff, ↓reduceIte, h1]
        · simp only [e_upd, Nat.reduceEqDiff, ↓reduceIte, h23]
        · simp (disch := omega) only [e_upd, Nat.reduceEqDiff, ↓reduceIte, h24, w64, AV.int.injEq]; simp
      · simp (disch := omega) only [sS, ↓reduceIte, Nat.reduceEqDiff, Nat.reduceAdd, Nat.reduceMul, Nat.reduceSub, reduceCtorEq, e_none, e_some, e_bindS, h0, h1, h23, h24, k_len hk, k_len hk', k_idx hk, k_idx hk', hidx]
        refine call_sc (sign_calls (decide (b.getD (ta - 1 - k) 0 < a.getD (ta - 1 - k) 0))) rfl rfl (fun _ => rfl) ?_
        simp (disch := omega) only [sS, ↓reduceIte, Nat.reduceEqDiff, Nat.reduceAdd, Nat.reduceMul, Nat.reduceSub, reduceCtorEq, e_none, e_some, e_bindS]
        refine ret_keep (by simp) ⟨?_, rfl⟩
        simp only [e_upd, Nat.reduceEqDiff, ↓reduceIte]
        congr 1
        unfold cmpI
        rcases Int.lt_or_gt_of_ne he with h | h
        · have := nv_top_lt ha hb h
          rw [if_neg (by simp only [decide_eq_true_eq]; omega), if_pos (by omega)]
        · have := nv_top_lt hb ha h
          rw [if_pos (by simp only [decide_eq_true_eq]; omega), if_neg (by omega), if_pos (by omega)]
    · simp (disch := omega) only [sS, ↓reduceIte, Nat.reduceEqDiff, Nat.reduceAdd, Nat.reduceMul, Nat.reduceSub, reduceCtorEq, e_none, e_some, e_bindS, h0, h1, h23, h24]
      refine ret_keep (by simp) ⟨?_, rfl⟩
      simp only [e_upd, Nat.reduceEqDiff, ↓reduceIte]
      have := nv_sum_eq (a := a) (b := b) (k := 0) ta (by omega) (fun i h h' => heq i (by omega) h')
      simp only [nv] at this
      congr 1
      unfold cmpI
      rw [if_neg (by omega), if_neg (by omega)]
  · simp (disch := omega) only [sS, ↓reduceIte, Nat.reduceEqDiff, Nat.reduceAdd, Nat.reduceMul, Nat.reduceSub, reduceCtorEq, e_none, e_some, e_bindS, k_len hk, k_len hk']
    refine call_sc (sign_calls (decide ((tb : Int) < (ta : Int)))) rfl rfl (fun _ => rfl) ?_
    simp (disch := omega) only [sS, ↓reduceIte, Nat.reduceEqDiff, Nat.reduceAdd, Nat.reduceMul, Nat.reduceSub, reduceCtorEq, e_none, e_some, e_bindS]
    refine ret_keep (by simp) ⟨?_, rfl⟩
    simp only [e_upd, Nat.reduceEqDiff, ↓reduceIte]
    congr 1
    unfold cmpI
    rcases Nat.lt_or_gt_of_ne hne with h | h
    · have := nv_len_lt ha hb h (hlb (by omega))
      rw [if_neg (by simp only [decide_eq_true_eq]; omega), if_pos (by omega)]
    · have := nv_len_lt hb ha h (hla (by omega))
      rw [if_pos (by simp only [decide_eq_true_eq]; omega), if_neg (by omega), if_pos (by omega)]
end Go.Proofs.YtjmceapnhmeflaaDoor

