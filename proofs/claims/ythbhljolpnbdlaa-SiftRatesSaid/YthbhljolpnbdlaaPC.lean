/- Contracts: add. -/
import Derived.Test.YthbhljolpnbdlaaV7
import Derived.Test.YthbhljolpnbdlaaPB
set_option linter.unusedSimpArgs false
set_option linter.unusedVariables false
namespace Go.Proofs.Ythbhljolpnbdlaa.S1
open Go Go.Vh

/-- the sum behind i rounds -/
def addS (a b : List Int) (n : Nat) : Nat → List Int
  | 0 => List.replicate n 0
  | i + 1 => ((addS a b n i).set i ((a.getD i 0 + b.getD i 0 + (addS a b n i).getD i 0) % 4294967296)).set (i + 1) ((a.getD i 0 + b.getD i 0 + (addS a b n i).getD i 0) / 4294967296)
theorem addS_length (a b : List Int) (n : Nat) : ∀ i, (addS a b n i).length = n
  | 0 => by simp [addS]
  | i + 1 => by simp [addS, addS_length a b n i]
def Limbs (l : List Int) : Prop := ∀ i, 0 ≤ l.getD i 0 ∧ l.getD i 0 ≤ 4294967295
theorem getD_set (l : List Int) (i j : Nat) (x : Int) : (l.set i x).getD j 0 = if i = j ∧ i < l.length then x else l.getD j 0 := by
  simp only [List.getD_eq_getElem?_getD, List.getElem?_set]
  by_cases h : i = j
  · subst h
    by_cases h2 : i < l.length
    · simp [h2]
    · simp [h2]
  · simp [h]
theorem addS_carry {a b : List Int} (ha : Limbs a) (hb : Limbs b) (n : Nat) : ∀ i, 0 ≤ (addS a b n i).getD i 0 ∧ (addS a b n i).getD i 0 ≤ 1
  | 0 => by
    have : (List.replicate n (0 : Int)).getD 0 0 = 0 := by simp [List.getD_eq_getElem?_getD, List.getElem?_replicate]; split <;> rfl
    simp only [addS, this]; omega
  | i + 1 => by
    have h := addS_carry ha hb n i
    have h1 := ha i
    have h2 := hb i
    simp only [addS, getD_set, List.length_set, addS_length]
    rcases Nat.lt_or_ge (i + 1) n with hn | hn
    · rw [if_pos ⟨trivial, hn⟩]; omega
    · rw [if_neg (by omega), if_neg (by omega)]
      have : (addS a b n i).getD (i + 1) 0 = 0 := by rw [List.getD_eq_getElem?_getD, List.getElem?_eq_none (by rw [addS_length]; exact hn)]; rfl
      rw [this]; omega

theorem xadd_calls (κ κ' : SK) (a b : List Int) (hk : okS κ a.length) (hk' : okS κ' b.length) (hm : a.length ≤ 1000000) (hm' : b.length ≤ 1000000) (ha : Limbs a) (hb : Limbs b) (n : Nat) (hn : n = if b.length > a.length then b.length else a.length) :
    ACalls Try.prog 139 [mkS κ 0 0 a.length, mkS κ' 1 0 b.length] [ro (ints .u32 a), ro (ints .u32 b)] [0, 1] fun v H =>
      v = mkS (.cap (n + 1)) 2 0 (tz (addS a b (n + 1) n) (n + 1)) ∧ H = [ro (ints .u32 a), ro (ints .u32 b), rw_ (ints .u32 (addS a b (n + 1) n))] := by
  refine ACalls.body Try.func139 ent_xadd ir_xadd_ok rs_xadd_ok Try.ntmps139 (by simp) rfl ?_
  unfold ir_xadd
  have e0 : s0 [mkS κ 0 0 a.length, mkS κ' 1 0 b.length] 0 = mkS κ 0 0 a.length := rfl
  have e1 : s0 [mkS κ 0 0 a.length, mkS κ' 1 0 b.length] 1 = mkS κ' 1 0 b.length := rfl
  have hnm : n ≤ 1000000 := by subst hn; split <;> omega
  simp (disch := omega) only [sS, ↓reduceIte, Nat.reduceEqDiff, Nat.reduceAdd, Nat.reduceMul, Nat.reduceSub, reduceCtorEq, e_none, e_some, e_bindS, e0, e1, k_len hk, k_len hk']
  rw [p_minmax (k := .i64) (k' := .i64) (a := (a.length : Int)) (b := (b.length : Int)) (by simp only [e_t, e_upd, Nat.reduceEqDiff, ↓reduceIte]) (by simp only [e_t, e_upd, Nat.reduceEqDiff, ↓reduceIte])]
  have hmax : (if true = true then (if (b.length : Int) > (a.length : Int) then (b.length : Int) else (a.length : Int)) else (if (b.length : Int) < (a.length : Int) then (b.length : Int) else (a.length : Int))) = (n : Int) := by
    subst hn; simp only [if_true]; split <;> split <;> omega
  rw [hmax]
  simp (disch := omega) only [sS, ↓reduceIte, Nat.reduceEqDiff, Nat.reduceAdd, Nat.reduceMul, Nat.reduceSub, reduceCtorEq, e_none, e_some, e_bindS]
  rw [x_make (n := (n : Int) + 1) (by simp only [e_t, e_upd, Nat.reduceEqDiff, ↓reduceIte]) (by omega) (by omega) (by omega)]
  have hN : ((n : Int) + 1).toNat = n + 1 := by omega
  simp (disch := omega) only [sS, ↓reduceIte, Nat.reduceEqDiff, Nat.reduceAdd, Nat.reduceMul, Nat.reduceSub, reduceCtorEq, e_none, e_some, e_bindS, hN]
  refine ⟨fun m s H => ∃ i : Nat, i ≤ n ∧ m = n - i ∧ s 0 = mkS κ 0 0 a.length ∧ s 1 = mkS κ' 1 0 b.length ∧ s 6 = .slice 2 0 (n + 1) (n + 1) ∧ s 16 = .int .i64 n ∧ s 17 = .int .i64 i ∧ H = [ro (ints .u32 a), ro (ints .u32 b), rw_ (ints .u32 (addS a b (n + 1) i))], n, ⟨0, by omega, rfl, ?_, ?_, ?_, ?_, ?_, rfl⟩, ?_⟩
  · simp only [e_upd, Nat.reduceEqDiff, ↓reduceIte, e0]
  · simp only [e_upd, Nat.reduceEqDiff, ↓reduceIte, e1]
  · simp only [e_upd, Nat.reduceEqDiff, ↓reduceIte]; rfl
  · simp only [e_upd, Nat.reduceEqDiff, ↓reduceIte]
  · simp only [e_upd, Nat.reduceEqDiff, ↓reduceIte]; rfl
  rintro m s H ⟨i, hi, rfl, h0, h1, h6, h16, h17, rfl⟩
  have hS := addS_length a b (n + 1) i
  by_cases hlt : i < n
  · have hc := addS_carry ha hb (n + 1) i
    simp (disch := omega) only [sS, ↓reduceIte, Nat.reduceEqDiff, Nat.reduceAdd, Nat.reduceMul, Nat.reduceSub, reduceCtorEq, e_none, e_some, e_bindS, h0, h1, h6, h16, h17]
    refine call_rdI0 (r := 0) (row := ⟨false, false, ints .u32 a⟩) (limb_calls κ a hk (by omega) i (by omega)) rfl rfl take_all rfl (fun _ => rfl) ?_
    simp (disch := omega) only [sS, ↓reduceIte, Nat.reduceEqDiff, Nat.reduceAdd, Nat.reduceMul, Nat.reduceSub, reduceCtorEq, e_none, e_some, e_bindS, h0, h1, h6, h16, h17]
    refine call_rdI0 (r := 1) (row := ⟨false, false, ints .u32 b⟩) (limb_calls κ' b hk' (by omega) i (by omega)) rfl rfl take_all rfl (fun _ => rfl) ?_
    simp (disch := omega) only [sS, ↓reduceIte, Nat.reduceEqDiff, Nat.reduceAdd, Nat.reduceMul, Nat.reduceSub, reduceCtorEq, e_none, e_some, e_bindS, h0, h1, h6, h16, h17]
    refine call_sc (add32_calls (ha i) (hb i) hc) rfl rfl (fun _ => rfl) ?_
    simp (disch := omega) only [sS, ↓reduceIte, Nat.reduceEqDiff, Nat.reduceAdd, Nat.reduceMul, Nat.reduceSub, reduceCtorEq, e_none, e_some, e_bindS, h0, h1, h6, h16, h17, List.getElem?_cons_zero, List.getElem?_cons_succ]
    rw [x_store (r := 2) (off := i) (k := .u32) (b := (a.getD i 0 + b.getD i 0 + (addS a b (n + 1) i).getD i 0) % 4294967296) (l := addS a b (n + 1) i) (by simp only [e_t, e_upd, Nat.reduceEqDiff, ↓reduceIte]) (by simp only [e_t, e_upd, Nat.reduceEqDiff, ↓reduceIte]) rfl (by omega)]
    simp (disch := omega) only [sS, ↓reduceIte, Nat.reduceEqDiff, Nat.reduceAdd, Nat.reduceMul, Nat.reduceSub, reduceCtorEq, e_none, e_some, e_bindS, h0, h1, h6, h16, h17]
    rw [x_store (r := 2) (off := i + 1) (k := .u32) (b := (a.getD i 0 + b.getD i 0 + (addS a b (n + 1) i).getD i 0) / 4294967296) (l := (addS a b (n + 1) i).set i ((a.getD i 0 + b.getD i 0 + (addS a b (n + 1) i).getD i 0) % 4294967296)) (by simp only [e_t, e_upd, Nat.reduceEqDiff, ↓reduceIte, AV.ptr.injEq, true_and]; omega) (by simp only [e_t, e_upd, Nat.reduceEqDiff, ↓reduceIte]) rfl (by rw [List.length_set]; omega)]
    simp (disch := omega) only [sS, ↓reduceIte, Nat.reduceEqDiff, Nat.reduceAdd, Nat.reduceMul, Nat.reduceSub, reduceCtorEq, e_none, e_some, e_bindS, h0, h1, h6, h16, h17]
    refine loop_keep (m := n - (i + 1)) (by omega) ⟨i + 1, by omega, rfl, ?_, ?_, ?_, ?_, ?_, rfl⟩
    · simp only [e_upd, Nat.reduceEqDiff, ↓reduceIte, h0]
    · simp only [e_upd, Nat.reduceEqDiff, ↓reduceIte, h1]
    · simp only [e_upd, Nat.reduceEqDiff, ↓reduceIte, h6]
    · simp only [e_upd, Nat.reduceEqDiff, ↓reduceIte, h16]
    · simp (disch := omega) only [e_upd, Nat.reduceEqDiff, ↓reduceIte, h17, w64, AV.int.injEq]; simp
  · obtain rfl : i = n := by omega
    simp (disch := omega) only [sS, ↓reduceIte, Nat.reduceEqDiff, Nat.reduceAdd, Nat.reduceMul, Nat.reduceSub, reduceCtorEq, e_none, e_some, e_bindS, h0, h1, h6, h16, h17]
    have ht := xtrim_calls (.cap (i + 1)) (addS a b (i + 1) i) (okS_cap (by omega)) (by omega)
    rw [hS] at ht
    refine call_rdS (r := 2) (row := ⟨true, false, ints .u32 (addS a b (i + 1) i)⟩) ht rfl rfl take_all rfl ?_
    simp (disch := omega) only [sS, ↓reduceIte, Nat.reduceEqDiff, Nat.reduceAdd, Nat.reduceMul, Nat.reduceSub, reduceCtorEq, e_none, e_some, e_bindS]
    refine ret_keep (by simp) ⟨?_, rfl⟩
    simp only [e_upd, ↓reduceIte]
end Go.Proofs.Ythbhljolpnbdlaa.S1



/- Numbers in limbs. -/
namespace Go.Proofs.Ythbhljolpnbdlaa.S1
open Go Go.Vh

/-- one limb's worth -/
def BB : Int := 4294967296
theorem BB_pos (k : Nat) : 0 < BB ^ k := Int.pow_pos (by decide)
/-- the number of the first k limbs -/
def nv (l : List Int) : Nat → Int
  | 0 => 0
  | k + 1 => nv l k + l.getD k 0 * BB ^ k
theorem nv_bound {l : List Int} (h : Limbs l) : ∀ k, 0 ≤ nv l k ∧ nv l k < BB ^ k
  | 0 => by simp [nv]
  | k + 1 => by
    obtain ⟨h1, h2⟩ := nv_bound h k
    obtain ⟨h3, h4⟩ := h k
    have hp := BB_pos k
    simp only [nv]
    rw [Int.pow_succ]
    have h5 : l.getD k 0 * BB ^ k ≤ (BB - 1) * BB ^ k := Int.mul_le_mul_of_nonneg_right (by simp only [BB]; omega) (by omega)
    have h6 : 0 ≤ l.getD k 0 * BB ^ k := Int.mul_nonneg h3 (by omega)
    have h7 : (BB - 1) * BB ^ k = BB ^ k * BB - BB ^ k := by rw [Int.sub_mul, Int.mul_comm BB, Int.one_mul]
    omega
theorem nv_zeros (l : List Int) {n : Nat} : ∀ m, n ≤ m → (∀ i, n ≤ i → i < m → l.getD i 0 = 0) → nv l m = nv l n
  | 0, h, _ => by obtain rfl : n = 0 := by omega
                  rfl
  | m + 1, h, hz => by
    rcases Nat.eq_or_lt_of_le h with e | e
    · rw [e]
    · simp only [nv]
      rw [hz m (by omega) (by omega), nv_zeros l m (by omega) (fun i h1 h2 => hz i h1 (by omega))]
      omega
theorem nv_tz (l : List Int) (n : Nat) : nv l (tz l n) = nv l n := (nv_zeros l n (tz_le l n) (tz_zero l n)).symm
/-- beyond the list nothing comes -/
theorem nv_long (l : List Int) {m : Nat} (h : l.length ≤ m) : nv l m = nv l l.length := nv_zeros l m h fun i h1 _ => by
  rw [List.getD_eq_getElem?_getD, List.getElem?_eq_none h1]; rfl
theorem nv_congr {l l' : List Int} : ∀ k, (∀ i, i < k → l.getD i 0 = l'.getD i 0) → nv l k = nv l' k
  | 0, _ => rfl
  | k + 1, h => by simp only [nv]; rw [nv_congr k (fun i hi => h i (by omega)), h k (by omega)]
theorem nv_take (l : List Int) (n k : Nat) (h : k ≤ n) : nv (l.take n) k = nv l k := nv_congr k fun i hi => by
  simp [List.getD_eq_getElem?_getD, List.getElem?_take, show i < n by omega]
/-- The number. -/
def num (l : List Int) : Int := nv l l.length
theorem num_nonneg {l : List Int} (h : Limbs l) : 0 ≤ num l := (nv_bound h _).1
theorem num_take {l : List Int} : num (l.take (tz l l.length)) = num l := by
  have := tz_le l l.length
  simp only [num, List.length_take, Nat.min_eq_left this]
  rw [nv_take l _ _ (Nat.le_refl _), nv_tz]
/-- A number that has its last limb is at least that. -/
theorem nv_ge {l : List Int} (h : Limbs l) {k : Nat} (hk : l.getD k 0 ≠ 0) : BB ^ k ≤ nv l (k + 1) := by
  obtain ⟨h1, _⟩ := nv_bound h k
  obtain ⟨h3, _⟩ := h k
  have : 1 * BB ^ k ≤ l.getD k 0 * BB ^ k := Int.mul_le_mul_of_nonneg_right (by omega) (by have := BB_pos k; omega)
  simp only [nv]
  omega
theorem BB_mono {i j : Nat} (h : i ≤ j) : BB ^ i ≤ BB ^ j := by
  obtain ⟨d, rfl⟩ := Nat.exists_eq_add_of_le h
  have h1 := BB_pos i
  have h2 := BB_pos d
  have h3 : BB ^ i * 1 ≤ BB ^ i * BB ^ d := Int.mul_le_mul_of_nonneg_left (by omega) (by omega)
  rw [Int.pow_add]
  omega
/-- Numbers without zeros at the end: the longer one is greater. -/
theorem nv_len_lt {a b : List Int} (ha : Limbs a) (hb : Limbs b) {n m : Nat} (h : n < m) (hl : b.getD (m - 1) 0 ≠ 0) : nv a n < nv b m := by
  have h1 := (nv_bound ha n).2
  have h2 := nv_ge hb hl
  rw [show m - 1 + 1 = m by omega] at h2
  have h3 : BB ^ n ≤ BB ^ (m - 1) := BB_mono (by omega)
  omega
theorem nv_top_lt {a b : List Int} (ha : Limbs a) (hb : Limbs b) {k : Nat} (h : a.getD k 0 < b.getD k 0) : nv a (k + 1) < nv b (k + 1) := by
  have h1 := (nv_bound ha k).2
  have h2 := (nv_bound hb k).1
  have h3 : (a.getD k 0 + 1) * BB ^ k ≤ b.getD k 0 * BB ^ k := Int.mul_le_mul_of_nonneg_right (by omega) (by have := BB_pos k; omega)
  rw [Int.add_mul, Int.one_mul] at h3
  simp only [nv]
  omega
theorem nv_sum_eq {a b : List Int} {k : Nat} : ∀ n, k ≤ n → (∀ i, k ≤ i → i < n → a.getD i 0 = b.getD i 0) → nv a n - nv b n = nv a k - nv b k
  | 0, h, _ => by obtain rfl : k = 0 := by omega
                  rfl
  | n + 1, h, he => by
    rcases Nat.eq_or_lt_of_le h with e | e
    · rw [e]
    · have := nv_sum_eq n (by omega) (fun i h1 h2 => he i h1 (by omega))
      simp only [nv]
      rw [he n (by omega) (by omega)]
      omega
/-- Normal numbers are equal as lists if they are as numbers. -/
theorem num_inj {a b : List Int} (ha : Limbs a) (hb : Limbs b) (h : num a = num b) : a.take (tz a a.length) = b.take (tz b b.length) := by
  rw [← num_take (l := a), ← num_take (l := b)] at h
  have la : ((a.take (tz a a.length)).length) = tz a a.length := by rw [List.length_take]; have := tz_le a a.length; omega
  have lb : ((b.take (tz b b.length)).length) = tz b b.length := by rw [List.length_take]; have := tz_le b b.length; omega
  simp only [num, la, lb] at h
  rw [nv_take _ _ _ (Nat.le_refl _), nv_take _ _ _ (Nat.le_refl _)] at h
  have hl : tz a a.length = tz b b.length := by
    rcases Nat.lt_trichotomy (tz a a.length) (tz b b.length) with h1 | h1 | h1
    · have := nv_len_lt ha hb h1 (tz_last b b.length (by omega)); omega
    · exact h1
    · have := nv_len_lt hb ha h1 (tz_last a a.length (by omega)); omega
  rw [← hl] at h
  have key : ∀ n, nv a n = nv b n → ∀ i, i < n → a.getD i 0 = b.getD i 0 := by
    intro n
    induction n with
    | zero => intro _ i hi; omega
    | succ n ih =>
      intro he i hi
      have : a.getD n 0 = b.getD n 0 := by
        rcases Int.lt_trichotomy (a.getD n 0) (b.getD n 0) with h1 | h1 | h1
        · have := nv_top_lt ha hb h1; omega
        · exact h1
        · have := nv_top_lt hb ha h1; omega
      rcases Nat.lt_or_ge i n with h2 | h2
      · refine ih ?_ i h2
        simp only [nv, this] at he
        omega
      · obtain rfl : i = n := by omega
        exact this
  refine List.ext_getElem (by rw [la, lb, hl]) fun i hi hi' => ?_
  rw [la] at hi
  have := key _ h i hi
  have h1 := tz_le a a.length
  have h2 := tz_le b b.length
  simp only [List.getElem_take]
  simpa [List.getD_eq_getElem?_getD, show i < a.length by omega, show i < b.length by omega] using this
end Go.Proofs.Ythbhljolpnbdlaa.S1



/- Contracts: compare. -/
namespace Go.Proofs.Ythbhljolpnbdlaa.S1
open Go Go.Vh

def cmpI (x y : Int) : Int := if x < y then -1 else if y < x then 1 else 0

theorem xcompare_calls (κ κ' : SK) (a b : List Int) (hk : okS κ a.length) (hk' : okS κ' b.length) (hm : a.length ≤ 1000000) (hm' : b.length ≤ 1000000) (ha : Limbs a) (hb : Limbs b) :
    ACalls Try.prog 111 [mkS κ 0 0 a.length, mkS κ' 1 0 b.length] [ro (ints .u32 a), ro (ints .u32 b)] [0, 1] fun v H =>
      v = .int .i64 (cmpI (num a) (num b)) ∧ H = [ro (ints .u32 a), ro (ints .u32 b)] := by
  refine ACalls.body Try.func111 ent_xcompare ir_xcompare_ok rs_xcompare_ok Try.ntmps111 (by simp) rfl ?_
  unfold ir_xcompare
  have e0 : s0 [mkS κ 0 0 a.length, mkS κ' 1 0 b.length] 0 = mkS κ 0 0 a.length := rfl
  have e1 : s0 [mkS κ 0 0 a.length, mkS κ' 1 0 b.length] 1 = mkS κ' 1 0 b.length := rfl
  have hta := tz_le a a.length
  have htb := tz_le b b.length
  have hla := tz_last a a.length
  have hlb := tz_last b b.length
  have na : num a = nv a (tz a a.length) := (nv_tz a _).symm
  have nb : num b = nv b (tz b b.length) := (nv_tz b _).symm
  simp (disch := omega) only [sS, ↓reduceIte, Nat.reduceEqDiff, Nat.reduceAdd, Nat.reduceMul, Nat.reduceSub, reduceCtorEq, e_none, e_some, e_bindS, e0, e1]
  refine call_rdS (r := 0) (row := ⟨false, false, ints .u32 a⟩) (xtrim_calls κ a hk (by omega)) rfl rfl take_all rfl ?_
  simp (disch := omega) only [sS, ↓reduceIte, Nat.reduceEqDiff, Nat.reduceAdd, Nat.reduceMul, Nat.reduceSub, reduceCtorEq, e_none, e_some, e_bindS, e0, e1]
  refine call_rdS (r := 1) (row := ⟨false, false, ints .u32 b⟩) (xtrim_calls κ' b hk' (by omega)) rfl rfl take_all rfl ?_
  rw [na, nb]
  generalize tz a a.length = ta at *
  generalize tz b b.length = tb at *
  by_cases hne : ta = tb
  · subst hne
    simp (disch := omega) only [sS, ↓reduceIte, Nat.reduceEqDiff, Nat.reduceAdd, Nat.reduceMul, Nat.reduceSub, reduceCtorEq, e_none, e_some, e_bindS, k_len hk, k_len hk']
    refine ⟨fun m s H => ∃ k : Nat, k ≤ ta ∧ m = ta - k ∧ (∀ j, ta - k ≤ j → j < ta → a.getD j 0 = b.getD j 0) ∧ s 0 = mkS κ 0 0 ta ∧ s 1 = mkS κ' 1 0 ta ∧ s 23 = .int .i64 ta ∧ s 24 = .int .i64 k ∧ H = [ro (ints .u32 a), ro (ints .u32 b)], ta, ⟨0, by omega, rfl, fun j h1 h2 => by omega, ?_, ?_, ?_, ?_, rfl⟩, ?_⟩
    · simp only [e_upd, Nat.reduceEqDiff, ↓reduceIte]
    · simp only [e_upd, Nat.reduceEqDiff, ↓reduceIte]
    · simp only [e_upd, Nat.reduceEqDiff, ↓reduceIte]
    · simp only [e_upd, Nat.reduceEqDiff, ↓reduceIte]; rfl
    rintro m s H ⟨k, hk1, rfl, heq, h0, h1, h23, h24, rfl⟩
    by_cases hlt : k < ta
    · have hidx : (ta : Int) - 1 - (k : Int) = ((ta - 1 - k : Nat) : Int) := by omega
      have hsum := nv_sum_eq (a := a) (b := b) (k := ta - 1 - k + 1) ta (by omega) (fun i h h' => heq i (by omega) h')
      by_cases he : a.getD (ta - 1 - k) 0 = b.getD (ta - 1 - k) 0
      · simp (disch := omega) only [sS, ↓reduceIte, Nat.reduceEqDiff, Nat.reduceAdd, Nat.reduceMul, Nat.reduceSub, reduceCtorEq, e_none, e_some, e_bindS, h0, h1, h23, h24, k_len hk, k_len hk', k_idx hk, k_idx hk', hidx]
        refine loop_keep (m := ta - (k + 1)) (by omega) ⟨k + 1, by omega, rfl, fun j h5 h6 => ?_, ?_, ?_, ?_, ?_, rfl⟩
        · rcases Nat.lt_or_ge j (ta - k) with h7 | h7
          · obtain rfl : j = ta - 1 - k := by omega
            exact he
          · exact heq j h7 h6
        · simp only [e_upd, Nat.reduceEqDiff, ↓reduceIte, h0]
        · simp only [e_upd, Nat.reduceEqDiff, ↓reduceIte, h1]
        · simp only [e_upd, Nat.reduceEqDiff, ↓reduceIte, h23]
        · simp (disch := omega) only [e_upd, Nat.reduceEqDiff, ↓reduceIte, h24, w64, AV.int.injEq]; simp
      · simp (disch := omega) only [sS, ↓reduceIte, Nat.reduceEqDiff, Nat.reduceAdd, Nat.reduceMul, Nat.reduceSub, reduceCtorEq, e_none, e_some, e_bindS, h0, h1, h23, h24, k_len hk, k_len hk', k_idx hk, k_idx hk', hidx]
        refine call_sc (sign_calls (decide (b.getD (ta - 1 - k) 0 < a.getD (ta - 1 - k) 0))) rfl rfl (fun _ => rfl) ?_
        simp (disch := omega) only [sS, ↓reduceIte, Nat.reduceEqDiff, Nat.reduceAdd, Nat.reduceMul, Nat.reduceSub, reduceCtorEq, e_none, e_some, e_bindS]
        refine ret_keep (by simp) ⟨?_, rfl⟩
        simp only [e_upd, Nat.reduceEqDiff, ↓reduceIte]
        congr 1
        unfold cmpI
        rcases Int.lt_or_gt_of_ne he with h | h
        · have := nv_top_lt ha hb h
          rw [if_neg (by simp only [decide_eq_true_eq]; omega), if_pos (by omega)]
        · have := nv_top_lt hb ha h
          rw [if_pos (by simp only [decide_eq_true_eq]; omega), if_neg (by omega), if_pos (by omega)]
    · simp (disch := omega) only [sS, ↓reduceIte, Nat.reduceEqDiff, Nat.reduceAdd, Nat.reduceMul, Nat.reduceSub, reduceCtorEq, e_none, e_some, e_bindS, h0, h1, h23, h24]
      refine ret_keep (by simp) ⟨?_, rfl⟩
      simp only [e_upd, Nat.reduceEqDiff, ↓reduceIte]
      have := nv_sum_eq (a := a) (b := b) (k := 0) ta (by omega) (fun i h h' => heq i (by omega) h')
      simp only [nv] at this
      congr 1
      unfold cmpI
      rw [if_neg (by omega), if_neg (by omega)]
  · simp (disch := omega) only [sS, ↓reduceIte, Nat.reduceEqDiff, Nat.reduceAdd, Nat.reduceMul, Nat.reduceSub, reduceCtorEq, e_none, e_some, e_bindS, k_len hk, k_len hk']
    refine call_sc (sign_calls (decide ((tb : Int) < (ta : Int)))) rfl rfl (fun _ => rfl) ?_
    simp (disch := omega) only [sS, ↓reduceIte, Nat.reduceEqDiff, Nat.reduceAdd, Nat.reduceMul, Nat.reduceSub, reduceCtorEq, e_none, e_some, e_bindS]
    refine ret_keep (by simp) ⟨?_, rfl⟩
    simp only [e_upd, Nat.reduceEqDiff, ↓reduceIte]
    congr 1
    unfold cmpI
    rcases Nat.lt_or_gt_of_ne hne with h | h
    · have := nv_len_lt ha hb h (hlb (by omega))
      rw [if_neg (by simp only [decide_eq_true_eq]; omega), if_pos (by omega)]
    · have := nv_len_lt hb ha h (hla (by omega))
      rw [if_pos (by simp only [decide_eq_true_eq]; omega), if_neg (by omega), if_pos (by omega)]
end Go.Proofs.Ythbhljolpnbdlaa.S1



/- The sum is right. -/
namespace Go.Proofs.Ythbhljolpnbdlaa.S1
open Go Go.Vh

theorem addS_sum {a b : List Int} {n : Nat} : ∀ i, i < n → nv (addS a b n i) i + (addS a b n i).getD i 0 * BB ^ i = nv a i + nv b i
  | 0, _ => by
    have : (addS a b n 0).getD 0 0 = 0 := by simp only [addS, List.getD_eq_getElem?_getD, List.getElem?_replicate]; split <;> rfl
    rw [this]; simp [nv]
  | i + 1, h => by
    have ih := addS_sum (a := a) (b := b) (n := n) i (by omega)
    have hl := addS_length a b n i
    have e1 : (addS a b n (i + 1)).getD (i + 1) 0 = (a.getD i 0 + b.getD i 0 + (addS a b n i).getD i 0) / 4294967296 := by
      simp only [addS, getD_set, List.length_set, hl]
      rw [if_pos ⟨trivial, h⟩]
    have e2 : (addS a b n (i + 1)).getD i 0 = (a.getD i 0 + b.getD i 0 + (addS a b n i).getD i 0) % 4294967296 := by
      simp only [addS, getD_set, List.length_set, hl]
      rw [if_neg (by omega), if_pos ⟨trivial, by omega⟩]
    have e3 : nv (addS a b n (i + 1)) i = nv (addS a b n i) i := nv_congr i fun j hj => by
      simp only [addS, getD_set, List.length_set, hl]
      rw [if_neg (by omega), if_neg (by omega)]
    simp only [nv]
    rw [e1, e2, e3, Int.pow_succ]
    generalize (addS a b n i).getD i 0 = c at *
    generalize a.getD i 0 = x at *
    generalize b.getD i 0 = y at *
    have hb : BB = 4294967296 := rfl
    have key : (x + y + c) % 4294967296 * BB ^ i + (x + y + c) / 4294967296 * (BB ^ i * BB) = (x + y + c) * BB ^ i := by
      have := Int.emod_add_mul_ediv (x + y + c) 4294967296
      generalize (x + y + c) / 4294967296 = q at *
      generalize (x + y + c) % 4294967296 = r at *
      rw [← this, hb, Int.add_mul, ← Int.mul_assoc, Int.mul_right_comm q, Int.mul_comm q]
    rw [Int.add_mul, Int.add_mul] at key
    omega
theorem addS_num {a b : List Int} {n : Nat} (ha : a.length ≤ n) (hb : b.length ≤ n) : num (addS a b (n + 1) n) = num a + num b := by
  have h := addS_sum (a := a) (b := b) (n := n + 1) n (by omega)
  rw [nv_long a ha, nv_long b hb] at h
  simp only [num, addS_length, nv]
  exact h
theorem addS_limbs {a b : List Int} (ha : Limbs a) (hb : Limbs b) (n : Nat) : ∀ i, Limbs (addS a b n i)
  | 0, j => by
    have : (addS a b n 0).getD j 0 = 0 := by simp only [addS, List.getD_eq_getElem?_getD, List.getElem?_replicate]; split <;> rfl
    rw [this]; omega
  | i + 1, j => by
    have ih := addS_limbs ha hb n i j
    have h1 := ha i
    have h2 := hb i
    have h3 := addS_carry ha hb n i
    simp only [addS, getD_set]
    split
    · omega
    · split
      · omega
      · exact ih
end Go.Proofs.Ythbhljolpnbdlaa.S1



/- Contracts: mul. -/
namespace Go.Proofs.Ythbhljolpnbdlaa.S1
open Go Go.Vh

/-- one row of the product: j columns -/
def mulJ (x : Int) (b P : List Int) (i : Nat) : Nat → List Int × Int
  | 0 => (P, 0)
  | j + 1 => ((mulJ x b P i j).1.set (i + j) (((mulJ x b P i j).2 + (x * b.getD j 0 + (mulJ x b P i j).1.getD (i + j) 0)) % 4294967296), ((mulJ x b P i j).2 + (x * b.getD j 0 + (mulJ x b P i j).1.getD (i + j) 0)) / 4294967296)
def mulI (a b : List Int) : Nat → List Int
  | 0 => List.replicate (a.length + b.length) 0
  | i + 1 => (mulJ (a.getD i 0) b (mulI a b i) i b.length).1.set (i + b.length) (mulJ (a.getD i 0) b (mulI a b i) i b.length).2
theorem mulJ_length (x : Int) (b P : List Int) (i : Nat) : ∀ j, (mulJ x b P i j).1.length = P.length
  | 0 => rfl
  | j + 1 => by simp only [mulJ, List.length_set]; exact mulJ_length x b P i j
theorem mulI_length (a b : List Int) : ∀ i, (mulI a b i).length = a.length + b.length
  | 0 => by simp [mulI]
  | i + 1 => by simp only [mulI, List.length_set, mulJ_length]; exact mulI_length a b i
theorem prod_range {x y : Int} (hx : 0 ≤ x ∧ x ≤ 4294967295) (hy : 0 ≤ y ∧ y ≤ 4294967295) : 0 ≤ x * y ∧ x * y ≤ 18446744065119617025 := by
  refine ⟨Int.mul_nonneg hx.1 hy.1, ?_⟩
  have h1 : x * y ≤ 4294967295 * y := Int.mul_le_mul_of_nonneg_right hx.2 hy.1
  omega
theorem set_limbs {l : List Int} (h : Limbs l) (i : Nat) {x : Int} (hx : 0 ≤ x ∧ x ≤ 4294967295) : Limbs (l.set i x) := fun j => by
  rw [getD_set]; split
  · exact hx
  · exact h j
theorem mulJ_range {x : Int} {b P : List Int} (hx : 0 ≤ x ∧ x ≤ 4294967295) (hb : Limbs b) (hP : Limbs P) (i : Nat) : ∀ j, Limbs (mulJ x b P i j).1 ∧ 0 ≤ (mulJ x b P i j).2 ∧ (mulJ x b P i j).2 ≤ 4294967295
  | 0 => ⟨hP, by simp [mulJ], by simp [mulJ]⟩
  | j + 1 => by
    obtain ⟨h1, h2, h3⟩ := mulJ_range hx hb hP i j
    have h4 := prod_range hx (hb j)
    have h5 := h1 (i + j)
    simp only [mulJ]
    generalize x * b.getD j 0 = p at *
    refine ⟨set_limbs h1 _ ?_, ?_, ?_⟩ <;> omega
theorem mulI_limbs {a b : List Int} (ha : Limbs a) (hb : Limbs b) : ∀ i, Limbs (mulI a b i)
  | 0 => fun j => by
    have : (mulI a b 0).getD j 0 = 0 := by simp only [mulI, List.getD_eq_getElem?_getD, List.getElem?_replicate]; split <;> rfl
    rw [this]; omega
  | i + 1 => by
    obtain ⟨h1, h2⟩ := mulJ_range (ha i) hb (mulI_limbs ha hb i) i b.length
    exact set_limbs h1 _ h2

theorem xmul_calls (κ κ' : SK) (a b : List Int) (hk : okS κ a.length) (hk' : okS κ' b.length) (hm : a.length ≤ 1000000) (hm' : b.length ≤ 1000000) (ha : Limbs a) (hb : Limbs b) :
    ACalls Try.prog 112 [mkS κ 0 0 a.length, mkS κ' 1 0 b.length] [ro (ints .u32 a), ro (ints .u32 b)] [0, 1] fun v H =>
      v = mkS (.cap (a.length + b.length)) 2 0 (tz (mulI a b a.length) (a.length + b.length)) ∧ H = [ro (ints .u32 a), ro (ints .u32 b), rw_ (ints .u32 (mulI a b a.length))] := by
  refine ACalls.body Try.func112 ent_xmul ir_xmul_ok rs_xmul_ok Try.ntmps112 (by simp) rfl ?_
  unfold ir_xmul
  have e0 : s0 [mkS κ 0 0 a.length, mkS κ' 1 0 b.length] 0 = mkS κ 0 0 a.length := rfl
  have e1 : s0 [mkS κ 0 0 a.length, mkS κ' 1 0 b.length] 1 = mkS κ' 1 0 b.length := rfl
  simp (disch := omega) only [sS, ↓reduceIte, Nat.reduceEqDiff, Nat.reduceAdd, Nat.reduceMul, Nat.reduceSub, reduceCtorEq, e_none, e_some, e_bindS, e0, e1, k_len hk, k_len hk']
  rw [x_make (n := (a.length : Int) + (b.length : Int)) (by simp only [e_t, e_upd, Nat.reduceEqDiff, ↓reduceIte]) (by omega) (by omega) (by omega)]
  have hN : ((a.length : Int) + (b.length : Int)).toNat = a.length + b.length := by omega
  simp (disch := omega) only [sS, ↓reduceIte, Nat.reduceEqDiff, Nat.reduceAdd, Nat.reduceMul, Nat.reduceSub, reduceCtorEq, e_none, e_some, e_bindS, hN, e0, e1, k_len hk, k_len hk']
  refine ⟨fun m s H => ∃ i : Nat, i ≤ a.length ∧ m = a.length - i ∧ s 0 = mkS κ 0 0 a.length ∧ s 1 = mkS κ' 1 0 b.length ∧ s 5 = .slice 2 0 (a.length + b.length) (a.length + b.length) ∧ s 16 = .int .i64 a.length ∧ s 17 = .int .i64 i ∧ H = [ro (ints .u32 a), ro (ints .u32 b), rw_ (ints .u32 (mulI a b i))], a.length, ⟨0, by omega, rfl, ?_, ?_, ?_, ?_, ?_, rfl⟩, ?_⟩
  · simp only [e_upd, Nat.reduceEqDiff, ↓reduceIte, e0]
  · simp only [e_upd, Nat.reduceEqDiff, ↓reduceIte, e1]
  · simp only [e_upd, Nat.reduceEqDiff, ↓reduceIte]; rfl
  · simp only [e_upd, Nat.reduceEqDiff, ↓reduceIte]
  · simp only [e_upd, Nat.reduceEqDiff, ↓reduceIte]; rfl
  rintro m s H ⟨i, hi, rfl, h0, h1, h5, h16, h17, rfl⟩
  have hS := mulI_length a b i
  have hL := mulI_limbs ha hb i
  by_cases hlt : i < a.length
  · have hx := ha i
    simp (disch := omega) only [sS, ↓reduceIte, Nat.reduceEqDiff, Nat.reduceAdd, Nat.reduceMul, Nat.reduceSub, reduceCtorEq, e_none, e_some, e_bindS, h0, h1, h5, h16, h17, k_len hk, k_len hk']
    refine ⟨fun m s H => ∃ j : Nat, j ≤ b.length ∧ m = b.length - j ∧ s 0 = mkS κ 0 0 a.length ∧ s 1 = mkS κ' 1 0 b.length ∧ s 5 = .slice 2 0 (a.length + b.length) (a.length + b.length) ∧ s 6 = .int .i64 i ∧ s 7 = .int .u64 (mulJ (a.getD i 0) b (mulI a b i) i j).2 ∧ s 16 = .int .i64 a.length ∧ s 17 = .int .i64 i ∧ s 21 = .int .i64 b.length ∧ s 22 = .int .i64 j ∧ H = [ro (ints .u32 a), ro (ints .u32 b), rw_ (ints .u32 (mulJ (a.getD i 0) b (mulI a b i) i j).1)], b.length, ⟨0, by omega, rfl, ?_, ?_, ?_, ?_, ?_, ?_, ?_, ?_, ?_, rfl⟩, ?_⟩
    all_goals try (simp only [e_upd, Nat.reduceEqDiff, ↓reduceIte, h0, h1, h5, h16, h17]; done)
    · simp only [e_upd, Nat.reduceEqDiff, ↓reduceIte]; rfl
    · simp only [e_upd, Nat.reduceEqDiff, ↓reduceIte]; rfl
    clear h0 h1 h5 h16 h17 s
    rintro m s H ⟨j, hj, rfl, h0, h1, h5, h6, h7, h16, h17, h21, h22, rfl⟩
    obtain ⟨hJl, hc⟩ := mulJ_range hx hb hL i j
    have hJn := mulJ_length (a.getD i 0) b (mulI a b i) i j
    have hJ1 := mulJ_range hx hb hL i (j + 1)
    by_cases hjl : j < b.length
    · have hidx : (i : Int) + (j : Int) = ((i + j : Nat) : Int) := by omega
      have hp := prod_range hx (hb j)
      have hq := hJl (i + j)
      have hy := hb j
      have e3 : mulJ (a.getD i 0) b (mulI a b i) i (j + 1) = ((mulJ (a.getD i 0) b (mulI a b i) i j).1.set (i + j) (((mulJ (a.getD i 0) b (mulI a b i) i j).2 + (a.getD i 0 * b.getD j 0 + (mulJ (a.getD i 0) b (mulI a b i) i j).1.getD (i + j) 0)) % 4294967296), ((mulJ (a.getD i 0) b (mulI a b i) i j).2 + (a.getD i 0 * b.getD j 0 + (mulJ (a.getD i 0) b (mulI a b i) i j).1.getD (i + j) 0)) / 4294967296) := rfl
      rw [← hJn] at hS
      generalize hX : mulJ (a.getD i 0) b (mulI a b i) i j = X at *
      obtain ⟨Q, c⟩ := X
      simp only at hJl hc hJn hq hS e3 h7 ⊢
      generalize hpp : a.getD i 0 * b.getD j 0 = p at *
      have wt : IntKind.u32.wrap (c + (p + Q.getD (i + j) 0)) = (c + (p + Q.getD (i + j) 0)) % 4294967296 := IntKind.wrap_u32 _
      have hs : abin .shr (.int .u64 (c + (p + Q.getD (i + j) 0))) (.int .u64 32) = some (.int .u64 ((c + (p + Q.getD (i + j) 0)) / 4294967296)) := b_shr (n := 32) (by decide)
      simp (disch := omega) only [sS, ↓reduceIte, Nat.reduceEqDiff, Nat.reduceAdd, Nat.reduceMul, Nat.reduceSub, reduceCtorEq, e_none, e_some, e_bindS, h0, h1, h5, h6, h7, h16, h17, h21, h22, k_len hk, k_len hk', k_idx hk, k_idx hk', hidx, hpp, wt, hs]
      rw [x_store (r := 2) (off := i + j) (k := .u32) (b := (c + (p + Q.getD (i + j) 0)) % 4294967296) (l := Q) (by simp only [e_t, e_upd, Nat.reduceEqDiff, ↓reduceIte, AV.ptr.injEq, true_and] <;> omega) (by simp only [e_t, e_upd, Nat.reduceEqDiff, ↓reduceIte]) rfl (by omega)]
      simp (disch := omega) only [sS, ↓reduceIte, Nat.reduceEqDiff, Nat.reduceAdd, Nat.reduceMul, Nat.reduceSub, reduceCtorEq, e_none, e_some, e_bindS, h22, hs]
      refine loop_keep (m := b.length - (j + 1)) (by omega) ⟨j + 1, by omega, rfl, ?_, ?_, ?_, ?_, ?_, ?_, ?_, ?_, ?_, ?_⟩
      · simp only [e_upd, Nat.reduceEqDiff, ↓reduceIte, h0]
      · simp only [e_upd, Nat.reduceEqDiff, ↓reduceIte, h1]
      · simp only [e_upd, Nat.reduceEqDiff, ↓reduceIte, h5]
      · simp only [e_upd, Nat.reduceEqDiff, ↓reduceIte, h6]
      · rw [e3]; simp only [e_upd, Nat.reduceEqDiff, ↓reduceIte]
      · simp only [e_upd, Nat.reduceEqDiff, ↓reduceIte, h16]
      · simp only [e_upd, Nat.reduceEqDiff, ↓reduceIte, h17]
      · simp only [e_upd, Nat.reduceEqDiff, ↓reduceIte, h21]
      · simp (disch := omega) only [e_upd, Nat.reduceEqDiff, ↓reduceIte, h22, w64, AV.int.injEq]; simp
      · rw [e3]; rfl
    · obtain rfl : j = b.length := by omega
      have hidx : (i : Int) + (b.length : Int) = ((i + b.length : Nat) : Int) := by omega
      have wc : IntKind.u32.wrap (mulJ (a.getD i 0) b (mulI a b i) i b.length).2 = (mulJ (a.getD i 0) b (mulI a b i) i b.length).2 := by rw [IntKind.wrap_u32]; omega
      simp (disch := omega) only [sS, ↓reduceIte, Nat.reduceEqDiff, Nat.reduceAdd, Nat.reduceMul, Nat.reduceSub, reduceCtorEq, e_none, e_some, e_bindS, h0, h1, h5, h6, h7, h16, h17, h21, h22, k_len hk, k_len hk', hidx, wc]
      rw [x_store (r := 2) (off := i + b.length) (k := .u32) (b := (mulJ (a.getD i 0) b (mulI a b i) i b.length).2) (l := (mulJ (a.getD i 0) b (mulI a b i) i b.length).1) (by simp only [e_t, e_upd, Nat.reduceEqDiff, ↓reduceIte, AV.ptr.injEq, true_and] <;> omega) (by simp only [e_t, e_upd, Nat.reduceEqDiff, ↓reduceIte]) rfl (by omega)]
      simp (disch := omega) only [sS, ↓reduceIte, Nat.reduceEqDiff, Nat.reduceAdd, Nat.reduceMul, Nat.reduceSub, reduceCtorEq, e_none, e_some, e_bindS, h17]
      refine loop_keep (m := a.length - (i + 1)) (by omega) ⟨i + 1, by omega, rfl, ?_, ?_, ?_, ?_, ?_, rfl⟩
      · simp only [e_upd, Nat.reduceEqDiff, ↓reduceIte, h0]
      · simp only [e_upd, Nat.reduceEqDiff, ↓reduceIte, h1]
      · simp only [e_upd, Nat.reduceEqDiff, ↓reduceIte, h5]
      · simp only [e_upd, Nat.reduceEqDiff, ↓reduceIte, h16]
      · simp (disch := omega) only [e_upd, Nat.reduceEqDiff, ↓reduceIte, h17, w64, AV.int.injEq]; simp
  · obtain rfl : i = a.length := by omega
    simp (disch := omega) only [sS, ↓reduceIte, Nat.reduceEqDiff, Nat.reduceAdd, Nat.reduceMul, Nat.reduceSub, reduceCtorEq, e_none, e_some, e_bindS, h0, h1, h5, h16, h17]
    have ht := xtrim_calls (.cap (a.length + b.length)) (mulI a b a.length) (okS_cap (by omega)) (by omega)
    rw [hS] at ht
    refine call_rdS (r := 2) (row := ⟨true, false, ints .u32 (mulI a b a.length)⟩) ht rfl rfl take_all rfl ?_
    simp (disch := omega) only [sS, ↓reduceIte, Nat.reduceEqDiff, Nat.reduceAdd, Nat.reduceMul, Nat.reduceSub, reduceCtorEq, e_none, e_some, e_bindS]
    refine ret_keep (by simp) ⟨?_, rfl⟩
    simp only [e_upd, ↓reduceIte]
end Go.Proofs.Ythbhljolpnbdlaa.S1



/- The product is right. -/
namespace Go.Proofs.Ythbhljolpnbdlaa.S1
open Go Go.Vh

theorem nv_set (l : List Int) (k : Nat) (x : Int) (hk : k < l.length) : ∀ n, nv (l.set k x) n = nv l n + (if k < n then (x - l.getD k 0) * BB ^ k else 0)
  | 0 => by simp [nv]
  | n + 1 => by
    simp only [nv]
    rw [nv_set l k x hk n, getD_set]
    by_cases h : k = n
    · subst h
      have h1 : ¬ k < k := by omega
      have h2 : k < k + 1 := by omega
      simp only [hk, h1, h2, and_self, if_true, if_false, Int.sub_mul]
      omega
    · have h3 : ¬ (k = n ∧ k < l.length) := by omega
      rw [if_neg h3]
      by_cases h2 : k < n
      · have h4 : k < n + 1 := by omega
        simp only [h2, h4, if_true]
        omega
      · have h4 : ¬ k < n + 1 := by omega
        simp only [h2, h4, if_false]
        omega
theorem mulJ_keep (x : Int) (b P : List Int) (i k : Nat) : ∀ j, i + j ≤ k → (mulJ x b P i j).1.getD k 0 = P.getD k 0
  | 0, _ => rfl
  | j + 1, h => by
    simp only [mulJ, getD_set]
    rw [if_neg (by omega)]
    exact mulJ_keep x b P i k j (by omega)
theorem mulI_zero (a b : List Int) (k : Nat) : ∀ i, i + b.length ≤ k → (mulI a b i).getD k 0 = 0
  | 0, _ => by simp only [mulI, List.getD_eq_getElem?_getD, List.getElem?_replicate]; split <;> rfl
  | i + 1, h => by
    simp only [mulI, getD_set]
    rw [if_neg (by omega), mulJ_keep _ _ _ _ _ _ (by omega)]
    exact mulI_zero a b k i (by omega)
theorem mulJ_sum (x : Int) (b P : List Int) (i N : Nat) (hP : P.length = N) : ∀ j, i + j ≤ N → nv (mulJ x b P i j).1 N + (mulJ x b P i j).2 * BB ^ (i + j) = nv P N + x * nv b j * BB ^ i
  | 0, _ => by simp [mulJ, nv]
  | j + 1, h => by
    have ih := mulJ_sum x b P i N hP j (by omega)
    have hl : (mulJ x b P i j).1.length = N := by rw [mulJ_length, hP]
    simp only [mulJ, nv]
    rw [nv_set _ _ _ (by omega), if_pos (by omega), show i + (j + 1) = (i + j) + 1 by omega, Int.pow_succ]
    generalize (mulJ x b P i j).2 = c at *
    generalize hq : (mulJ x b P i j).1.getD (i + j) 0 = q at *
    have hb : BB = 4294967296 := rfl
    have key : (c + (x * b.getD j 0 + q)) % 4294967296 * BB ^ (i + j) + (c + (x * b.getD j 0 + q)) / 4294967296 * (BB ^ (i + j) * BB) = (c + (x * b.getD j 0 + q)) * BB ^ (i + j) := by
      have := Int.emod_add_mul_ediv (c + (x * b.getD j 0 + q)) 4294967296
      generalize (c + (x * b.getD j 0 + q)) / 4294967296 = u at *
      generalize (c + (x * b.getD j 0 + q)) % 4294967296 = r at *
      rw [← this, hb, Int.add_mul, ← Int.mul_assoc, Int.mul_right_comm u, Int.mul_comm u]
    rw [Int.sub_mul]
    have e1 : x * (nv b j + b.getD j 0 * BB ^ j) * BB ^ i = x * nv b j * BB ^ i + x * b.getD j 0 * BB ^ (i + j) := by
      rw [Int.mul_add, Int.add_mul, Int.pow_add, ← Int.mul_assoc x, Int.mul_assoc (x * b.getD j 0), Int.mul_comm (BB ^ j)]
    have e2 : (c + (x * b.getD j 0 + q)) * BB ^ (i + j) = c * BB ^ (i + j) + (x * b.getD j 0 * BB ^ (i + j) + q * BB ^ (i + j)) := by rw [Int.add_mul, Int.add_mul]
    rw [e1]
    rw [e2] at key
    omega
theorem mulI_sum (a b : List Int) : ∀ i, i ≤ a.length → nv (mulI a b i) (a.length + b.length) = nv a i * num b
  | 0, _ => by
    have : ∀ k, nv (mulI a b 0) k = 0 := by
      intro k
      induction k with
      | zero => rfl
      | succ k ih =>
        have : (mulI a b 0).getD k 0 = 0 := by simp only [mulI, List.getD_eq_getElem?_getD, List.getElem?_replicate]; split <;> rfl
        simp only [nv, ih, this]; omega
    rw [this]; simp [nv]
  | i + 1, h => by
    have ih := mulI_sum a b i (by omega)
    have hl := mulI_length a b i
    have hs := mulJ_sum (a.getD i 0) b (mulI a b i) i (a.length + b.length) hl b.length (by omega)
    have hz : (mulJ (a.getD i 0) b (mulI a b i) i b.length).1.getD (i + b.length) 0 = 0 := by
      rw [mulJ_keep _ _ _ _ _ _ (Nat.le_refl _)]; exact mulI_zero a b _ i (Nat.le_refl _)
    simp only [mulI, nv]
    rw [nv_set _ _ _ (by rw [mulJ_length, hl]; omega), if_pos (by omega), hz, Int.sub_zero, hs, ih, Int.add_mul]
    rw [show nv b b.length = num b from rfl, Int.mul_right_comm]
theorem mul_num (a b : List Int) : num (mulI a b a.length) = num a * num b := by
  have := mulI_sum a b a.length (Nat.le_refl _)
  simp only [num, mulI_length] at this ⊢
  exact this
end Go.Proofs.Ythbhljolpnbdlaa.S1


