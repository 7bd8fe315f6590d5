/- Contracts: mul. -/
import Derived.Test.YtjmceapnhmeflaaDoorV7
import Derived.Test.YtjmceapnhmeflaaDoorCA
set_option linter.unusedSimpArgs false
set_option linter.unusedVariables false
namespace Go.Proofs.YtjmceapnhmeflaaDoor
open Go Go.Vh

/-- one row of the product: j columns -/
def mulJ (x : Int) (b P : List Int) (i : Nat) : Nat → List Int × Int
  | 0 => (P, 0)
  | j + 1 => ((mulJ x b P i j).1.set (i + j) (((mulJ x b P i j).2 + (x * b.getD j 0 + (mulJ x b P i j).1.getD (i + j) 0)) % 4294967296), ((mulJ x b P i j).2 + (x * b.getD j 0 + (mulJ x b P i j).1.getD (i + j) 0)) / 4294967296)
def mulI (a b : List Int) : Nat → List Int
  | 0 => List.replicate (a.length + b.length) 0
  | i + 1 => (mulJ (a.getD i 0) b (mulI a b i) i b.length).1.set (i + b.length) (mulJ (a.getD i 0) b (mulI a b i) i b.length).2
theorem mulJ_length (x : Int) (b P : List Int) (i : Nat) : ∀ j, (mulJ x b P i j).1.length = P.length
  | 0 => rfl
  | j + 1 => by simp only [mulJ, List.length_set]; exact mulJ_length x b P i j
theorem mulI_length (a b : List Int) : ∀ i, (mulI a b i).length = a.length + b.length
  | 0 => by simp [mulI]
  | i + 1 => by simp only [mulI, List.length_set, mulJ_length]; exact mulI_length a b i
theorem prod_range {x y : Int} (hx : 0 ≤ x ∧ x ≤ 4294967295) (hy : 0 ≤ y ∧ y ≤ 4294967295) : 0 ≤ x * y ∧ x * y ≤ 18446744065119617025 := by
  refine ⟨Int.mul_nonneg hx.1 hy.1, ?_⟩
  have h1 : x * y ≤ 4294967295 * y := Int.mul_le_mul_of_nonneg_right hx.2 hy.1
  omega
theorem set_limbs {l : List Int} (h : Limbs l) (i : Nat) {x : Int} (hx : 0 ≤ x ∧ x ≤ 4294967295) : Limbs (l.set i x) := fun j => by
  rw [getD_set]; split
  · exact hx
  · exact h j
theorem mulJ_range {x : Int} {b P : List Int} (hx : 0 ≤ x ∧ x ≤ 4294967295) (hb : Limbs b) (hP : Limbs P) (i : Nat) : ∀ j, Limbs (mulJ x b P i j).1 ∧ 0 ≤ (mulJ x b P i j).2 ∧ (mulJ x b P i j).2 ≤ 4294967295
  | 0 => ⟨hP, by simp [mulJ], by simp [mulJ]⟩
  | j + 1 => by
    obtain ⟨h1, h2, h3⟩ := mulJ_range hx hb hP i j
    have h4 := prod_range hx (hb j)
    have h5 := h1 (i + j)
    simp only [mulJ]
    generalize x * b.getD j 0 = p at *
    refine ⟨set_limbs h1 _ ?_, ?_, ?_⟩ <;> omega
end Go.Proofs.YtjmceapnhmeflaaDoor


/- The product is right. -/
namespace Go.Proofs.YtjmceapnhmeflaaDoor
open Go Go.Vh

theorem nv_set (l : List Int) (k : Nat) (x : Int) (hk : k < l.length) : ∀ n, nv (l.set k x) n = nv l n + (if k < n then (x - l.getD k 0) * BB ^ k else 0)
  | 0 => by simp [nv]
  | n + 1 => by
    simp only [nv]
    rw [nv_set l k x hk n, getD_set]
    by_cases h : k = n
    · subst h
      have h1 : ¬ k < k := by omega
      have h2 : k < k + 1 := by omega
      simp only [hk, h1, h2, and_self, if_true, if_false, Int.sub_mul]
      omega
    · have h3 : ¬ (k = n ∧ k < l.length) := by omega
      rw [if_neg h3]
      by_cases h2 : k < n
      · have h4 : k < n + 1 := by omega
        simp only [h2, h4, if_true]
        omega
      · have h4 : ¬ k < n + 1 := by omega
        simp only [h2, h4, if_false]
        omega
theorem mulJ_keep (x : Int) (b P : List Int) (i k : Nat) : ∀ j, i + j ≤ k → (mulJ x b P i j).1.getD k 0 = P.getD k 0
  | 0, _ => rfl
  | j + 1, h => by
    simp only [mulJ, getD_set]
    rw [if_neg (by omega)]
    exact mulJ_keep x b P i k j (by omega)
theorem mulI_zero (a b : List Int) (k : Nat) : ∀ i, i + b.length ≤ k → (mulI a b i).getD k 0 = 0
  | 0, _ => by simp only [mulI, List.getD_eq_getElem?_getD, List.getElem?_replicate]; split <;> rfl
  | i + 1, h => by
    simp only [mulI, getD_set]
    rw [if_neg (by omega), mulJ_keep _ _ _ _ _ _ (by omega)]
    exact mulI_zero a b k i (by omega)
theorem mulJ_sum (x : Int) (b P : List Int) (i N : Nat) (hP : P.length = N) : ∀ j, i + j ≤ N → nv (mulJ x b P i j).1 N + (mulJ x b P i j).2 * BB ^ (i + j) = nv P N + x * nv b j * BB ^ i
  | 0, _ => by simp [mulJ, nv]
  | j + 1, h => by
    have ih := mulJ_sum x b P i N hP j (by omega)
    have hl : (mulJ x b P i j).1.length = N := by rw [mulJ_length, hP]
    simp only [mulJ, nv]
    rw [nv_set _ _ _ (by omega), if_pos (by omega), show i + (j + 1) = (i + j) + 1 by omega, Int.pow_succ]
    generalize (mulJ x b P i j).2 = c at *
    generalize hq : (mulJ x b P i j).1.getD (i + j) 0 = q at *
    have hb : BB = 4294967296 := rfl
    have key : (c + (x * b.getD j 0 + q)) % 4294967296 * BB ^ (i + j) + (c + (x * b.getD j 0 + q)) / 4294967296 * (BB ^ (i + j) * BB) = (c + (x * b.getD j 0 + q)) * BB ^ (i + j) := by
      have := Int.emod_add_mul_ediv (c + (x * b.getD j 0 + q)) 4294967296
      generalize (c + (x * b.getD j 0 + q)) / 4294967296 = u at *
      generalize (c + (x * b.getD j 0 + q)) % 4294967296 = r at *
      rw [← this, hb, Int.add_mul, ← Int.mul_assoc, Int.mul_right_comm u, Int.mul_comm u]
    rw [Int.sub_mul]
    have e1 : x * (nv b j + b.getD j 0 * BB ^ j) * BB ^ i = x * nv b j * BB ^ i + x * b.getD j 0 * BB ^ (i + j) := by
      rw [Int.mul_add, Int.add_mul, Int.pow_add, ← Int.mul_assoc x, Int.mul_assoc (x * b.getD j 0), Int.mul_comm (BB ^ j)]
    have e2 : (c + (x * b.getD j 0 + q)) * BB ^ (i + j) = c * BB ^ (i + j) + (x * b.getD j 0 * BB ^ (i + j) + q * BB ^ (i + j)) := by rw [Int.add_mul, Int.add_mul]
    rw [e1]
    rw [e2] at key
    omega
theorem mulI_sum (a b : List Int) : ∀ i, i ≤ a.length → nv (mulI a b i) (a.length + b.length) = nv a i * num b
  | 0, _ => by
    have : ∀ k, nv (mulI a b 0) k = 0 := by
      intro k
      induction k with
      | zero => rfl
      | succ k ih =>
        have : (mulI a b 0).getD k 0 = 0 := by simp only [mulI, List.getD_eq_getElem?_getD, List.getElem?_replicate]; split <;> rfl
        simp only [nv, ih, this]; omega
    rw [this]; simp [nv]
  | i + 1, h => by
    have ih := mulI_sum a b i (by omega)
    have hl := mulI_length a b i
    have hs := mulJ_sum (a.getD i 0) b (mulI a b i) i (a.length + b.length) hl b.length (by omega)
    have hz : (mulJ (a.getD i 0) b (mulI a b i) i b.length).1.getD (i + b.length) 0 = 0 := by
      rw [mulJ_keep _ _ _ _ _ _ (Nat.le_refl _)]; exact mulI_zero a b _ i (Nat.le_refl _)
    simp only [mulI, nv]
    rw [nv_set _ _ _ (by rw [mulJ_length, hl]; omega), if_pos (by omega), hz, Int.sub_zero, hs, ih, Int.add_mul]
    rw [show nv b b.length = num b from rfl, Int.mul_right_comm]
theorem mul_num (a b : List Int) : num (mulI a b a.length) = num a * num b := by
  have := mulI_sum a b a.length (Nat.le_refl _)
  simp only [num, mulI_length] at this ⊢
  exact this
end Go.Proofs.YtjmceapnhmeflaaDoor


/- Contracts: Sub32. -/
namespace Go.Proofs.YtjmceapnhmeflaaDoor
open Go Go.Vh

theorem wrap_nat32 (V : BitVec 32) : IntKind.u32.wrap ((V.toNat : Nat) : Int) = ((V.toNat : Nat) : Int) := by
  have := V.isLt
  rw [IntKind.wrap_u32]; omega
theorem ab_and (a b : Int) : abits .and .u32 a b = (((BitVec.ofInt 32 a &&& BitVec.ofInt 32 b).toNat : Nat) : Int) := wrap_nat32 _
theorem ab_or (a b : Int) : abits .or .u32 a b = (((BitVec.ofInt 32 a ||| BitVec.ofInt 32 b).toNat : Nat) : Int) := wrap_nat32 _
theorem ab_xor (a b : Int) : abits .xor .u32 a b = (((BitVec.ofInt 32 a ^^^ BitVec.ofInt 32 b).toNat : Nat) : Int) := wrap_nat32 _
theorem bv_back (V : BitVec 32) : BitVec.ofInt 32 ((V.toNat : Nat) : Int) = V := by
  rw [BitVec.ofInt_natCast, BitVec.ofNat_toNat, BitVec.setWidth_eq]
theorem msb_at (a : Int) (h0 : 0 ≤ a) (h1 : a ≤ 4294967295) : (BitVec.ofInt 32 a).msb = decide (2147483648 ≤ a) := by
  obtain ⟨m, rfl⟩ : ∃ m : Nat, a = m := ⟨a.toNat, by omega⟩
  rw [BitVec.msb_eq_decide, BitVec.ofInt_natCast, BitVec.toNat_ofNat, Nat.mod_eq_of_lt (by omega)]
  simp only [decide_eq_decide]
  omega
theorem top_bit (V : BitVec 32) : ((V.toNat : Nat) : Int) / 2147483648 = if V.msb = true then 1 else 0 := by
  have h := V.isLt
  rw [BitVec.msb_eq_decide]
  simp only [decide_eq_true_eq]
  split <;> omega

theorem b_and {a b : Int} : abin .and (.int .u32 a) (.int .u32 b) = some (.int .u32 (abits .and .u32 a b)) := rfl
theorem b_or32 {a b : Int} : abin .or (.int .u32 a) (.int .u32 b) = some (.int .u32 (abits .or .u32 a b)) := rfl
theorem b_xor {a b : Int} : abin .xor (.int .u32 a) (.int .u32 b) = some (.int .u32 (abits .xor .u32 a b)) := rfl
theorem p_compl {s : St} {x : Opd} {n : Int} (h : evo s x = .int .u32 n) : ipure (.compl x) s = some (.int .u32 (abits .xor .u32 4294967295 n)) := by
  simp only [ipure, h]; rfl

theorem borrow_eq {x y b : Int} (hx : 0 ≤ x ∧ x ≤ 4294967295) (hy : 0 ≤ y ∧ y ≤ 4294967295) (hb : 0 ≤ b ∧ b ≤ 1) :
    (abits .or .u32 (abits .and .u32 (abits .xor .u32 4294967295 x) y) (abits .and .u32 (abits .xor .u32 4294967295 (abits .xor .u32 x y)) ((x - y - b) % 4294967296))) / 2147483648 = if x < y + b then 1 else 0 := by
  have hd : 0 ≤ (x - y - b) % 4294967296 ∧ (x - y - b) % 4294967296 ≤ 4294967295 := by omega
  simp only [ab_or, ab_and, ab_xor, bv_back, top_bit, BitVec.msb_or, BitVec.msb_and, BitVec.msb_xor]
  have hm : (BitVec.ofInt 32 4294967295).msb = true := by decide
  rw [hm, msb_at x hx.1 hx.2, msb_at y hy.1 hy.2, msb_at _ hd.1 hd.2]
  by_cases h1 : 2147483648 ≤ x <;> by_cases h2 : 2147483648 ≤ y <;> by_cases h3 : 2147483648 ≤ (x - y - b) % 4294967296 <;> simp [h1, h2, h3] <;> omega

theorem sub32_calls {x y b : Int} (hx : 0 ≤ x ∧ x ≤ 4294967295) (hy : 0 ≤ y ∧ y ≤ 4294967295) (hb : 0 ≤ b ∧ b ≤ 1) : ACalls Tryd.prog 126 [.int .u32 x, .int .u32 y, .int .u32 b] [] [] fun v H =>
    v = .tuple [.int .u32 ((x - y - b) % 4294967296), .int .u32 (if x < y + b then 1 else 0)] ∧ H = [] := by
  refine ACalls.body Tryd.func126 ent_sub32 ir_sub32_ok rs_sub32_ok Tryd.ntmps126 (by simp) rfl ?_
  unfold ir_sub32
  have e0 : s0 [.int .u32 x, .int .u32 y, .int .u32 b] 0 = .int .u32 x := rfl
  have e1 : s0 [.int .u32 x, .int .u32 y, .int .u32 b] 1 = .int .u32 y := rfl
  have e2 : s0 [.int .u32 x, .int .u32 y, .int .u32 b] 2 = .int .u32 b := rfl
  have w1 : IntKind.u32.wrap (IntKind.u32.wrap (x - y) - b) = (x - y - b) % 4294967296 := by rw [IntKind.wrap_u32, IntKind.wrap_u32]; omega
  have hs : ∀ n : Int, abin .shr (.int .u32 n) (.int .u64 31) = some (.int .u32 (n / 2147483648)) := fun n => b_shr (n := 31) (by decide)
  simp (disch := omega) only [sS, ↓reduceIte, Nat.reduceEqDiff, Nat.reduceAdd, Nat.reduceMul, Nat.reduceSub, reduceCtorEq, e_none, e_some, e_bindS, e0, e1, e2, w1]
  rw [p_compl (n := x) (by simp only [e_t, e_upd, Nat.reduceEqDiff, ↓reduceIte, e0])]
  simp (disch := omega) only [sS, ↓reduceIte, Nat.reduceEqDiff, Nat.reduceAdd, Nat.reduceMul, Nat.reduceSub, reduceCtorEq, e_none, e_some, e_bindS, e0, e1, e2, w1, b_and, b_or32, b_xor]
  rw [p_compl (n := abits .xor .u32 x y) (by simp only [e_t, e_upd, Nat.reduceEqDiff, ↓reduceIte])]
  simp (disch := omega) only [sS, ↓reduceIte, Nat.reduceEqDiff, Nat.reduceAdd, Nat.reduceMul, Nat.reduceSub, reduceCtorEq, e_none, e_some, e_bindS, e0, e1, e2, w1, b_and, b_or32, b_xor, hs]
  refine ret_keep (by simp) ⟨?_, rfl⟩
  simp only [e_upd, Nat.reduceEqDiff, ↓reduceIte]
  rw [borrow_eq hx hy hb]
end Go.Proofs.YtjmceapnhmeflaaDoor


/- Contracts: mulSmall. -/
namespace Go.Proofs.YtjmceapnhmeflaaDoor
open Go Go.Vh

def msS (a : List Int) (f more : Int) (n : Nat) : Nat → List Int × Int
  | 0 => (List.replicate n 0, more)
  | i + 1 => ((msS a f more n i).1.set i (((msS a f more n i).2 + a.getD i 0 * f) % 4294967296), ((msS a f more n i).2 + a.getD i 0 * f) / 4294967296)
theorem msS_length (a : List Int) (f more : Int) (n : Nat) : ∀ i, (msS a f more n i).1.length = n
  | 0 => by simp [msS]
  | i + 1 => by simp [msS, msS_length a f more n i]
theorem msS_range {a : List Int} {f more : Int} (ha : Limbs a) (hf : 0 ≤ f ∧ f ≤ 4294967295) (hm : 0 ≤ more ∧ more ≤ 4294967295) (n : Nat) : ∀ i, Limbs (msS a f more n i).1 ∧ 0 ≤ (msS a f more n i).2 ∧ (msS a f more n i).2 ≤ 4294967295
  | 0 => ⟨fun j => by
      have : (msS a f more n 0).1.getD j 0 = 0 := by simp only [msS, List.getD_eq_getElem?_getD, List.getElem?_replicate]; split <;> rfl
      rw [this]; omega, hm⟩
  | i + 1 => by
    obtain ⟨h1, h2, h3⟩ := msS_range ha hf hm n i
    have h4 := prod_range (ha i) hf
    simp only [msS]
    generalize a.getD i 0 * f = p at *
    refine ⟨set_limbs h1 _ ?_, ?_, ?_⟩ <;> omega
theorem msS_sum (a : List Int) (f more : Int) {n : Nat} : ∀ i, i ≤ n → nv (msS a f more n i).1 i + (msS a f more n i).2 * BB ^ i = nv a i * f + more
  | 0, _ => by simp [nv, msS]
  | i + 1, h => by
    have ih := msS_sum a f more (n := n) i (by omega)
    have hl := msS_length a f more n i
    simp only [msS, nv]
    rw [getD_set, if_pos ⟨rfl, by omega⟩, Int.pow_succ]
    have e3 : nv ((msS a f more n i).1.set i (((msS a f more n i).2 + a.getD i 0 * f) % 4294967296)) i = nv (msS a f more n i).1 i := nv_congr i fun j hj => by
      rw [getD_set, if_neg (by omega)]
    rw [e3]
    generalize (msS a f more n i).2 = c at *
    have hb : BB = 4294967296 := rfl
    have key : (c + a.getD i 0 * f) % 4294967296 * BB ^ i + (c + a.getD i 0 * f) / 4294967296 * (BB ^ i * BB) = (c + a.getD i 0 * f) * BB ^ i := by
      have := Int.emod_add_mul_ediv (c + a.getD i 0 * f) 4294967296
      generalize (c + a.getD i 0 * f) / 4294967296 = u at *
      generalize (c + a.getD i 0 * f) % 4294967296 = r at *
      rw [← this, hb, Int.add_mul, ← Int.mul_assoc, Int.mul_right_comm u, Int.mul_comm u]
    rw [Int.add_mul c] at key
    rw [Int.add_mul, Int.mul_right_comm (a.getD i 0)]
    omega
def msL (a : List Int) (f more : Int) : List Int := (msS a f more (a.length + 1) a.length).1.set a.length (msS a f more (a.length + 1) a.length).2
theorem msL_length (a : List Int) (f more : Int) : (msL a f more).length = a.length + 1 := by simp [msL, msS_length]
theorem msL_limbs {a : List Int} {f more : Int} (ha : Limbs a) (hf : 0 ≤ f ∧ f ≤ 4294967295) (hm : 0 ≤ more ∧ more ≤ 4294967295) : Limbs (msL a f more) :=
  let ⟨h1, h2⟩ := msS_range ha hf hm (a.length + 1) a.length
  set_limbs h1 _ h2
theorem msL_num (a : List Int) (f more : Int) : num (msL a f more) = num a * f + more := by
  have hs := msS_sum a f more (n := a.length + 1) a.length (by omega)
  have hl := msS_length a f more (a.length + 1) a.length
  simp only [num, msL_length, nv]
  rw [msL, getD_set, if_pos ⟨rfl, by omega⟩]
  have e3 : nv ((msS a f more (a.length + 1) a.length).1.set a.length (msS a f more (a.length + 1) a.length).2) a.length = nv (msS a f more (a.length + 1) a.length).1 a.length := nv_congr _ fun j hj => by
    rw [getD_set, if_neg (by omega)]
  rw [e3]
  exact hs

theorem mulSmall_calls (κ : SK) (a : List Int) (hk : okS κ a.length) (hm : a.length ≤ 1000000) (ha : Limbs a) {f more : Int} (hf : 0 ≤ f ∧ f ≤ 4294967295) (hmo : 0 ≤ more ∧ more ≤ 4294967295) :
    ACalls Tryd.prog 108 [mkS κ 0 0 a.length, .int .u32 f, .int .u32 more] [ro (ints .u32 a)] [0] fun v H =>
      v = mkS (.cap (a.length + 1)) 1 0 (tz (msL a f more) (a.length + 1)) ∧ H = [ro (ints .u32 a), rw_ (ints .u32 (msL a f more))] := by
  refine ACalls.body Tryd.func108 ent_mulSmall ir_mulSmall_ok rs_mulSmall_ok Tryd.ntmps108 (by simp) rfl ?_
  unfold ir_mulSmall
  have e0 : s0 [mkS κ 0 0 a.length, .int .u32 f, .int .u32 more] 0 = mkS κ 0 0 a.length := rfl
  have e1 : s0 [mkS κ 0 0 a.length, .int .u32 f, .int .u32 more] 1 = .int .u32 f := rfl
  have e2 : s0 [mkS κ 0 0 a.length, .int .u32 f, .int .u32 more] 2 = .int .u32 more := rfl
  simp (disch := omega) only [sS, ↓reduceIte, Nat.reduceEqDiff, Nat.reduceAdd, Nat.reduceMul, Nat.reduceSub, reduceCtorEq, e_none, e_some, e_bindS, e0, e1, e2, k_len hk]
  rw [x_make (n := (a.length : Int) + 1) (by simp only [e_t, e_upd, Nat.reduceEqDiff, ↓reduceIte]) (by omega) (by omega) (by omega)]
  have hN : ((a.length : Int) + 1).toNat = a.length + 1 := by omega
  simp (disch := omega) only [sS, ↓reduceIte, Nat.reduceEqDiff, Nat.reduceAdd, Nat.reduceMul, Nat.reduceSub, reduceCtorEq, e_none, e_some, e_bindS, hN, e0, e1, e2, k_len hk]
  refine ⟨fun m s H => ∃ i : Nat, i ≤ a.length ∧ m = a.length - i ∧ s 0 = mkS κ 0 0 a.length ∧ s 1 = .int .u32 f ∧ s 7 = .slice 1 0 (a.length + 1) (a.length + 1) ∧ s 8 = .int .u64 (msS a f more (a.length + 1) i).2 ∧ s 17 = .int .i64 a.length ∧ s 18 = .int .i64 i ∧ H = [ro (ints .u32 a), rw_ (ints .u32 (msS a f more (a.length + 1) i).1)], a.length, ⟨0, by omega, rfl, ?_, ?_, ?_, ?_, ?_, ?_, rfl⟩, ?_⟩
  · simp only [e_upd, Nat.reduceEqDiff, ↓reduceIte, e0]
  · simp only [e_upd, Nat.reduceEqDiff, ↓reduceIte, e1]
  · simp only [e_upd, Nat.reduceEqDiff, ↓reduceIte]; rfl
  · simp only [e_upd, Nat.reduceEqDiff, ↓reduceIte]; rfl
  · simp only [e_upd, Nat.reduceEqDiff, ↓reduceIte]
  · simp only [e_upd, Nat.reduceEqDiff, ↓reduceIte]; rfl
  rintro m s H ⟨i, hi, rfl, h0, h1, h7, h8, h17, h18, rfl⟩
  have hS := msS_length a f more (a.length + 1) i
  obtain ⟨hL, hc⟩ := msS_range ha hf hmo (a.length + 1) i
  by_cases hil : i < a.length
  · have hp := prod_range (ha i) hf
    have hy := ha i
    have e3 : msS a f more (a.length + 1) (i + 1) = ((msS a f more (a.length + 1) i).1.set i (((msS a f more (a.length + 1) i).2 + a.getD i 0 * f) % 4294967296), ((msS a f more (a.length + 1) i).2 + a.getD i 0 * f) / 4294967296) := rfl
    generalize hX : msS a f more (a.length + 1) i = X at *
    obtain ⟨Q, c⟩ := X
    simp only at hL hc hS e3 h8 ⊢
    generalize hpp : a.getD i 0 * f = p at *
    have wt : IntKind.u32.wrap (c + p) = (c + p) % 4294967296 := IntKind.wrap_u32 _
    have hs : abin .shr (.int .u64 (c + p)) (.int .u64 32) = some (.int .u64 ((c + p) / 4294967296)) := b_shr (n := 32) (by decide)
    simp (disch := omega) only [sS, ↓reduceIte, Nat.reduceEqDiff, Nat.reduceAdd, Nat.reduceMul, Nat.reduceSub, reduceCtorEq, e_none, e_some, e_bindS, h0, h1, h7, h8, h17, h18, k_len hk, k_idx hk, hpp, wt, hs]
    rw [x_store (r := 1) (off := i) (k := .u32) (b := (c + p) % 4294967296) (l := Q) (by simp only [e_t, e_upd, Nat.reduceEqDiff, ↓reduceIte]) (by simp only [e_t, e_upd, Nat.reduceEqDiff, ↓reduceIte]) rfl (by omega)]
    simp (disch := omega) only [sS, ↓reduceIte, Nat.reduceEqDiff, Nat.reduceAdd, Nat.reduceMul, Nat.reduceSub, reduceCtorEq, e_none, e_some, e_bindS, h18, hs]
    refine loop_keep (m := a.length - (i + 1)) (by omega) ⟨i + 1, by omega, rfl, ?_, ?_, ?_, ?_, ?_, ?_, ?_⟩
    · simp only [e_upd, Nat.reduceEqDiff, ↓reduceIte, h0]
    · simp only [e_upd, Nat.reduceEqDiff, ↓reduceIte, h1]
    · simp only [e_upd, Nat.reduceEqDiff, ↓reduceIte, h7]
    · rw [e3]; simp only [e_upd, Nat.reduceEqDiff, ↓reduceIte]
    · simp only [e_upd, Nat.reduceEqDiff, ↓reduceIte, h17]
    · simp (disch := omega) only [e_upd, Nat.reduceEqDiff, ↓reduceIte, h18, w64, AV.int.injEq]; simp
    · rw [e3]; rfl
  · obtain rfl : i = a.length := by omega
    have wc : IntKind.u32.wrap (msS a f more (a.length + 1) a.length).2 = (msS a f more (a.length + 1) a.length).2 := by rw [IntKind.wrap_u32]; omega
    simp (disch := omega) only [sS, ↓reduceIte, Nat.reduceEqDiff, Nat.reduceAdd, Nat.reduceMul, Nat.reduceSub, reduceCtorEq, e_none, e_some, e_bindS, h0, h1, h7, h8, h17, h18, k_len hk, wc]
    rw [x_store (r := 1) (off := a.length) (k := .u32) (b := (msS a f more (a.length + 1) a.length).2) (l := (msS a f more (a.length + 1) a.length).1) (by simp only [e_t, e_upd, Nat.reduceEqDiff, ↓reduceIte]) (by simp only [e_t, e_upd, Nat.reduceEqDiff, ↓reduceIte]) rfl (by omega)]
    simp (disch := omega) only [sS, ↓reduceIte, Nat.reduceEqDiff, Nat.reduceAdd, Nat.reduceMul, Nat.reduceSub, reduceCtorEq, e_none, e_some, e_bindS, h7]
    have hml := msL_length a f more
    have ht := xtrim_calls (.cap (a.length + 1)) (msL a f more) (okS_cap (by omega)) (by omega)
    rw [hml] at ht
    refine call_rdS (r := 1) (row := ⟨true, false, ints .u32 (msL a f more)⟩) ht rfl rfl take_all rfl ?_
    simp (disch := omega) only [sS, ↓reduceIte, Nat.reduceEqDiff, Nat.reduceAdd, Nat.reduceMul, Nat.reduceSub, reduceCtorEq, e_none, e_some, e_bindS]
    refine ret_keep (by simp) ⟨?_, rfl⟩
    simp only [e_upd, ↓reduceIte]
end Go.Proofs.YtjmceapnhmeflaaDoor

