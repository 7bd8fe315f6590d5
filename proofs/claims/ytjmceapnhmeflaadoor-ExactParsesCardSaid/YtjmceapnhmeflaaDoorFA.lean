/- Contracts: shifts of limbs. -/
import Derived.Test.YtjmceapnhmeflaaDoorVX
import Derived.Test.YtjmceapnhmeflaaDoorV7
import Derived.Test.YtjmceapnhmeflaaDoorCD
import Derived.Test.YtjmceapnhmeflaaDoorC8
import Derived.Test.YtjmceapnhmeflaaDoorIrB
import Derived.Test.YtjmceapnhmeflaaDoorVY
set_option linter.unusedSimpArgs false
set_option linter.unusedVariables false
-- NEWSET
namespace Go.Proofs.YtjmceapnhmeflaaDoor
open Go Go.Vh

theorem b_orLow {c x n : Nat} (hc : c < 2 ^ n) (h : c + x * 2 ^ n < 2 ^ 64) : abin .or (.int .u64 (c : Int)) (.int .u64 ((x * 2 ^ n : Nat) : Int)) = some (.int .u64 ((c + x * 2 ^ n : Nat) : Int)) := by
  have e2 : (BitVec.ofInt 64 (c : Int) ||| BitVec.ofInt 64 ((x * 2 ^ n : Nat) : Int)).toNat = c + x * 2 ^ n := by
    rw [BitVec.ofInt_natCast, BitVec.ofInt_natCast, BitVec.toNat_or, BitVec.toNat_ofNat, BitVec.toNat_ofNat, Nat.mod_eq_of_lt (by omega), Nat.mod_eq_of_lt (by omega)]
    have := Nat.shiftLeft_add_eq_or_of_lt (b := c) (i := n) hc x
    rw [Nat.shiftLeft_eq] at this
    rw [Nat.or_comm, ← this, Nat.add_comm]
  simp only [abin, aint, abits, if_true]
  congr 2
  rw [show (BitVec.ofInt IntKind.u64.bits (c : Int) ||| BitVec.ofInt IntKind.u64.bits ((x * 2 ^ n : Nat) : Int)).toNat = c + x * 2 ^ n from e2]
  rw [wu64 (by omega) (by omega)]

/-- limbs shifted up: the first i of them, and what is carried -/
def upS (a : List Int) (n : Nat) : Nat → List Int × Nat
  | 0 => (List.replicate (a.length + 1) 0, 0)
  | i + 1 => ((upS a n i).1.set i ((((upS a n i).2 + (a.getD i 0).toNat * 2 ^ n) % 4294967296 : Nat) : Int), ((upS a n i).2 + (a.getD i 0).toNat * 2 ^ n) / 4294967296)
theorem upS_length (a : List Int) (n : Nat) : ∀ i, (upS a n i).1.length = a.length + 1
  | 0 => by simp [upS]
  | i + 1 => by simp [upS, upS_length a n i]
theorem upS_carry {a : List Int} (ha : Limbs a) {n : Nat} (hn : n ≤ 31) : ∀ i, (upS a n i).2 < 2 ^ n
  | 0 => Nat.pow_pos (by omega)
  | i + 1 => by
    have ih := upS_carry ha hn i
    have h1 := ha i
    simp only [upS]
    rw [Nat.div_lt_iff_lt_mul (by omega)]
    have h2 : (a.getD i 0).toNat * 2 ^ n ≤ 4294967295 * 2 ^ n := Nat.mul_le_mul_right _ (by omega)
    omega
theorem upS_limbs {a : List Int} (n : Nat) : ∀ i, Limbs (upS a n i).1
  | 0, j => by
    have : (upS a n 0).1.getD j 0 = 0 := by simp only [upS, List.getD_eq_getElem?_getD, List.getElem?_replicate]; split <;> rfl
    rw [this]; omega
  | i + 1, j => by
    have ih := upS_limbs (a := a) n i j
    simp only [upS, getD_set]
    split
    · omega
    · exact ih
theorem upS_sum {a : List Int} (ha : Limbs a) (n : Nat) : ∀ i, i ≤ a.length → nv (upS a n i).1 i + ((upS a n i).2 : Int) * BB ^ i = nv a i * ((2 ^ n : Nat) : Int)
  | 0, _ => by simp [upS, nv]
  | i + 1, h => by
    have ih := upS_sum ha n i (by omega)
    have hl := upS_length a n i
    have hai := ha i
    have e2 : (upS a n (i + 1)).1.getD i 0 = ((((upS a n i).2 + (a.getD i 0).toNat * 2 ^ n) % 4294967296 : Nat) : Int) := by
      simp only [upS, getD_set, hl]
      rw [if_pos ⟨trivial, by omega⟩]
    have e3 : nv (upS a n (i + 1)).1 i = nv (upS a n i).1 i := nv_congr i fun j hj => by
      simp only [upS, getD_set, hl]
      rw [if_neg (by omega)]
    have e4 : (upS a n (i + 1)).2 = ((upS a n i).2 + (a.getD i 0).toNat * 2 ^ n) / 4294967296 := rfl
    have ex : ((a.getD i 0).toNat : Int) = a.getD i 0 := by omega
    rw [nv, nv, e2, e3, e4, Int.pow_succ]
    generalize (upS a n i).2 = c at *
    generalize (a.getD i 0).toNat = x at *
    rw [← ex]
    obtain ⟨t, ht⟩ : ∃ t, c + x * 2 ^ n = t := ⟨_, rfl⟩
    rw [ht]
    have hdm := Nat.div_add_mod t 4294967296
    have hb : BB = 4294967296 := rfl
    have key : ((t % 4294967296 : Nat) : Int) * BB ^ i + ((t / 4294967296 : Nat) : Int) * (BB ^ i * BB) = (t : Int) * BB ^ i := by
      have e : (t : Int) = ((t % 4294967296 : Nat) : Int) + ((t / 4294967296 : Nat) : Int) * BB := by rw [hb]; omega
      rw [e, Int.add_mul, Int.mul_assoc, Int.mul_comm BB]
      first | done | (congr 2 <;> omega)
    have htI : (t : Int) = (c : Int) + (x : Int) * ((2 ^ n : Nat) : Int) := by rw [← ht]; simp
    rw [htI, Int.add_mul] at key
    rw [Int.add_mul]
    have em : (x : Int) * ((2 ^ n : Nat) : Int) * BB ^ i = (x : Int) * BB ^ i * ((2 ^ n : Nat) : Int) := Int.mul_right_comm _ _ _
    omega
/-- limbs shifted up, with one limb more -/
def upL (a : List Int) (n : Nat) : List Int := (upS a n a.length).1.set a.length ((upS a n a.length).2 : Int)
theorem upL_length (a : List Int) (n : Nat) : (upL a n).length = a.length + 1 := by simp [upL, upS_length]
theorem upL_limbs {a : List Int} (ha : Limbs a) {n : Nat} (hn : n ≤ 31) : Limbs (upL a n) := fun j => by
  have h1 := upS_limbs (a := a) n a.length j
  have h2 := upS_carry ha hn a.length
  have h3 : 2 ^ n ≤ 2 ^ 31 := Nat.pow_le_pow_right (by omega) hn
  simp only [upL, getD_set]
  split
  · omega
  · exact h1
theorem upL_num {a : List Int} (ha : Limbs a) (n : Nat) : num (upL a n) = num a * ((2 ^ n : Nat) : Int) := by
  have h := upS_sum ha n a.length (Nat.le_refl _)
  have hl := upS_length a n a.length
  have e2 : (upL a n).getD a.length 0 = ((upS a n a.length).2 : Int) := by
    simp only [upL, getD_set, hl]
    rw [if_pos ⟨trivial, by omega⟩]
  have e3 : nv (upL a n) a.length = nv (upS a n a.length).1 a.length := nv_congr _ fun j hj => by
    simp only [upL, getD_set, hl]
    rw [if_neg (by omega)]
  simp only [num, upL_length, nv]
  rw [e2, e3, h]

theorem xshiftUp_calls (κ : SK) (a : List Int) (n : Nat) (hk : okS κ a.length) (hm : a.length ≤ 1000000) (ha : Limbs a) (hn : n ≤ 31) : ACalls Tryd.prog 129 [mkS κ 0 0 a.length, .int .i64 (n : Int)] [ro (ints .u32 a)] (List.range 1) fun v H =>
    v = .slice 1 0 (a.length + 1) (a.length + 1) ∧ H = [ro (ints .u32 a), rw_ (ints .u32 (upL a n))] := by
  refine ACalls.body Tryd.func129 ent_shiftUp ir_shiftUp_ok rs_shiftUp_ok Tryd.ntmps129 (by simp) rfl ?_
  unfold ir_shiftUp
  have e0 : s0 [mkS κ 0 0 a.length, .int .i64 (n : Int)] 0 = mkS κ 0 0 a.length := rfl
  have e1 : s0 [mkS κ 0 0 a.length, .int .i64 (n : Int)] 1 = .int .i64 n := rfl
  have hpn : 2 ^ n ≤ 2147483648 := Nat.le_trans (Nat.pow_le_pow_right (by omega) hn) (by decide)
  have hLI : (a.length : Int) + 1 = ((a.length + 1 : Nat) : Int) := by omega
  simp -implicitDefEqProofs (disch := omega) only [sN, ↓reduceIte, Nat.reduceEqDiff, Nat.reduceAdd, Nat.reduceMul, Nat.reduceSub, reduceCtorEq, e_none, e_some, e_bindS, e0, e1, k_len hk, hLI]
  rw [x_make (n := ((a.length + 1 : Nat) : Int)) (by simp only [e_upd, e_putS, e_putN, e_t, e_c, Nat.reduceEqDiff, ↓reduceIte, reduceCtorEq, Nat.reduceAdd]) (by omega) (by omega) (by omega)]
  simp -implicitDefEqProofs (disch := omega) only [sN, ↓reduceIte, Nat.reduceEqDiff, Nat.reduceAdd, Nat.reduceMul, Nat.reduceSub, reduceCtorEq, e_none, e_some, e_bindS, e0, e1, k_len hk]
  refine ⟨fun m s H => ∃ i : Nat, m = a.length - i ∧ i ≤ a.length ∧ s 0 = mkS κ 0 0 a.length ∧ s 1 = .int .i64 (n : Int) ∧ s 5 = .slice 1 0 (a.length + 1) (a.length + 1) ∧ s 6 = .int .u64 ((upS a n i).2 : Int) ∧ s 13 = .int .i64 a.length ∧ s 14 = .int .i64 (i : Int) ∧ H = [ro (ints .u32 a), rw_ (ints .u32 (upS a n i).1)], a.length, ⟨0, rfl, by omega, ?_, ?_, ?_, ?_, ?_, ?_, rfl⟩, ?_⟩
  · simp only [e_upd, e_putS, e_putN, e_t, e_c, Nat.reduceEqDiff, ↓reduceIte, reduceCtorEq, Nat.reduceAdd, e0]
  · simp only [e_upd, e_putS, e_putN, e_t, e_c, Nat.reduceEqDiff, ↓reduceIte, reduceCtorEq, Nat.reduceAdd, e1]
  · simp only [e_upd, e_putS, e_putN, e_t, e_c, Nat.reduceEqDiff, ↓reduceIte, reduceCtorEq, Nat.reduceAdd]; rfl
  · simp only [e_upd, e_putS, e_putN, e_t, e_c, Nat.reduceEqDiff, ↓reduceIte, reduceCtorEq, Nat.reduceAdd]; rfl
  · simp only [e_upd, e_putS, e_putN, e_t, e_c, Nat.reduceEqDiff, ↓reduceIte, reduceCtorEq, Nat.reduceAdd]
  · simp only [e_upd, e_putS, e_putN, e_t, e_c, Nat.reduceEqDiff, ↓reduceIte, reduceCtorEq, Nat.reduceAdd]; rfl
  rintro m s H ⟨i, rfl, hi, h0, h1, h5, h6, h13, h14, rfl⟩
  have hl := upS_length a n i
  have hcar := upS_carry ha hn i
  by_cases hlt : i < a.length
  · have ia : aindexAddr 1 (mkS κ 0 0 a.length) (.int .i64 (i : Int)) = some (.ptr 0 i) := by
      rw [k_idx hk (Nat.le_refl _) (by omega) (by omega)]; simp
    have hai := ha i
    obtain ⟨x, hx⟩ : ∃ x : Nat, (a.getD i 0).toNat = x := ⟨_, rfl⟩
    have hxI : a.getD i 0 = (x : Int) := by omega
    have hx1 : x ≤ 4294967295 := by omega
    have ga : (ints .u32 a)[i]? = some (.int .u32 (x : Int)) := by rw [ints_get (by omega), hxI]
    have hnx : upS a n (i + 1) = ((upS a n i).1.set i ((((upS a n i).2 + x * 2 ^ n) % 4294967296 : Nat) : Int), ((upS a n i).2 + x * 2 ^ n) / 4294967296) := by rw [← hx]; rfl
    have hmul : x * 2 ^ n ≤ 4294967295 * 2147483648 := Nat.mul_le_mul hx1 hpn
    have hshl : abin .shl (.int .u64 (x : Int)) (.int .i64 (n : Int)) = some (.int .u64 ((x * 2 ^ n : Nat) : Int)) := by
      simp only [abin, ashift]
      have hbits : IntKind.u64.bits = 64 := rfl
      rw [if_neg (by omega), hbits, Int.toNat_natCast, Nat.min_eq_left (by omega), wu64 (by rw [show (x : Int) * 2 ^ n = ((x * 2 ^ n : Nat) : Int) by simp]; omega) (by rw [show (x : Int) * 2 ^ n = ((x * 2 ^ n : Nat) : Int) by simp]; omega)]
      simp
    generalize (upS a n i).2 = c at *
    have hor := b_orLow (c := c) (x := x) (n := n) hcar (by omega)
    obtain ⟨t, ht⟩ : ∃ t, c + x * 2 ^ n = t := ⟨_, rfl⟩
    rw [ht] at hnx hor
    have hw : IntKind.u32.wrap (t : Int) = ((t % 4294967296 : Nat) : Int) := by rw [IntKind.wrap_u32]; omega
    have hshr : abin .shr (.int .u64 (t : Int)) (.int .u64 32) = some (.int .u64 ((t / 4294967296 : Nat) : Int)) := by
      have := b_shrN (k' := .u64) (x := t) (n := 32) (by omega)
      exact this
    have iu : aindexAddr 1 (.slice 1 0 (a.length + 1) (a.length + 1)) (.int .i64 (i : Int)) = some (.ptr 1 i) := by
      rw [a_idx (by omega) (by omega)]; simp
    simp -implicitDefEqProofs (disch := omega) only [sN, ↓reduceIte, Nat.reduceEqDiff, Nat.reduceAdd, Nat.reduceMul, Nat.reduceSub, reduceCtorEq, e_none, e_some, e_bindS, h0, h1, h5, h6, h13, h14, ia, ga, hshl, hor, hw, iu]
    rw [x_store (r := 1) (off := i) (k := .u32) (b := ((t % 4294967296 : Nat) : Int)) (l := (upS a n i).1) (by simp only [e_upd, e_putS, e_putN, e_t, e_c, Nat.reduceEqDiff, ↓reduceIte, reduceCtorEq, Nat.reduceAdd]) (by simp only [e_upd, e_putS, e_putN, e_t, e_c, Nat.reduceEqDiff, ↓reduceIte, reduceCtorEq, Nat.reduceAdd]) rfl (by omega)]
    simp -implicitDefEqProofs (disch := omega) only [sN, ↓reduceIte, Nat.reduceEqDiff, Nat.reduceAdd, Nat.reduceMul, Nat.reduceSub, reduceCtorEq, e_none, e_some, e_bindS, h0, h1, h5, h6, h13, h14, List.set_cons_succ, List.set_cons_zero, hshr]
    refine loop_keep (m := a.length - (i + 1)) (by omega) ⟨i + 1, rfl, by omega, ?_, ?_, ?_, ?_, ?_, ?_, ?_⟩
    · simp only [e_upd, e_putS, e_putN, e_t, e_c, Nat.reduceEqDiff, ↓reduceIte, reduceCtorEq, Nat.reduceAdd, h0]
    · simp only [e_upd, e_putS, e_putN, e_t, e_c, Nat.reduceEqDiff, ↓reduceIte, reduceCtorEq, Nat.reduceAdd, h1]
    · simp only [e_upd, e_putS, e_putN, e_t, e_c, Nat.reduceEqDiff, ↓reduceIte, reduceCtorEq, Nat.reduceAdd, h5]
    · simp only [e_upd, e_putS, e_putN, e_t, e_c, Nat.reduceEqDiff, ↓reduceIte, reduceCtorEq, Nat.reduceAdd, hnx]
    · simp only [e_upd, e_putS, e_putN, e_t, e_c, Nat.reduceEqDiff, ↓reduceIte, reduceCtorEq, Nat.reduceAdd, h13]
    · simp only [e_upd, e_putS, e_putN, e_t, e_c, Nat.reduceEqDiff, ↓reduceIte, reduceCtorEq, Nat.reduceAdd]; rfl
    · rw [hnx]
  · obtain rfl : i = a.length := by omega
    have hc1 : (upS a n a.length).2 ≤ 4294967295 := by omega
    have iu : aindexAddr 1 (.slice 1 0 (a.length + 1) (a.length + 1)) (.int .i64 (a.length : Int)) = some (.ptr 1 a.length) := by
      rw [a_idx (by omega) (by omega)]; simp
    have hup : upL a n = (upS a n a.length).1.set a.length ((upS a n a.length).2 : Int) := rfl
    generalize (upS a n a.length).2 = c at *
    simp -implicitDefEqProofs (disch := omega) only [sN, ↓reduceIte, Nat.reduceEqDiff, Nat.reduceAdd, Nat.reduceMul, Nat.reduceSub, reduceCtorEq, e_none, e_some, e_bindS, h0, h1, h5, h6, h13, h14, k_len hk, iu]
    rw [x_store (r := 1) (off := a.length) (k := .u32) (b := (c : Int)) (l := (upS a n a.length).1) (by simp only [e_upd, e_putS, e_putN, e_t, e_c, Nat.reduceEqDiff, ↓reduceIte, reduceCtorEq, Nat.reduceAdd]) (by simp only [e_upd, e_putS, e_putN, e_t, e_c, Nat.reduceEqDiff, ↓reduceIte, reduceCtorEq, Nat.reduceAdd]) rfl (by omega)]
    simp -implicitDefEqProofs (disch := omega) only [sN, ↓reduceIte, Nat.reduceEqDiff, Nat.reduceAdd, Nat.reduceMul, Nat.reduceSub, reduceCtorEq, e_none, e_some, e_bindS, h0, h1, h5, h6, List.set_cons_succ, List.set_cons_zero]
    refine ret_keep (by simp) ⟨?_, ?_⟩
    · simp only [e_upd, e_putS, e_putN, e_t, e_c, Nat.reduceEqDiff, ↓reduceIte, reduceCtorEq, Nat.reduceAdd]
    · rw [hup]
end Go.Proofs.YtjmceapnhmeflaaDoor


/- Contracts: limbs shifted down. -/
-- NEWSET
namespace Go.Proofs.YtjmceapnhmeflaaDoor
open Go Go.Vh

theorem nvb_cons (x : Int) (l : List Int) : ∀ k, nv (x :: l) (k + 1) = x + BB * nv l k
  | 0 => by simp [nv]
  | k + 1 => by
    have ih := nvb_cons x l k
    rw [nv, ih, nv, Int.pow_succ]
    have e : (x :: l).getD (k + 1) 0 = l.getD k 0 := by simp
    rw [e, Int.mul_add, Int.mul_comm BB (l.getD k 0 * BB ^ k), Int.mul_assoc]
    omega
theorem numb_cons (x : Int) (l : List Int) : num (x :: l) = x + BB * num l := by
  simp only [num, List.length_cons]; exact nvb_cons x l l.length
theorem limbs_drop {l : List Int} (h : Limbs l) (i : Nat) : Limbs (l.drop i) := fun j => by
  have := h (i + j)
  simpa [List.getD_eq_getElem?_getD, List.getElem?_drop] using this
/-- the number of the limbs from i on -/
def upB (a : List Int) (i : Nat) : Nat := (num (a.drop i)).toNat
theorem upB_num {a : List Int} (h : Limbs a) (i : Nat) : num (a.drop i) = (upB a i : Int) := by
  have := num_nonneg (limbs_drop h i)
  simp only [upB]; omega
theorem upB_over {a : List Int} {i : Nat} (h : a.length ≤ i) : upB a i = 0 := by
  simp [upB, List.drop_eq_nil_of_le h, num, nv]
theorem dropB_getD {a : List Int} {i : Nat} (h : i < a.length) : a.drop i = a.getD i 0 :: a.drop (i + 1) := by
  rw [List.drop_eq_getElem_cons h]
  congr 1
  simp [List.getD_eq_getElem?_getD, h]
theorem upB_step {a : List Int} (ha : Limbs a) (i : Nat) : upB a i = (a.getD i 0).toNat + 4294967296 * upB a (i + 1) := by
  rcases Nat.lt_or_ge i a.length with h | h
  · have h1 := upB_num ha i
    rw [dropB_getD h, numb_cons, upB_num ha (i + 1), show BB = 4294967296 from rfl] at h1
    have := ha i
    omega
  · rw [upB_over h, upB_over (by omega), List.getD_eq_getElem?_getD, List.getElem?_eq_none h]; rfl
/-- a limb of the number shifted down -/
def dnD (a : List Int) (n i : Nat) : Nat := (((a.getD (i + 1) 0).toNat * 4294967296 + (a.getD i 0).toNat) / 2 ^ n) % 4294967296
theorem dn_step {a : List Int} (ha : Limbs a) {n : Nat} (hn : n ≤ 31) (i : Nat) : upB a i / 2 ^ n = dnD a n i + 4294967296 * (upB a (i + 1) / 2 ^ n) := by
  have hp : 0 < 2 ^ n := Nat.pow_pos (by omega)
  obtain ⟨w, hw⟩ : ∃ w, 4294967296 = 2 ^ n * w := ⟨2 ^ (32 - n), by rw [← Nat.pow_add, show n + (32 - n) = 32 by omega]⟩
  have h1 := upB_step ha i
  have h2 := upB_step ha (i + 1)
  have a1 := ha i
  have a2 := ha (i + 1)
  unfold dnD
  rw [h1]
  have hx : (a.getD i 0).toNat < 4294967296 := by omega
  generalize (a.getD i 0).toNat = x at *
  have hy : (a.getD (i + 1) 0).toNat < 4294967296 := by omega
  generalize (a.getD (i + 1) 0).toNat = y at *
  generalize upB a (i + 1) = u at *
  generalize upB a (i + 1 + 1) = v at *
  generalize 2 ^ n = m at *
  have hum : u % m = y % m := by
    rw [h2, hw, Nat.mul_assoc, Nat.add_mul_mod_self_left]
  have hu := Nat.div_add_mod u m
  have hyd := Nat.div_add_mod y m
  have hr := Nat.mod_lt y hp
  have e1 : x + 4294967296 * u = m * (4294967296 * (u / m)) + (x + 4294967296 * (y % m)) := by
    have : 4294967296 * u = 4294967296 * (m * (u / m)) + 4294967296 * (y % m) := by rw [← hum]; omega
    rw [this, Nat.mul_left_comm]; omega
  have e2 : y * 4294967296 + x = m * (4294967296 * (y / m)) + (x + 4294967296 * (y % m)) := by
    have : y * 4294967296 = 4294967296 * (m * (y / m)) + 4294967296 * (y % m) := by omega
    rw [this, Nat.mul_left_comm]; omega
  have hlt : (x + 4294967296 * (y % m)) / m < 4294967296 := by
    rw [Nat.div_lt_iff_lt_mul hp]
    have : 4294967296 * (y % m) ≤ 4294967296 * (m - 1) := Nat.mul_le_mul_left _ (by omega)
    rw [Nat.mul_sub, Nat.mul_one] at this
    have h4 : 4294967296 ≤ 4294967296 * m := Nat.le_mul_of_pos_right _ hp
    omega
  rw [e1, e2, Nat.mul_add_div hp, Nat.mul_add_div hp, Nat.add_comm (4294967296 * (y / m)), Nat.add_mul_mod_self_left, Nat.mod_eq_of_lt hlt]
  omega
/-- the limbs shifted down: the first i of them -/
def dnL (a : List Int) (n i : Nat) : List Int := (List.range a.length).map fun j => if j < i then (dnD a n j : Int) else 0
theorem dnL_length {a : List Int} {n i : Nat} : (dnL a n i).length = a.length := by simp [dnL]
theorem dnL_get {a : List Int} {n i j : Nat} (h : j < a.length) : (dnL a n i).getD j 0 = if j < i then (dnD a n j : Int) else 0 := by simp [dnL, h]
theorem dnL_zero {a : List Int} {n : Nat} : dnL a n 0 = List.replicate a.length 0 := by
  apply List.ext_getElem <;> simp [dnL]
theorem dnL_set {a : List Int} {n i : Nat} (h : i < a.length) : (dnL a n i).set i (dnD a n i : Int) = dnL a n (i + 1) := by
  apply List.ext_getElem
  · simp [dnL_length]
  · intro j h1 h2
    rw [dnL_length] at h2
    simp only [List.getElem_set]
    split
    · rename_i e; subst e; simp [dnL]
    · rename_i e
      simp only [dnL, List.getElem_map, List.getElem_range]
      by_cases h3 : j < i
      · rw [if_pos h3, if_pos (by omega)]
      · rw [if_neg h3, if_neg (by omega)]
theorem dnL_limbs {a : List Int} {n i : Nat} : Limbs (dnL a n i) := fun j => by
  rcases Nat.lt_or_ge j a.length with h | h
  · rw [dnL_get h]
    have : dnD a n j < 4294967296 := Nat.mod_lt _ (by omega)
    split <;> omega
  · rw [List.getD_eq_getElem?_getD, List.getElem?_eq_none (by rw [dnL_length]; exact h)]; simp
theorem dnL_num {a : List Int} (ha : Limbs a) {n : Nat} (hn : n ≤ 31) : num (dnL a n a.length) = ((upB a 0 / 2 ^ n : Nat) : Int) := by
  have key : ∀ k, k ≤ a.length → num ((dnL a n a.length).drop (a.length - k)) = ((upB a (a.length - k) / 2 ^ n : Nat) : Int) := by
    intro k
    induction k with
    | zero =>
      intro _
      rw [Nat.sub_zero, List.drop_eq_nil_of_le (by rw [dnL_length]; omega), upB_over (Nat.le_refl _)]
      simp [num, nv]
    | succ k ih =>
      intro hk
      have hi : a.length - (k + 1) < a.length := by omega
      have e : a.length - (k + 1) + 1 = a.length - k := by omega
      rw [dropB_getD (by rw [dnL_length]; exact hi), numb_cons, e, ih (by omega), dn_step ha hn (a.length - (k + 1)), dnL_get hi, if_pos hi, e, show BB = 4294967296 from rfl]
      omega
  have := key a.length (Nat.le_refl _)
  rwa [Nat.sub_self, List.drop_zero] at this

theorem xshiftDown_calls (κ : SK) (a : List Int) (n : Nat) (hk : okS κ a.length) (hm : a.length ≤ 1000000) (ha : Limbs a) (hn : n ≤ 31) : ACalls Tryd.prog 131 [mkS κ 0 0 a.length, .int .i64 (n : Int)] [ro (ints .u32 a)] (List.range 1) fun v H =>
    v = mkS (.cap a.length) 1 0 (tz (dnL a n a.length) a.length) ∧ H = [ro (ints .u32 a), rw_ (ints .u32 (dnL a n a.length))] := by
  refine ACalls.body Tryd.func131 ent_shiftDown ir_shiftDown_ok rs_shiftDown_ok Tryd.ntmps131 (by simp) rfl ?_
  unfold ir_shiftDown
  have e0 : s0 [mkS κ 0 0 a.length, .int .i64 (n : Int)] 0 = mkS κ 0 0 a.length := rfl
  have e1 : s0 [mkS κ 0 0 a.length, .int .i64 (n : Int)] 1 = .int .i64 n := rfl
  simp -implicitDefEqProofs (disch := omega) only [sN, ↓reduceIte, Nat.reduceEqDiff, Nat.reduceAdd, Nat.reduceMul, Nat.reduceSub, reduceCtorEq, e_none, e_some, e_bindS, e0, e1, k_len hk]
  rw [x_make (n := (a.length : Int)) (by simp only [e_upd, e_putS, e_putN, e_t, e_c, Nat.reduceEqDiff, ↓reduceIte, reduceCtorEq, Nat.reduceAdd]) (by omega) (by omega) (by omega)]
  simp -implicitDefEqProofs (disch := omega) only [sN, ↓reduceIte, Nat.reduceEqDiff, Nat.reduceAdd, Nat.reduceMul, Nat.reduceSub, reduceCtorEq, e_none, e_some, e_bindS, e0, e1, k_len hk]
  refine ⟨fun m s H => ∃ i : Nat, m = a.length - i ∧ i ≤ a.length ∧ s 0 = mkS κ 0 0 a.length ∧ s 1 = .int .i64 (n : Int) ∧ s 5 = .slice 1 0 a.length a.length ∧ s 12 = .int .i64 a.length ∧ s 13 = .int .i64 (i : Int) ∧ H = [ro (ints .u32 a), rw_ (ints .u32 (dnL a n i))], a.length, ⟨0, rfl, by omega, ?_, ?_, ?_, ?_, ?_, ?_⟩, ?_⟩
  · simp only [e_upd, e_putS, e_putN, e_t, e_c, Nat.reduceEqDiff, ↓reduceIte, reduceCtorEq, Nat.reduceAdd, e0]
  · simp only [e_upd, e_putS, e_putN, e_t, e_c, Nat.reduceEqDiff, ↓reduceIte, reduceCtorEq, Nat.reduceAdd, e1]
  · simp only [e_upd, e_putS, e_putN, e_t, e_c, Nat.reduceEqDiff, ↓reduceIte, reduceCtorEq, Nat.reduceAdd, nat_toNat]; rfl
  · simp only [e_upd, e_putS, e_putN, e_t, e_c, Nat.reduceEqDiff, ↓reduceIte, reduceCtorEq, Nat.reduceAdd]
  · simp only [e_upd, e_putS, e_putN, e_t, e_c, Nat.reduceEqDiff, ↓reduceIte, reduceCtorEq, Nat.reduceAdd]; rfl
  · rw [dnL_zero]; rfl
  rintro m s H ⟨i, rfl, hi, h0, h1, h5, h12, h13, rfl⟩
  by_cases hlt : i < a.length
  · have ia : aindexAddr 1 (mkS κ 0 0 a.length) (.int .i64 (i : Int)) = some (.ptr 0 i) := by
      rw [k_idx hk (Nat.le_refl _) (by omega) (by omega)]; simp
    have iu : aindexAddr 1 (.slice 1 0 a.length a.length) (.int .i64 (i : Int)) = some (.ptr 1 i) := by
      rw [a_idx (by omega) (by omega)]; simp
    have hai := ha i
    have hai1 := ha (i + 1)
    have hgoal : dnD a n i = (((a.getD (i + 1) 0).toNat * 4294967296 + (a.getD i 0).toNat) / 2 ^ n) % 4294967296 := rfl
    obtain ⟨x, hx⟩ : ∃ x : Nat, (a.getD i 0).toNat = x := ⟨_, rfl⟩
    obtain ⟨y, hy⟩ : ∃ y : Nat, (a.getD (i + 1) 0).toNat = y := ⟨_, rfl⟩
    have hxI : a.getD i 0 = (x : Int) := by omega
    have hyI : a.getD (i + 1) 0 = (y : Int) := by omega
    rw [hx, hy] at hgoal
    have ga : (ints .u32 a)[i]? = some (.int .u32 (x : Int)) := by rw [ints_get (by omega), hxI]
    have hlimb := limb_calls κ a hk (by omega) (i + 1) (by omega)
    rw [hyI] at hlimb
    have hiI : (i : Int) + 1 = ((i + 1 : Nat) : Int) := by omega
    simp -implicitDefEqProofs (disch := omega) only [sN, ↓reduceIte, Nat.reduceEqDiff, Nat.reduceAdd, Nat.reduceMul, Nat.reduceSub, reduceCtorEq, e_none, e_some, e_bindS, h0, h1, h5, h12, h13, ia, ga, hiI]
    refine call_rdI0 (r := 0) (row := ⟨false, false, ints .u32 a⟩) hlimb rfl rfl take_all rfl (fun _ => rfl) ?_
    have hshl : abin .shl (.int .u64 (y : Int)) (.int .u64 32) = some (.int .u64 ((y : Int) * 4294967296)) := by
      simp only [abin, ashift]
      have hbits : IntKind.u64.bits = 64 := rfl
      rw [if_neg (by omega), hbits, show min ((32 : Int).toNat) 64 = 32 from rfl, wu64 (by omega) (by omega)]
      rfl
    have hor := b_or (a := (y : Int)) (b := (x : Int)) (by omega) (by omega) (by omega) (by omega)
    obtain ⟨t, ht⟩ : ∃ t, y * 4294967296 + x = t := ⟨_, rfl⟩
    have htI : (y : Int) * 4294967296 + (x : Int) = (t : Int) := by omega
    rw [htI] at hor
    rw [ht] at hgoal
    have hshr : abin .shr (.int .u64 (t : Int)) (.int .i64 (n : Int)) = some (.int .u64 ((t / 2 ^ n : Nat) : Int)) := b_shrN (k' := .i64) (x := t) (n := n) (by omega)
    have hw : IntKind.u32.wrap ((t / 2 ^ n : Nat) : Int) = ((dnD a n i : Nat) : Int) := by rw [IntKind.wrap_u32, hgoal]; omega
    simp -implicitDefEqProofs (disch := omega) only [sN, ↓reduceIte, Nat.reduceEqDiff, Nat.reduceAdd, Nat.reduceMul, Nat.reduceSub, reduceCtorEq, e_none, e_some, e_bindS, h0, h1, h5, h12, h13, hshl, hor, hshr, hw, iu]
    rw [x_store (r := 1) (off := i) (k := .u32) (b := ((dnD a n i : Nat) : Int)) (l := dnL a n i) (by simp only [e_upd, e_putS, e_putN, e_t, e_c, Nat.reduceEqDiff, ↓reduceIte, reduceCtorEq, Nat.reduceAdd]) (by simp only [e_upd, e_putS, e_putN, e_t, e_c, Nat.reduceEqDiff, ↓reduceIte, reduceCtorEq, Nat.reduceAdd]) rfl (by rw [dnL_length]; exact hlt), dnL_set hlt]
    simp -implicitDefEqProofs (disch := omega) only [sN, ↓reduceIte, Nat.reduceEqDiff, Nat.reduceAdd, Nat.reduceMul, Nat.reduceSub, reduceCtorEq, e_none, e_some, e_bindS, h0, h1, h5, h12, h13, List.set_cons_succ, List.set_cons_zero]
    refine loop_keep (m := a.length - (i + 1)) (by omega) ⟨i + 1, rfl, by omega, ?_, ?_, ?_, ?_, ?_, rfl⟩
    · simp only [e_upd, e_putS, e_putN, e_t, e_c, Nat.reduceEqDiff, ↓reduceIte, reduceCtorEq, Nat.reduceAdd, h0]
    · simp only [e_upd, e_putS, e_putN, e_t, e_c, Nat.reduceEqDiff, ↓reduceIte, reduceCtorEq, Nat.reduceAdd, h1]
    · simp only [e_upd, e_putS, e_putN, e_t, e_c, Nat.reduceEqDiff, ↓reduceIte, reduceCtorEq, Nat.reduceAdd, h5]
    · simp only [e_upd, e_putS, e_putN, e_t, e_c, Nat.reduceEqDiff, ↓reduceIte, reduceCtorEq, Nat.reduceAdd, h12]
    · simp only [e_upd, e_putS, e_putN, e_t, e_c, Nat.reduceEqDiff, ↓reduceIte, reduceCtorEq, Nat.reduceAdd]; first | done | rfl | (congr 1)
  · obtain rfl : i = a.length := by omega
    have hl := dnL_length (a := a) (n := n) (i := a.length)
    have hc := xtrim_calls (.cap a.length) (dnL a n a.length) (show a.length ≥ (dnL a n a.length).length by omega) (by omega)
    rw [hl] at hc
    simp -implicitDefEqProofs (disch := omega) only [sN, ↓reduceIte, Nat.reduceEqDiff, Nat.reduceAdd, Nat.reduceMul, Nat.reduceSub, reduceCtorEq, e_none, e_some, e_bindS, h0, h1, h5, h12, h13]
    refine call_rdS (κ := .cap a.length) (n := a.length) (l := dnL a n a.length) (r := 1) (row := ⟨true, false, ints .u32 (dnL a n a.length)⟩) hc rfl rfl (by rw [← ints_length (k := .u32) (l := dnL a n a.length), List.take_length]) rfl ?_
    simp -implicitDefEqProofs (disch := omega) only [sN, ↓reduceIte, Nat.reduceEqDiff, Nat.reduceAdd, Nat.reduceMul, Nat.reduceSub, reduceCtorEq, e_none, e_some, e_bindS]
    refine ret_keep (by simp) ⟨?_, rfl⟩
    simp only [e_upd, e_putS, e_putN, e_t, e_c, Nat.reduceEqDiff, ↓reduceIte, reduceCtorEq, Nat.reduceAdd]
end Go.Proofs.YtjmceapnhmeflaaDoor


/- Contracts: a multiple is taken from limbs, and given back. -/
-- NEWSET
namespace Go.Proofs.YtjmceapnhmeflaaDoor
open Go Go.Vh

theorem nv_setAt (l : List Int) {i : Nat} (h : i < l.length) (x : Int) : nv (l.set i x) (i + 1) = nv l i + x * BB ^ i := by
  rw [nv, getD_set, if_pos ⟨rfl, h⟩, nv_congr (l := l.set i x) (l' := l) i fun j hj => by rw [getD_set, if_neg (by omega)]]

/-- D times d taken from W: i limbs; what is carried, what is borrowed -/
def ttW (W D : List Int) (d : Int) : Nat → List Int × Int × Int
  | 0 => (W, 0, 0)
  | i + 1 => ((ttW W D d i).1.set i ((W.getD i 0 - ((ttW W D d i).2.1 + D.getD i 0 * d) % 4294967296 - (ttW W D d i).2.2) % 4294967296), ((ttW W D d i).2.1 + D.getD i 0 * d) / 4294967296,
      if W.getD i 0 < ((ttW W D d i).2.1 + D.getD i 0 * d) % 4294967296 + (ttW W D d i).2.2 then 1 else 0)
theorem ttW_length (W D : List Int) (d : Int) : ∀ i, (ttW W D d i).1.length = W.length
  | 0 => rfl
  | i + 1 => by simp [ttW, ttW_length W D d i]
theorem ttW_rest (W D : List Int) (d : Int) : ∀ i j, i ≤ j → (ttW W D d i).1.getD j 0 = W.getD j 0
  | 0, _, _ => rfl
  | i + 1, j, h => by
    simp only [ttW, getD_set]
    rw [if_neg (by omega)]
    exact ttW_rest W D d i j (by omega)
theorem ttW_range {W D : List Int} {d : Int} (hD : Limbs D) (hd : 0 ≤ d ∧ d ≤ 4294967295) : ∀ i, 0 ≤ (ttW W D d i).2.1 ∧ (ttW W D d i).2.1 ≤ 4294967295 ∧ 0 ≤ (ttW W D d i).2.2 ∧ (ttW W D d i).2.2 ≤ 1
  | 0 => by simp [ttW]
  | i + 1 => by
    obtain ⟨h1, h2, h3, h4⟩ := ttW_range (W := W) hD hd i
    obtain ⟨p1, p2⟩ := prod_range (hD i) hd
    simp only [ttW]
    refine ⟨?_, ?_, ?_, ?_⟩
    · omega
    · omega
    · split <;> omega
    · split <;> omega
theorem ttW_limbs {W D : List Int} {d : Int} (hW : Limbs W) : ∀ i, Limbs (ttW W D d i).1
  | 0 => hW
  | i + 1 => fun j => by
    have := ttW_limbs (D := D) (d := d) hW i j
    simp only [ttW, getD_set]
    split
    · omega
    · exact this
theorem ttW_sum {W D : List Int} {d : Int} (hW : Limbs W) (hD : Limbs D) (hd : 0 ≤ d ∧ d ≤ 4294967295) : ∀ i, i ≤ W.length → nv (ttW W D d i).1 i = nv W i - nv D i * d + (ttW W D d i).2.1 * BB ^ i + (ttW W D d i).2.2 * BB ^ i
  | 0, _ => by simp [ttW, nv]
  | i + 1, h => by
    have ih := ttW_sum hW hD hd i (by omega)
    have hl := ttW_length W D d i
    obtain ⟨h1, h2, h3, h4⟩ := ttW_range (W := W) hD hd i
    obtain ⟨p1, p2⟩ := prod_range (hD i) hd
    have hw := hW i
    have e : (ttW W D d (i + 1)).1 = (ttW W D d i).1.set i ((W.getD i 0 - ((ttW W D d i).2.1 + D.getD i 0 * d) % 4294967296 - (ttW W D d i).2.2) % 4294967296) := rfl
    rw [e, nv_setAt _ (by omega), ih, nv, nv, Int.add_mul]
    simp only [ttW]
    rw [Int.pow_succ]
    generalize (ttW W D d i).2.1 = c at *
    generalize (ttW W D d i).2.2 = b at *
    generalize W.getD i 0 = x at *
    have ep : D.getD i 0 * BB ^ i * d = D.getD i 0 * d * BB ^ i := Int.mul_right_comm _ _ _
    rw [ep]
    generalize D.getD i 0 * d = p at *
    have hb : BB = 4294967296 := rfl
    generalize hP : BB ^ i = P
    have key : (x - (c + p) % 4294967296 - b) % 4294967296 = x - (c + p) % 4294967296 - b + (if x < (c + p) % 4294967296 + b then 1 else 0) * 4294967296 := by
      split <;> omega
    rw [key]
    generalize (if x < (c + p) % 4294967296 + b then (1 : Int) else 0) = b' at *
    have e2 : (c + p) / 4294967296 * (P * BB) = (c + p - (c + p) % 4294967296) * P := by
      rw [hb, Int.mul_comm P, ← Int.mul_assoc]
      congr 1; omega
    have e3 : b' * (P * BB) = b' * 4294967296 * P := by rw [hb, Int.mul_comm P, ← Int.mul_assoc]
    rw [e2, e3]
    generalize (c + p) % 4294967296 = r at *
    generalize b' * 4294967296 = bb at *
    simp only [Int.add_mul, Int.sub_mul]
    omega
/-- all of it: with the limb behind -/
def ttF (W D : List Int) (d : Int) (n : Nat) : List Int := (ttW W D d n).1.set n ((W.getD n 0 - (ttW W D d n).2.1 - (ttW W D d n).2.2) % 4294967296)
def ttB (W D : List Int) (d : Int) (n : Nat) : Int := if W.getD n 0 < (ttW W D d n).2.1 + (ttW W D d n).2.2 then 1 else 0
theorem ttF_sum {W D : List Int} {d : Int} (hW : Limbs W) (hD : Limbs D) (hd : 0 ≤ d ∧ d ≤ 4294967295) {n : Nat} (h : n < W.length) : nv (ttF W D d n) (n + 1) = nv W (n + 1) - nv D n * d + ttB W D d n * BB ^ (n + 1) := by
  have hs := ttW_sum hW hD hd n (by omega)
  have hl := ttW_length W D d n
  obtain ⟨h1, h2, h3, h4⟩ := ttW_range (W := W) hD hd n
  have hw := hW n
  rw [ttF, nv_setAt _ (by omega), hs, nv]
  unfold ttB
  rw [Int.pow_succ]
  generalize (ttW W D d n).2.1 = c at *
  generalize (ttW W D d n).2.2 = b at *
  generalize W.getD n 0 = x at *
  have hb : BB = 4294967296 := rfl
  generalize BB ^ n = P
  have key : (x - c - b) % 4294967296 = x - c - b + (if x < c + b then 1 else 0) * 4294967296 := by
    split <;> omega
  rw [key]
  generalize (if x < c + b then (1 : Int) else 0) = b' at *
  have e3 : b' * (P * BB) = b' * 4294967296 * P := by rw [hb, Int.mul_comm P, ← Int.mul_assoc]
  rw [e3]
  generalize b' * 4294967296 = bb at *
  simp only [Int.add_mul, Int.sub_mul]
  omega

/-- D given back to W: i limbs, and what is carried -/
def gbW (W D : List Int) : Nat → List Int × Int
  | 0 => (W, 0)
  | i + 1 => ((gbW W D i).1.set i ((W.getD i 0 + D.getD i 0 + (gbW W D i).2) % 4294967296), (W.getD i 0 + D.getD i 0 + (gbW W D i).2) / 4294967296)
theorem gbW_length (W D : List Int) : ∀ i, (gbW W D i).1.length = W.length
  | 0 => rfl
  | i + 1 => by simp [gbW, gbW_length W D i]
theorem gbW_rest (W D : List Int) : ∀ i j, i ≤ j → (gbW W D i).1.getD j 0 = W.getD j 0
  | 0, _, _ => rfl
  | i + 1, j, h => by
    simp only [gbW, getD_set]
    rw [if_neg (by omega)]
    exact gbW_rest W D i j (by omega)
theorem gbW_range {W D : List Int} (hW : Limbs W) (hD : Limbs D) : ∀ i, 0 ≤ (gbW W D i).2 ∧ (gbW W D i).2 ≤ 1
  | 0 => by simp [gbW]
  | i + 1 => by
    obtain ⟨h1, h2⟩ := gbW_range hW hD i
    have := hW i
    have := hD i
    simp only [gbW]; omega
theorem gbW_sum {W D : List Int} : ∀ i, i ≤ W.length → nv (gbW W D i).1 i + (gbW W D i).2 * BB ^ i = nv W i + nv D i
  | 0, _ => by simp [gbW, nv]
  | i + 1, h => by
    have ih := gbW_sum (W := W) (D := D) i (by omega)
    have hl := gbW_length W D i
    have e : (gbW W D (i + 1)).1 = (gbW W D i).1.set i ((W.getD i 0 + D.getD i 0 + (gbW W D i).2) % 4294967296) := rfl
    rw [e, nv_setAt _ (by omega), nv, nv]
    simp only [gbW]
    rw [Int.pow_succ]
    generalize (gbW W D i).2 = c at *
    generalize W.getD i 0 = x at *
    generalize D.getD i 0 = y at *
    have hb : BB = 4294967296 := rfl
    generalize BB ^ i = P at *
    have e2 : (x + y + c) / 4294967296 * (P * BB) = (x + y + c - (x + y + c) % 4294967296) * P := by
      rw [hb, Int.mul_comm P, ← Int.mul_assoc]
      congr 1; omega
    rw [e2]
    generalize (x + y + c) % 4294967296 = r at *
    simp only [Int.add_mul, Int.sub_mul]
    omega
/-- all of it: with the limb behind -/
def gbF (W D : List Int) (n : Nat) : List Int := (gbW W D n).1.set n ((W.getD n 0 + (gbW W D n).2) % 4294967296)
theorem gbF_sum {W D : List Int} {n : Nat} (h : n < W.length) : nv (gbF W D n) (n + 1) + ((W.getD n 0 + (gbW W D n).2) / 4294967296) * BB ^ (n + 1) = nv W (n + 1) + nv D n := by
  have hs := gbW_sum (W := W) (D := D) n (by omega)
  have hl := gbW_length W D n
  rw [gbF, nv_setAt _ (by omega), nv, Int.pow_succ]
  generalize (gbW W D n).2 = c at *
  generalize W.getD n 0 = x at *
  have hb : BB = 4294967296 := rfl
  generalize BB ^ n = P at *
  have e2 : (x + c) / 4294967296 * (P * BB) = (x + c - (x + c) % 4294967296) * P := by
    rw [hb, Int.mul_comm P, ← Int.mul_assoc]
    congr 1; omega
  rw [e2]
  generalize (x + c) % 4294967296 = r at *
  simp only [Int.add_mul, Int.sub_mul]
  omega
end Go.Proofs.YtjmceapnhmeflaaDoor

