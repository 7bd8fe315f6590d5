/- Contracts: bits.Len32, bits.LeadingZeros32. -/
import Derived.Test.YtjmceapnhmeflaaDoorVX
import Derived.Test.YtjmceapnhmeflaaDoorFC
import Derived.Test.YtjmceapnhmeflaaDoorIrB
import Derived.Test.YtjmceapnhmeflaaDoorCC
set_option linter.unusedSimpArgs false
set_option linter.unusedVariables false
-- NEWSET
namespace Go.Proofs.YtjmceapnhmeflaaDoor
open Go Go.Vh

theorem tab8_get : ∀ y : Fin 256, 0 < y.val → ∃ L : Nat, L ≤ 8 ∧ 0 < L ∧ (tab8.data.getD y.val 0).toNat = L ∧ 2 ^ (L - 1) ≤ y.val ∧ y.val < 2 ^ L := by
  intro y h
  have key : ∀ y : Fin 256, 0 < y.val → (tab8.data.getD y.val 0).toNat ≤ 8 ∧ 0 < (tab8.data.getD y.val 0).toNat ∧ 2 ^ ((tab8.data.getD y.val 0).toNat - 1) ≤ y.val ∧ y.val < 2 ^ (tab8.data.getD y.val 0).toNat := by decide +kernel
  obtain ⟨h1, h2, h3, h4⟩ := key y h
  exact ⟨_, h1, h2, rfl, h3, h4⟩
theorem shrU32 {x n : Nat} (hn : n ≤ 32) : abin .shr (.int .u32 (x : Int)) (.int .u64 (n : Int)) = some (.int .u32 ((x / 2 ^ n : Nat) : Int)) := by
  have hbits : IntKind.u32.bits = 32 := rfl
  simp only [abin, ashift]
  rw [if_neg (by omega), hbits, Int.toNat_natCast, Nat.min_eq_left hn, Int.fdiv_eq_ediv_of_nonneg _ (Int.le_of_lt (Int.pow_pos (by decide)))]
  congr 2
theorem idx8 {s : St} {x i : Opd} {y : Nat} (hx : evo s x = .str tab8) (hi : evo s i = .int .u8 (y : Int)) (h : y < 256) : ipure (.indexStr x i) s = some (.int .u8 (((tab8.data.getD y 0).toNat : Nat) : Int)) := by
  have hs : tab8.size = 256 := by decide +kernel
  simp only [ipure, hx, hi]
  rw [if_pos (by omega), Int.toNat_natCast]
  have hlt : y < tab8.size := by omega
  have e : tab8[y]? = some tab8[y] := getElem?_pos tab8 y hlt
  rw [e]
  have e2 : tab8[y] = tab8.data.getD y 0 := by
    have hd : y < tab8.data.size := hlt
    show tab8.data[y] = _
    simp [Array.getD, hd]
    intro h2; omega
  rw [e2]; rfl
/-- the last part of Len32 -/
theorem tail8 {y n : Nat} (hy : y < 256) (h0 : 0 < y) (hn : n ≤ 24) : ∃ L : Nat, L ≤ 8 ∧ 0 < L ∧ (tab8.data.getD y 0).toNat = L ∧ 2 ^ (L - 1) ≤ y ∧ y < 2 ^ L := tab8_get ⟨y, hy⟩ h0
theorem up_bound {x y n L : Nat} (hy : y = x / 2 ^ n) (h1 : 2 ^ (L - 1) ≤ y) (h2 : y < 2 ^ L) (hL : 0 < L) : 2 ^ (n + L - 1) ≤ x ∧ x < 2 ^ (n + L) := by
  have hp : 0 < 2 ^ n := Nat.pow_pos (by omega)
  subst hy
  constructor
  · rw [show n + L - 1 = (L - 1) + n by omega, Nat.pow_add]
    exact (Nat.le_div_iff_mul_le hp).1 h1
  · rw [Nat.add_comm n L, Nat.pow_add]
    exact (Nat.div_lt_iff_lt_mul hp).1 h2

theorem xlen32_calls (x : Nat) (h0 : 0 < x) (hx : x < 4294967296) : ∃ L : Nat, 0 < L ∧ L ≤ 32 ∧ 2 ^ (L - 1) ≤ x ∧ x < 2 ^ L ∧ ACalls Tryd.prog 127 [.int .u32 (x : Int)] [] [] fun v H => v = .int .i64 (L : Int) ∧ H = [] := by
  have e0 : s0 [.int .u32 (x : Int)] 0 = .int .u32 x := rfl
  have sh16 : abin .shr (.int .u32 (x : Int)) (.int .u64 16) = some (.int .u32 ((x / 65536 : Nat) : Int)) := shrU32 (n := 16) (by omega)
  have sh8 : abin .shr (.int .u32 (x : Int)) (.int .u64 8) = some (.int .u32 ((x / 256 : Nat) : Int)) := shrU32 (n := 8) (by omega)
  have sh24 : abin .shr (.int .u32 ((x / 65536 : Nat) : Int)) (.int .u64 8) = some (.int .u32 ((x / 65536 / 256 : Nat) : Int)) := shrU32 (n := 8) (by omega)
  have fin : ∀ (y n : Nat), y < 256 → 0 < y → n ≤ 24 → y = x / 2 ^ n → (∀ L : Nat, (tab8.data.getD y 0).toNat = L → L ≤ 8 → ACalls Tryd.prog 127 [.int .u32 (x : Int)] [] [] fun v H => v = .int .i64 ((n + L : Nat) : Int) ∧ H = []) → ∃ L : Nat, 0 < L ∧ L ≤ 32 ∧ 2 ^ (L - 1) ≤ x ∧ x < 2 ^ L ∧ ACalls Tryd.prog 127 [.int .u32 (x : Int)] [] [] fun v H => v = .int .i64 (L : Int) ∧ H = [] := by
    intro y n hy hy0 hn hyx hc
    obtain ⟨L, l1, l2, l3, l4, l5⟩ := tail8 hy hy0 hn
    obtain ⟨u1, u2⟩ := up_bound hyx l4 l5 l2
    exact ⟨n + L, by omega, by omega, u1, u2, hc L l3 l1⟩
  by_cases c1 : 65536 ≤ x
  · by_cases c2 : 256 ≤ x / 65536
    · refine fin (x / 65536 / 256) 24 (by omega) (by omega) (by omega) (by rw [Nat.div_div_eq_div_mul]) fun L hL hL8 => ?_
      refine ACalls.trim1 (W := List.range 0) ?_ rfl
      refine ACalls.body Tryd.func127 ent_len32 ir_len32_ok rs_len32_ok Tryd.ntmps127 (by simp) rfl ?_
      unfold ir_len32
      obtain ⟨y, hy⟩ : ∃ y, x / 65536 / 256 = y := ⟨_, rfl⟩
      have hw : IntKind.u8.wrap (y : Int) = (y : Int) := by rw [IntKind.wrap_u8]; omega
      rw [hy] at sh24 hL
      obtain ⟨z, hz⟩ : ∃ z, x / 65536 = z := ⟨_, rfl⟩
      rw [hz] at sh16 sh24 c2
      simp -implicitDefEqProofs (disch := omega) only [sN, ↓reduceIte, Nat.reduceEqDiff, Nat.reduceAdd, Nat.reduceMul, Nat.reduceSub, reduceCtorEq, e_none, e_some, e_bindS, e0, sh16, sh24, hw]
      rw [idx8 (y := y) (by simp only [e_upd, e_putS, e_putN, e_t, e_c, Nat.reduceEqDiff, ↓reduceIte, reduceCtorEq, Nat.reduceAdd]) (by simp only [e_upd, e_putS, e_putN, e_t, e_c, Nat.reduceEqDiff, ↓reduceIte, reduceCtorEq, Nat.reduceAdd]) (by omega), hL]
      simp -implicitDefEqProofs (disch := omega) only [sN, ↓reduceIte, Nat.reduceEqDiff, Nat.reduceAdd, Nat.reduceMul, Nat.reduceSub, reduceCtorEq, e_none, e_some, e_bindS]
      refine ret_keep (by simp) ?_
      simp only [rs_len32, q_tmp, q_then, e_upd, e_putS, e_putN, e_t, e_c, Nat.reduceEqDiff, ↓reduceIte, reduceCtorEq, Nat.reduceAdd]
      first | done | (congr 1; omega) | congr 1
    · refine fin (x / 65536) 16 (by omega) (by omega) (by omega) rfl fun L hL hL8 => ?_
      refine ACalls.trim1 (W := List.range 0) ?_ rfl
      refine ACalls.body Tryd.func127 ent_len32 ir_len32_ok rs_len32_ok Tryd.ntmps127 (by simp) rfl ?_
      unfold ir_len32
      obtain ⟨y, hy⟩ : ∃ y, x / 65536 = y := ⟨_, rfl⟩
      have hw : IntKind.u8.wrap (y : Int) = (y : Int) := by rw [IntKind.wrap_u8]; omega
      rw [hy] at sh16 hL c2
      simp -implicitDefEqProofs (disch := omega) only [sN, ↓reduceIte, Nat.reduceEqDiff, Nat.reduceAdd, Nat.reduceMul, Nat.reduceSub, reduceCtorEq, e_none, e_some, e_bindS, e0, sh16, hw]
      rw [idx8 (y := y) (by simp only [e_upd, e_putS, e_putN, e_t, e_c, Nat.reduceEqDiff, ↓reduceIte, reduceCtorEq, Nat.reduceAdd]) (by simp only [e_upd, e_putS, e_putN, e_t, e_c, Nat.reduceEqDiff, ↓reduceIte, reduceCtorEq, Nat.reduceAdd]) (by omega), hL]
      simp -implicitDefEqProofs (disch := omega) only [sN, ↓reduceIte, Nat.reduceEqDiff, Nat.reduceAdd, Nat.reduceMul, Nat.reduceSub, reduceCtorEq, e_none, e_some, e_bindS]
      refine ret_keep (by simp) ?_
      simp only [rs_len32, q_tmp, q_then, e_upd, e_putS, e_putN, e_t, e_c, Nat.reduceEqDiff, ↓reduceIte, reduceCtorEq, Nat.reduceAdd]
      first | done | (congr 1; omega) | congr 1
  · by_cases c2 : 256 ≤ x
    · refine fin (x / 256) 8 (by omega) (by omega) (by omega) rfl fun L hL hL8 => ?_
      refine ACalls.trim1 (W := List.range 0) ?_ rfl
      refine ACalls.body Tryd.func127 ent_len32 ir_len32_ok rs_len32_ok Tryd.ntmps127 (by simp) rfl ?_
      unfold ir_len32
      obtain ⟨y, hy⟩ : ∃ y, x / 256 = y := ⟨_, rfl⟩
      have hw : IntKind.u8.wrap (y : Int) = (y : Int) := by rw [IntKind.wrap_u8]; omega
      rw [hy] at sh8 hL
      simp -implicitDefEqProofs (disch := omega) only [sN, ↓reduceIte, Nat.reduceEqDiff, Nat.reduceAdd, Nat.reduceMul, Nat.reduceSub, reduceCtorEq, e_none, e_some, e_bindS, e0, sh8, hw]
      rw [idx8 (y := y) (by simp only [e_upd, e_putS, e_putN, e_t, e_c, Nat.reduceEqDiff, ↓reduceIte, reduceCtorEq, Nat.reduceAdd]) (by simp only [e_upd, e_putS, e_putN, e_t, e_c, Nat.reduceEqDiff, ↓reduceIte, reduceCtorEq, Nat.reduceAdd]) (by omega), hL]
      simp -implicitDefEqProofs (disch := omega) only [sN, ↓reduceIte, Nat.reduceEqDiff, Nat.reduceAdd, Nat.reduceMul, Nat.reduceSub, reduceCtorEq, e_none, e_some, e_bindS]
      refine ret_keep (by simp) ?_
      simp only [rs_len32, q_tmp, q_then, e_upd, e_putS, e_putN, e_t, e_c, Nat.reduceEqDiff, ↓reduceIte, reduceCtorEq, Nat.reduceAdd]
      first | done | (congr 1; omega) | congr 1
    · refine fin x 0 (by omega) (by omega) (by omega) (by simp) fun L hL hL8 => ?_
      refine ACalls.trim1 (W := List.range 0) ?_ rfl
      refine ACalls.body Tryd.func127 ent_len32 ir_len32_ok rs_len32_ok Tryd.ntmps127 (by simp) rfl ?_
      unfold ir_len32
      have hw : IntKind.u8.wrap (x : Int) = (x : Int) := by rw [IntKind.wrap_u8]; omega
      simp -implicitDefEqProofs (disch := omega) only [sN, ↓reduceIte, Nat.reduceEqDiff, Nat.reduceAdd, Nat.reduceMul, Nat.reduceSub, reduceCtorEq, e_none, e_some, e_bindS, e0, hw]
      rw [idx8 (y := x) (by simp only [e_upd, e_putS, e_putN, e_t, e_c, Nat.reduceEqDiff, ↓reduceIte, reduceCtorEq, Nat.reduceAdd]) (by simp only [e_upd, e_putS, e_putN, e_t, e_c, Nat.reduceEqDiff, ↓reduceIte, reduceCtorEq, Nat.reduceAdd]) (by omega), hL]
      simp -implicitDefEqProofs (disch := omega) only [sN, ↓reduceIte, Nat.reduceEqDiff, Nat.reduceAdd, Nat.reduceMul, Nat.reduceSub, reduceCtorEq, e_none, e_some, e_bindS]
      refine ret_keep (by simp) ?_
      simp only [rs_len32, q_tmp, q_then, e_upd, e_putS, e_putN, e_t, e_c, Nat.reduceEqDiff, ↓reduceIte, reduceCtorEq, Nat.reduceAdd]
      rw [Int.zero_add]
end Go.Proofs.YtjmceapnhmeflaaDoor


/- Contracts: LeadingZeros32; the lemmas of exact's long division. -/
-- NEWSET
namespace Go.Proofs.YtjmceapnhmeflaaDoor
open Go Go.Vh

/-- how far a limb is shifted till its highest bit is set -/
theorem xlz32_calls (x : Nat) (h0 : 0 < x) (hx : x < 4294967296) : ∃ n : Nat, n ≤ 31 ∧ 2147483648 ≤ x * 2 ^ n ∧ x * 2 ^ n < 4294967296 ∧ ACalls Tryd.prog 128 [.int .u32 (x : Int)] [] [] fun v H => v = .int .i64 (n : Int) ∧ H = [] := by
  obtain ⟨L, l1, l2, l3, l4, hc⟩ := xlen32_calls x h0 hx
  refine ⟨32 - L, by omega, ?_, ?_, ?_⟩
  · have h := Nat.mul_le_mul_right (2 ^ (32 - L)) l3
    rw [← Nat.pow_add, show L - 1 + (32 - L) = 31 by omega] at h
    exact h
  · have h := Nat.mul_lt_mul_of_pos_right l4 (Nat.pow_pos (n := 32 - L) (show 0 < 2 by omega))
    rw [← Nat.pow_add, show L + (32 - L) = 32 by omega] at h
    exact h
  · refine ACalls.trim1 (W := List.range 0) ?_ rfl
    refine ACalls.body Tryd.func128 ent_lz32 ir_lz32_ok rs_lz32_ok Tryd.ntmps128 (by simp) rfl ?_
    unfold ir_lz32
    have e0 : s0 [.int .u32 (x : Int)] 0 = .int .u32 x := rfl
    simp -implicitDefEqProofs (disch := omega) only [sN, ↓reduceIte, Nat.reduceEqDiff, Nat.reduceAdd, Nat.reduceMul, Nat.reduceSub, reduceCtorEq, e_none, e_some, e_bindS, e0]
    refine call_sc hc rfl rfl (fun _ => rfl) ?_
    have hL : (32 : Int) - (L : Int) = ((32 - L : Nat) : Int) := by omega
    simp -implicitDefEqProofs (disch := omega) only [sN, ↓reduceIte, Nat.reduceEqDiff, Nat.reduceAdd, Nat.reduceMul, Nat.reduceSub, reduceCtorEq, e_none, e_some, e_bindS, e0, hL]
    refine ret_keep (by simp) ?_
    simp only [rs_lz32, q_tmp, q_then, e_upd, e_putS, e_putN, e_t, e_c, Nat.reduceEqDiff, ↓reduceIte, reduceCtorEq, Nat.reduceAdd]

/-- a limb of the quotient -/
def qB (a : List Int) (b i : Nat) : Nat := (4294967296 * (upB a (i + 1) % b) + (a.getD i 0).toNat) / b
theorem qB_lt {a : List Int} (ha : Limbs a) {b : Nat} (hb : 0 < b) (i : Nat) : 4294967296 * (upB a (i + 1) % b) + (a.getD i 0).toNat < b * 4294967296 := by
  have h1 := Nat.mod_lt (upB a (i + 1)) hb
  have := ha i
  omega
theorem upB_div {a : List Int} (ha : Limbs a) {b : Nat} (hb : 0 < b) (i : Nat) : upB a i / b = qB a b i + 4294967296 * (upB a (i + 1) / b) ∧ upB a i % b = (4294967296 * (upB a (i + 1) % b) + (a.getD i 0).toNat) % b := by
  have h1 := Nat.div_add_mod (upB a (i + 1)) b
  rw [upB_step ha i]
  unfold qB
  generalize upB a (i + 1) = u at *
  generalize (a.getD i 0).toNat = d at *
  have e : d + 4294967296 * u = b * (4294967296 * (u / b)) + (4294967296 * (u % b) + d) := by
    have : 4294967296 * u = 4294967296 * (b * (u / b)) + 4294967296 * (u % b) := by omega
    rw [this, Nat.mul_left_comm]; omega
  constructor
  · rw [e, Nat.mul_add_div hb]; omega
  · rw [e, Nat.mul_add_mod]
theorem qB_le {a : List Int} (ha : Limbs a) {b : Nat} (hb : 0 < b) (i : Nat) : qB a b i < 4294967296 := by
  unfold qB
  rw [Nat.div_lt_iff_lt_mul hb, Nat.mul_comm 4294967296 b]
  exact qB_lt ha hb i
end Go.Proofs.YtjmceapnhmeflaaDoor


/- The steps of exact's long division, as numbers. -/
-- NEWSET
namespace Go.Proofs.YtjmceapnhmeflaaDoor
open Go Go.Vh

theorem nv_drop (l : List Int) (i : Nat) : ∀ k, nv l (i + k) = nv l i + BB ^ i * nv (l.drop i) k
  | 0 => by simp [nv]
  | k + 1 => by
    have ih := nv_drop l i k
    have e : (l.drop i).getD k 0 = l.getD (i + k) 0 := by simp [List.getD_eq_getElem?_getD, List.getElem?_drop]
    rw [← Nat.add_assoc, nv, nv, ih, e, Int.mul_add, Int.pow_add, Int.mul_left_comm, Int.add_assoc]
theorem upB_nv {l : List Int} (h : Limbs l) {i k : Nat} (hk : l.length ≤ i + k) : nv (l.drop i) k = (upB l i : Int) := by
  rw [← upB_num h i, num, nv_long _ (by rw [List.length_drop]; omega)]
theorem upB_zero {l : List Int} (h : Limbs l) : num l = (upB l 0 : Int) := by
  have := upB_num h 0
  rwa [List.drop_zero] at this

/-- the limbs of the quotient from i on -/
def qL (a : List Int) (b M i : Nat) : List Int := (List.range M).map fun j => if i ≤ j then (qB a b j : Int) else 0
theorem qL_length {a : List Int} {b M i : Nat} : (qL a b M i).length = M := by simp [qL]
theorem qL_get {a : List Int} {b M i j : Nat} (h : j < M) : (qL a b M i).getD j 0 = if i ≤ j then (qB a b j : Int) else 0 := by simp [qL, h]
theorem qL_top {a : List Int} {b M : Nat} : qL a b M M = List.replicate M 0 := by
  apply List.ext_getElem
  · simp [qL]
  · intro j h1 h2
    rw [qL_length] at h1
    simp [qL]; omega
theorem qL_set {a : List Int} {b M i : Nat} : (qL a b M (i + 1)).set i (qB a b i : Int) = qL a b M i := by
  apply List.ext_getElem
  · simp [qL_length]
  · intro j h1 h2
    rw [qL_length] at h2
    simp only [List.getElem_set]
    split
    · rename_i e; subst e; simp [qL]
    · rename_i e
      simp only [qL, List.getElem_map, List.getElem_range]
      by_cases h3 : i ≤ j
      · rw [if_pos h3, if_pos (by omega)]
      · rw [if_neg h3, if_neg (by omega)]
theorem qL_limbs {a : List Int} (ha : Limbs a) {b : Nat} (hb : 0 < b) {M i : Nat} : Limbs (qL a b M i) := fun j => by
  rcases Nat.lt_or_ge j M with h | h
  · rw [qL_get h]
    have := qB_le ha hb j
    split <;> omega
  · rw [List.getD_eq_getElem?_getD, List.getElem?_eq_none (by rw [qL_length]; exact h)]; simp
theorem qL_num {a : List Int} (ha : Limbs a) {b : Nat} (hb : 0 < b) {M : Nat} (ht : upB a M < b) : num (qL a b M 0) = ((upB a 0 / b : Nat) : Int) := by
  have key : ∀ k, k ≤ M → num ((qL a b M 0).drop (M - k)) = ((upB a (M - k) / b : Nat) : Int) := by
    intro k
    induction k with
    | zero =>
      intro _
      rw [Nat.sub_zero, List.drop_eq_nil_of_le (by rw [qL_length]; omega), Nat.div_eq_of_lt ht]
      simp [num, nv]
    | succ k ih =>
      intro hk
      have hi : M - (k + 1) < M := by omega
      have e : M - (k + 1) + 1 = M - k := by omega
      rw [dropB_getD (by rw [qL_length]; exact hi), numb_cons, e, ih (by omega), (upB_div ha hb (M - (k + 1))).1, qL_get hi, if_pos (Nat.zero_le _), e, show BB = 4294967296 from rfl]
      omega
  have := key M (Nat.le_refl _)
  rwa [Nat.sub_self, List.drop_zero] at this

/-- What stands in the limbs when the digits from i on are found. -/
structure Cut (W0 W : List Int) (V n i : Nat) : Prop where
  limbs : Limbs W
  len : W.length = W0.length
  low : ∀ j, j < i → W.getD j 0 = W0.getD j 0
  high : ∀ j, i + n ≤ j → W.getD j 0 = 0
  val : nv (W.drop i) n = ((upB W0 i % V : Nat) : Int)

theorem Cut.window {W0 W : List Int} {V n i : Nat} (c : Cut W0 W V n (i + 1)) (hW0 : Limbs W0) (hi : i < W.length) : nv (W.drop i) (n + 1) = ((4294967296 * (upB W0 (i + 1) % V) + (W0.getD i 0).toNat : Nat) : Int) := by
  rw [dropB_getD hi, nvb_cons, c.val, c.low i (by omega), show BB = 4294967296 from rfl]
  have := hW0 i
  omega

/-- The step: the digit is taken. -/
theorem Cut.step {W0 W W' : List Int} {V n i : Nat} (c : Cut W0 W V n (i + 1)) (hW0 : Limbs W0) (hV : 0 < V) (hVn : (V : Int) ≤ BB ^ n) (hl : W'.length = (W.drop i).length) (hL : Limbs W') (hrest : ∀ j, n < j → W'.getD j 0 = (W.drop i).getD j 0)
    (hnum : nv W' (n + 1) = (((4294967296 * (upB W0 (i + 1) % V) + (W0.getD i 0).toNat) % V : Nat) : Int)) (hi : i ≤ W.length) : Cut W0 (W.take i ++ W') V n i := by
  have hti : (W.take i).length = i := by rw [List.length_take]; omega
  have hget : ∀ j, (W.take i ++ W').getD j 0 = if j < i then W.getD j 0 else W'.getD (j - i) 0 := fun j => by
    simp only [List.getD_eq_getElem?_getD, List.getElem?_append, hti]
    split
    · rename_i h; rw [List.getElem?_take_of_lt h]
    · rfl
  have hdrop : (W.take i ++ W').drop i = W' := by
    have := List.drop_left (l₁ := W.take i) (l₂ := W')
    rwa [hti] at this
  have htop : W'.getD n 0 = 0 := by
    rcases Int.lt_or_le (nv W' (n + 1)) (BB ^ n) with h | h
    · rcases Decidable.em (W'.getD n 0 = 0) with h0 | h0
      · exact h0
      · have := nv_ge hL h0; omega
    · have := Nat.mod_lt (4294967296 * (upB W0 (i + 1) % V) + (W0.getD i 0).toNat) hV
      rw [hnum] at h
      omega
  refine ⟨fun j => ?_, ?_, fun j hj => ?_, fun j hj => ?_, ?_⟩
  · rw [hget]
    split
    · exact c.limbs j
    · exact hL _
  · rw [List.length_append, hl, hti, List.length_drop, ← c.len]; omega
  · rw [hget, if_pos hj, c.low j (by omega)]
  · rw [hget, if_neg (by omega)]
    rcases Nat.eq_or_lt_of_le (show n ≤ j - i by omega) with h | h
    · rw [← h]; exact htop
    · rw [hrest _ h]
      have : (W.drop i).getD (j - i) 0 = W.getD j 0 := by
        simp only [List.getD_eq_getElem?_getD, List.getElem?_drop]
        congr 2; omega
      rw [this, c.high j (by omega)]
  · rw [hdrop, (upB_div hW0 hV i).2, ← hnum, nv, htop]; omega
theorem Cut.start {W0 : List Int} {V n M : Nat} (hW0 : Limbs W0) (hl : W0.length ≤ M + n) (ht : upB W0 M < V) : Cut W0 W0 V n M :=
  ⟨hW0, rfl, fun _ _ => rfl, fun j hj => by rw [List.getD_eq_getElem?_getD, List.getElem?_eq_none (by omega)]; rfl, by rw [upB_nv hW0 hl, Nat.mod_eq_of_lt ht]⟩
theorem Cut.done {W0 W : List Int} {V n : Nat} (c : Cut W0 W V n 0) : upB W 0 = upB W0 0 % V := by
  have h := upB_zero c.limbs
  have h2 := c.val
  rw [List.drop_zero] at h2
  have h3 : num W = nv W n := by
    rcases Nat.lt_or_ge n W.length with h4 | h4
    · exact nv_zeros W _ (by omega) (fun i h5 _ => c.high i (by omega))
    · exact (nv_long W h4).symm
  omega
/-- The numbers of the guess for such a step. -/
theorem Cut.guess {W0 W D : List Int} {V n i : Nat} (c : Cut W0 W V n (i + 1)) (hW0 : Limbs W0) (hn : 2 ≤ n) (hD : Limbs D) (hV : nv D n = (V : Int)) (htop : 2147483648 ≤ D.getD (n - 1) 0) (hi : i + n < W.length) :
    ∃ u0 u1 u2 v1 v2 : Nat, (W.drop i).getD n 0 = u0 ∧ (W.drop i).getD (n - 1) 0 = u1 ∧ (W.drop i).getD (n - 2) 0 = u2 ∧ D.getD (n - 1) 0 = v1 ∧ D.getD (n - 2) 0 = v2 ∧ Guess u0 u1 u2 v1 v2 (4294967296 * (upB W0 (i + 1) % V) + (W0.getD i 0).toNat) V := by
  have hVp : 0 < V := by
    have h1 := nv_ge hD (k := n - 1) (by omega)
    rw [show n - 1 + 1 = n by omega, hV] at h1
    have := BB_pos (n - 1)
    omega
  have lW := limbs_drop c.limbs i
  have hR := c.window hW0 (by omega)
  generalize hRR : 4294967296 * (upB W0 (i + 1) % V) + (W0.getD i 0).toNat = R at *
  have hsm : R < V * 4294967296 := by
    have := Nat.mod_lt (upB W0 (i + 1)) hVp
    have := hW0 i
    omega
  generalize W.drop i = X at *
  have x0 := lW n
  have x1 := lW (n - 1)
  have x2 := lW (n - 2)
  have y1 := hD (n - 1)
  have y2 := hD (n - 2)
  have eX : nv X (n + 1) = nv X (n - 2) + X.getD (n - 2) 0 * BB ^ (n - 2) + X.getD (n - 1) 0 * BB ^ (n - 1) + X.getD n 0 * BB ^ n := by
    obtain ⟨m, rfl⟩ : ∃ m, n = m + 2 := ⟨n - 2, by omega⟩
    rfl
  have eD : nv D n = nv D (n - 2) + D.getD (n - 2) 0 * BB ^ (n - 2) + D.getD (n - 1) 0 * BB ^ (n - 1) := by
    obtain ⟨m, rfl⟩ : ∃ m, n = m + 2 := ⟨n - 2, by omega⟩
    rfl
  have e1 : BB ^ (n - 1) = BB ^ (n - 2) * 4294967296 := by
    rw [show n - 1 = n - 2 + 1 by omega, Int.pow_succ]; rfl
  have e2 : BB ^ n = BB ^ (n - 2) * 4294967296 * 4294967296 := by
    rw [show n = n - 2 + 1 + 1 by omega, Int.pow_succ, Int.pow_succ]; rfl
  have b1 := nv_bound lW (n - 2)
  have b2 := nv_bound hD (n - 2)
  rw [e1, e2] at eX
  rw [e1] at eD
  rw [hR] at eX
  rw [hV] at eD
  have hP := BB_pos (n - 2)
  generalize X.getD n 0 = u0 at *
  generalize X.getD (n - 1) 0 = u1 at *
  generalize X.getD (n - 2) 0 = u2 at *
  generalize D.getD (n - 1) 0 = v1 at *
  generalize D.getD (n - 2) 0 = v2 at *
  generalize nv X (n - 2) = rl at *
  generalize nv D (n - 2) = dl at *
  generalize BB ^ (n - 2) = P at *
  obtain ⟨u0, rfl⟩ := Int.eq_ofNat_of_zero_le x0.1
  obtain ⟨u1, rfl⟩ := Int.eq_ofNat_of_zero_le x1.1
  obtain ⟨u2, rfl⟩ := Int.eq_ofNat_of_zero_le x2.1
  obtain ⟨v1, rfl⟩ := Int.eq_ofNat_of_zero_le y1.1
  obtain ⟨v2, rfl⟩ := Int.eq_ofNat_of_zero_le y2.1
  obtain ⟨rl, rfl⟩ := Int.eq_ofNat_of_zero_le b1.1
  obtain ⟨dl, rfl⟩ := Int.eq_ofNat_of_zero_le b2.1
  obtain ⟨P, rfl⟩ := Int.eq_ofNat_of_zero_le (Int.le_of_lt hP)
  refine ⟨u0, u1, u2, v1, v2, rfl, rfl, rfl, rfl, rfl, ⟨by omega, by omega, by omega, by omega, by omega, by omega, ⟨P, rl, dl, by omega, by omega, ?_, ?_⟩, hsm⟩⟩
  · have h0 : u0 * 4294967296 * 4294967296 * P = u0 * P * 4294967296 * 4294967296 := by rw [Nat.mul_right_comm (u0 * 4294967296), Nat.mul_right_comm u0]
    have h1 : u1 * 4294967296 * P = u1 * P * 4294967296 := Nat.mul_right_comm _ _ _
    have g0 : (u0 : Int) * ((P : Int) * 4294967296 * 4294967296) = ((u0 * P : Nat) : Int) * 4294967296 * 4294967296 := by rw [← Int.mul_assoc, ← Int.mul_assoc, Int.natCast_mul]
    have g1 : (u1 : Int) * ((P : Int) * 4294967296) = ((u1 * P : Nat) : Int) * 4294967296 := by rw [← Int.mul_assoc, Int.natCast_mul]
    have g2 : (u2 : Int) * (P : Int) = ((u2 * P : Nat) : Int) := (Int.natCast_mul _ _).symm
    rw [g0, g1, g2] at eX
    rw [Nat.add_mul, Nat.add_mul, Nat.add_mul, h0, h1]
    omega
  · have h1 : v1 * 4294967296 * P = v1 * P * 4294967296 := Nat.mul_right_comm _ _ _
    have g1 : (v1 : Int) * ((P : Int) * 4294967296) = ((v1 * P : Nat) : Int) * 4294967296 := by rw [← Int.mul_assoc, Int.natCast_mul]
    have g2 : (v2 : Int) * (P : Int) = ((v2 * P : Nat) : Int) := (Int.natCast_mul _ _).symm
    rw [g1, g2] at eD
    rw [Nat.add_mul, h1]
    omega
end Go.Proofs.YtjmceapnhmeflaaDoor


/- Contracts: exact's divide. -/
-- NEWSET
namespace Go.Proofs.YtjmceapnhmeflaaDoor
open Go Go.Vh

/-- Two new numbers as the answer. -/
def Fresh2 (H0 : AHeap) (q r : Int) (v : AV) (H : AHeap) : Prop := ∃ κ l row κ' l' row', v = .tuple [mkS κ H0.length 0 l.length, mkS κ' (H0.length + 1) 0 l'.length] ∧ H = H0 ++ [some row, some row'] ∧ NewNum q κ l row ∧ NewNum r κ' l' row'

theorem NewNum.back {q : Int} {κ : SK} {l : List Int} {row : ARow} (h : NewNum q κ l row) (σ : Sig) : ({ row with cells := renL σ row.cells } : ARow) = row := by
  rw [flatL_ren h.flat]

theorem ret_fresh2 {κ1 κ2 : SK} {l1 l2 a b : List Int} {row1 row2 : ARow} {q r : Int} {i j : Nat} {s : St} {H : AHeap} (hi : 2 ≤ i) (hj : 2 ≤ j) (hij : i ≠ j)
    (h0 : Vh.rowAt H 0 = some ⟨false, false, ints .u32 a⟩) (h1 : Vh.rowAt H 1 = some ⟨false, false, ints .u32 b⟩) (r1 : Vh.rowAt H i = some row1) (r2 : Vh.rowAt H j = some row2)
    (h4 : s 4 = mkS κ1 i 0 l1.length) (h5 : s 5 = mkS κ2 j 0 l2.length) (n1 : NewNum q κ1 l1 row1) (n2 : NewNum r κ2 l2 row2) : retPost 2 [.tmp 4, .tmp 5] (Fresh2 [ro (ints .u32 a), ro (ints .u32 b)] q r) .ret s H := by
  have li := rowAt_lt r1
  have lj := rowAt_lt r2
  have l1' := rowAt_lt h1
  have hH : gcH [0, 1, i, j] H = [ro (ints .u32 a), ro (ints .u32 b), some row1, some row2] := by
    simp only [gcH, List.map_cons, List.map_nil, h0, h1, r1, r2, n1.back, n2.back, ints_ren]
    rfl
  have e0 : (0 : Nat) ≠ i := by omega
  have e1 : (0 : Nat) ≠ j := by omega
  have e2 : (1 : Nat) ≠ i := by omega
  have e3 : (1 : Nat) ≠ j := by omega
  have si : gcSig [0, 1, i, j] i = some (2, 0) := by
    simp [gcSig, List.idxOf?, List.findIdx?_cons, e0, e2]
  have sj : gcSig [0, 1, i, j] j = some (3, 0) := by
    simp [gcSig, List.idxOf?, List.findIdx?_cons, e1, e3, hij]
  refine ret_gc [0, 1, i, j] ?_ ?_ (by simp) ?_
  · simp [gcOK, List.range, List.range.loop, e0, e1, e2, e3, hij]; omega
  · rw [hH]
    simp [ro, ints_cell, n1.cell, n2.cell]
  · show Fresh2 _ _ _ (.tuple [gcS [0, 1, i, j] s 4, gcS [0, 1, i, j] s 5]) _
    refine ⟨κ1, l1, row1, κ2, l2, row2, ?_, hH, n1, n2⟩
    simp only [gcS, h4, h5, n_mkS0 si, n_mkS0 sj]
    rfl
theorem ret_fresh2_nil {κ2 : SK} {l2 a b : List Int} {row2 : ARow} {r : Int} {s : St}
    (h4 : s 4 = .nilslice) (h5 : s 5 = mkS κ2 2 0 l2.length) (n2 : NewNum r κ2 l2 row2) : retPost 2 [.tmp 4, .tmp 5] (Fresh2 [ro (ints .u32 a), ro (ints .u32 b)] 0 r) .ret s [ro (ints .u32 a), ro (ints .u32 b), some row2] := by
  have n1 : NewNum 0 .nil [] ⟨true, false, []⟩ := ⟨rfl, fun j => by simp, rfl, rfl, rfl, rfl, rfl⟩
  obtain ⟨s', H', hw, hl, ht⟩ := ret_fresh2 (κ1 := .nil) (l1 := []) (row1 := ⟨true, false, []⟩) (i := 3) (j := 2) (a := a) (b := b) (s := s) (H := [ro (ints .u32 a), ro (ints .u32 b), some row2, empty]) (by omega) (by omega) (by omega) rfl rfl rfl rfl (by rw [h4]; rfl) h5 n1 n2
  exact ⟨s', H', Weak.pad.trans hw, hl, ht⟩

/-- A number cut to its limbs that count. -/
theorem cut_take {a : List Int} (ha : Limbs a) : ∃ A : List Int, A.length = tz a a.length ∧ (ints .u32 a).take A.length = ints .u32 A ∧ Limbs A ∧ num A = num a ∧ tz A A.length = A.length ∧ (0 < A.length → A.getD (A.length - 1) 0 ≠ 0) := by
  have ht := tz_le a a.length
  have hl : (a.take (tz a a.length)).length = tz a a.length := by rw [List.length_take]; omega
  have hn := new_of_trim (S := a) (x := num a) (c := tz a a.length) (row := ⟨true, false, ints .u32 a⟩) ha rfl (Nat.le_refl _) rfl rfl
  refine ⟨a.take (tz a a.length), hl, by rw [hl, ints_take], hn.limbs, hn.num, hn.norm, fun h => ?_⟩
  have := tz_last (a.take (tz a a.length)) _ (by rw [hn.norm]; omega)
  rw [hn.norm] at this
  exact this
theorem num_single (x : Int) : num [x] = x := by simp [num, nv]

theorem own_fresh (κ : SK) (l : List Int) (hk : okS κ l.length) (hm : l.length ≤ 1000000) (hl : Limbs l) : ACalls Tryd.prog 105 [mkS κ 0 0 l.length] [ro (ints .u32 l)] [0] (Fresh [ro (ints .u32 l)] (num l)) :=
  (own_calls κ l hk hm).mono fun v H ⟨h1, h2⟩ => by
    have hn := new_of_trim (S := l) (x := num l) (c := tz l l.length) (row := ⟨true, false, ints .u32 l⟩) hl rfl (Nat.le_refl _) rfl rfl
    refine ⟨.cap (tz l l.length), l.take (tz l l.length), ⟨true, false, ints .u32 (l.take (tz l l.length))⟩, ?_, h2, ⟨hn.ok, hn.limbs, hn.norm, hn.num, rfl, ?_, ints_flat⟩⟩
    · rw [h1, List.length_take, Nat.min_eq_left (tz_le _ _)]; rfl
    · show (ints .u32 (l.take (tz l l.length))).take (l.take (tz l l.length)).length = _
      rw [← ints_length (k := .u32) (l := l.take (tz l l.length)), List.take_length]

set_option maxHeartbeats 1000000 in
theorem xdivide_fresh (κ κ' : SK) (a b : List Int) (hk : okS κ a.length) (hk' : okS κ' b.length) (hm : a.length ≤ 100000) (hm' : b.length ≤ 100000) (ha : Limbs a) (hb : Limbs b) (hb0 : num b ≠ 0) :
    ACalls Tryd.prog 107 [mkS κ 0 0 a.length, mkS κ' 1 0 b.length] [ro (ints .u32 a), ro (ints .u32 b)] (List.range 2) (Fresh2 [ro (ints .u32 a), ro (ints .u32 b)] (num a / num b) (num a % num b)) := by
  refine ACalls.body Tryd.func107 ent_xdivide ir_xdivide_ok rs_xdivide_ok Tryd.ntmps107 (by simp) rfl ?_
  unfold ir_xdivide
  have e0 : s0 [mkS κ 0 0 a.length, mkS κ' 1 0 b.length] 0 = mkS κ 0 0 a.length := rfl
  have e1 : s0 [mkS κ 0 0 a.length, mkS κ' 1 0 b.length] 1 = mkS κ' 1 0 b.length := rfl
  have hrs : rs_xdivide = [.tmp 4, .tmp 5] := rfl
  rw [hrs]
  simp -implicitDefEqProofs (disch := omega) only [sN, ↓reduceIte, Nat.reduceEqDiff, Nat.reduceAdd, Nat.reduceMul, Nat.reduceSub, reduceCtorEq, e_none, e_some, e_bindS, e0, e1]
  refine call_rdS (r := 0) (row := ⟨false, false, ints .u32 a⟩) (xtrim_calls κ a hk (by omega)) rfl rfl take_all rfl ?_
  simp -implicitDefEqProofs (disch := omega) only [sN, ↓reduceIte, Nat.reduceEqDiff, Nat.reduceAdd, Nat.reduceMul, Nat.reduceSub, reduceCtorEq, e_none, e_some, e_bindS, e0, e1]
  refine call_rdS (r := 1) (row := ⟨false, false, ints .u32 b⟩) (xtrim_calls κ' b hk' (by omega)) rfl rfl take_all rfl ?_
  obtain ⟨A, lA, cA, LA, nA, zA, tA⟩ := cut_take ha
  obtain ⟨B, lB, cB, LB, nB, zB, tB⟩ := cut_take hb
  have hta := tz_le a a.length
  have htb := tz_le b b.length
  rw [← lA, ← lB, ← nA, ← nB]
  rw [← nB] at hb0
  have hkA : okS κ A.length := hk.le (by omega)
  have hkB : okS κ' B.length := hk'.le (by omega)
  have hB1 : 0 < B.length := by
    rcases Nat.eq_zero_or_pos B.length with h | h
    · exfalso; apply hb0
      rw [List.length_eq_zero_iff.1 h]; rfl
    · exact h
  have hbp := num_nonneg LB
  have hap := num_nonneg LA
  by_cases c1 : A.length < B.length
  · simp -implicitDefEqProofs (disch := omega) only [sN, ↓reduceIte, Nat.reduceEqDiff, Nat.reduceAdd, Nat.reduceMul, Nat.reduceSub, reduceCtorEq, e_none, e_some, e_bindS, k_len hkA, k_len hkB]
    refine call_fresh (own_fresh κ A hkA (by omega) LA) [(0, 0)] rfl rfl ?_ ?_ ⟨seen_ro (row := ⟨false, false, ints .u32 a⟩) rfl ?_ ?_ (flatL_under ints_flat), trivial⟩ ?_
    · simp [underL, mkS_under]
    · rw [n_lcons, n_lnil, n_mkS0 (r' := 0) rfl]; rfl
    · simp only [ints_length]; omega
    · rw [ints_ren, ints_length, List.drop_zero, cA]
    intro κ2 l2 row2 hn
    have hlt : num A < num B := nv_len_lt LA LB c1 (tB hB1)
    rw [Int.ediv_eq_zero_of_lt hap hlt, Int.emod_eq_of_lt hap hlt]
    simp -implicitDefEqProofs (disch := omega) only [sN, ↓reduceIte, Nat.reduceEqDiff, Nat.reduceAdd, Nat.reduceMul, Nat.reduceSub, reduceCtorEq, e_none, e_some, e_bindS]
    refine ret_fresh2_nil (κ2 := κ2) ?_ ?_ hn
    · simp only [e_upd, e_putS, e_putN, e_t, e_c, Nat.reduceEqDiff, ↓reduceIte, reduceCtorEq, Nat.reduceAdd]
    · simp only [e_upd, e_putS, e_putN, e_t, e_c, Nat.reduceEqDiff, ↓reduceIte, reduceCtorEq, Nat.reduceAdd]; rfl
  · by_cases c2 : B.length = 1
    · obtain ⟨y, hy⟩ : ∃ y, B.getD 0 0 = y := ⟨_, rfl⟩
      have hBy : B = [y] := by
        obtain ⟨z, rfl⟩ := List.length_eq_one_iff.1 c2
        simp at hy; subst hy; rfl
      have hy1 := LB 0
      rw [hy] at hy1
      have hnB : num B = y := by rw [hBy]; exact num_single y
      have ib : aindexAddr 1 (mkS κ' 1 0 B.length) (.int .i64 0) = some (.ptr 1 0) := by
        rw [k_idx hkB (Nat.le_refl _) (by omega) (by omega)]; rfl
      have gb : (ints .u32 b)[0]? = some (.int .u32 y) := by
        have h : ((ints .u32 b).take B.length)[0]? = (ints .u32 B)[0]? := by rw [cB]
        rw [List.getElem?_take_of_lt (by omega), ints_get (l := B) (by omega), hy] at h
        exact h
      rw [hnB]
      rw [hnB] at hb0 hbp
      obtain ⟨q1, q2⟩ := dsS_num LA (y := y) (by omega)
      obtain ⟨hL, hc⟩ := dsS_range LA (y := y) (by omega) A.length A.length
      have hdl := dsS_length A y A.length A.length
      have htz := tz_le (dsS A y A.length A.length).1 A.length
      simp -implicitDefEqProofs (disch := omega) only [sN, ↓reduceIte, Nat.reduceEqDiff, Nat.reduceAdd, Nat.reduceMul, Nat.reduceSub, reduceCtorEq, e_none, e_some, e_bindS, k_len hkA, k_len hkB, ib, gb]
      refine call_ints (r := 0) (row := ⟨false, false, ints .u32 a⟩) (divideSmall_calls κ A hkA (by omega) LA (by omega)) rfl rfl cA rfl ?_
      rintro v0 H0' ⟨rfl, rfl⟩
      rw [n_tuple, n_lcons, n_lcons, n_lnil, n_int, n_mkS0 (r' := 2) rfl]
      simp -implicitDefEqProofs (disch := omega) only [sN, ↓reduceIte, Nat.reduceEqDiff, Nat.reduceAdd, Nat.reduceMul, Nat.reduceSub, reduceCtorEq, e_none, e_some, e_bindS, List.getElem?_cons_zero, List.getElem?_cons_succ]
      rw [x_bs1 (v := .int .u32 (dsS A y A.length A.length).2) (by simp only [e_upd, e_putS, e_putN, e_t, e_c, Nat.reduceEqDiff, ↓reduceIte, reduceCtorEq, Nat.reduceAdd]) rfl]
      simp -implicitDefEqProofs (disch := omega) only [sN, ↓reduceIte, Nat.reduceEqDiff, Nat.reduceAdd, Nat.reduceMul, Nat.reduceSub, reduceCtorEq, e_none, e_some, e_bindS]
      have n1 : NewNum (num A / y) (.cap A.length) ((dsS A y A.length A.length).1.take (tz (dsS A y A.length A.length).1 (dsS A y A.length A.length).1.length)) ⟨true, false, ints .u32 (dsS A y A.length A.length).1⟩ := new_of_trim hL q1 (by rw [hdl]; exact htz) rfl rfl
      have LR : Limbs [(dsS A y A.length A.length).2] := fun j => by
        cases j with
        | zero => simp; omega
        | succ j => simp
      have n2 : NewNum (num A % y) (.cap 1) ([(dsS A y A.length A.length).2].take (tz [(dsS A y A.length A.length).2] [(dsS A y A.length A.length).2].length)) ⟨true, false, ints .u32 [(dsS A y A.length A.length).2]⟩ :=
        new_of_trim LR (by rw [num_single]; exact q2) (by have := tz_le [(dsS A y A.length A.length).2] [(dsS A y A.length A.length).2].length; exact this) rfl rfl
      refine call_rdS (r := 3) (κ := .cap 1) (row := ⟨true, false, ints .u32 [(dsS A y A.length A.length).2]⟩) (xtrim_calls (.cap 1) [(dsS A y A.length A.length).2] (by simp [okS]) (by simp)) rfl rfl take_all rfl ?_
      simp -implicitDefEqProofs (disch := omega) only [sN, ↓reduceIte, Nat.reduceEqDiff, Nat.reduceAdd, Nat.reduceMul, Nat.reduceSub, reduceCtorEq, e_none, e_some, e_bindS]
      refine ret_fresh2 (i := 2) (j := 3) (by omega) (by omega) (by omega) rfl rfl ?_ rfl ?_ ?_ n1 n2
      · show some (ARow.mk true false (renL _ (ints .u32 _))) = _
        rw [ints_ren]
      · simp only [e_upd, e_putS, e_putN, e_t, e_c, Nat.reduceEqDiff, ↓reduceIte, reduceCtorEq, Nat.reduceAdd]
        rw [List.length_take, hdl, Nat.min_eq_left htz]
      · simp only [e_upd, e_putS, e_putN, e_t, e_c, Nat.reduceEqDiff, ↓reduceIte, reduceCtorEq, Nat.reduceAdd]
        rw [List.length_take, Nat.min_eq_left (tz_le _ _)]
    · obtain ⟨n, hn⟩ : ∃ n, B.length = n := ⟨_, rfl⟩
      have hn2 : 2 ≤ n := by omega
      have hTop := tB hB1
      have hTl := LB (B.length - 1)
      obtain ⟨x, hx⟩ : ∃ x : Nat, (B.getD (B.length - 1) 0).toNat = x := ⟨_, rfl⟩
      have hxI : B.getD (B.length - 1) 0 = (x : Int) := by omega
      obtain ⟨sh, hs31, hs1, hs2, hlz⟩ := xlz32_calls x (by omega) (by omega)
      have ib : aindexAddr 1 (mkS κ' 1 0 B.length) (.int .i64 (((B.length - 1 : Nat) : Int))) = some (.ptr 1 (B.length - 1)) := by
        rw [k_idx hkB (Nat.le_refl _) (by omega) (by omega)]; simp
      have gb : (ints .u32 b)[B.length - 1]? = some (.int .u32 (x : Int)) := by
        have h : ((ints .u32 b).take B.length)[B.length - 1]? = (ints .u32 B)[B.length - 1]? := by rw [cB]
        rw [List.getElem?_take_of_lt (by omega), ints_get (l := B) (by omega), hxI] at h
        exact h
      have hl1 : (B.length : Int) - 1 = ((B.length - 1 : Nat) : Int) := by omega
      simp -implicitDefEqProofs (disch := omega) only [sN, ↓reduceIte, Nat.reduceEqDiff, Nat.reduceAdd, Nat.reduceMul, Nat.reduceSub, reduceCtorEq, e_none, e_some, e_bindS, k_len hkA, k_len hkB, hl1, ib, gb]
      refine call_sc hlz rfl rfl (fun _ => rfl) ?_
      simp -implicitDefEqProofs (disch := omega) only [sN, ↓reduceIte, Nat.reduceEqDiff, Nat.reduceAdd, Nat.reduceMul, Nat.reduceSub, reduceCtorEq, e_none, e_some, e_bindS, k_len hkA, k_len hkB]
      refine call_ints (r := 1) (row := ⟨false, false, ints .u32 b⟩) (xshiftUp_calls κ' B sh hkB (by omega) LB hs31) rfl rfl cB rfl ?_
      rintro v0 H0' ⟨rfl, rfl⟩
      have lD0 := upL_length B sh
      have LD0 := upL_limbs LB hs31
      have nD0 := upL_num LB sh
      rw [n_slice (r' := 2) (d := 0) rfl]
      have hsl : aslice 1 (.slice 2 (0 + 0) (B.length + 1) (B.length + 1)) none (some (.int .i64 (B.length : Int))) = some (.slice 2 0 B.length (B.length + 1)) := by
        have q1 : (B.length : Int) ≤ ((B.length + 1 : Nat) : Int) := by omega
        have q0 : (0 : Int) ≤ (B.length : Int) := by omega
        simp only [aslice, ahi, abound]
        rw [if_pos ⟨q0, q1⟩]
        simp only [Option.bind_some, Int.toNat_natCast]
        congr 2
      simp -implicitDefEqProofs (disch := omega) only [sN, ↓reduceIte, Nat.reduceEqDiff, Nat.reduceAdd, Nat.reduceMul, Nat.reduceSub, reduceCtorEq, e_none, e_some, e_bindS, k_len hkA, k_len hkB, hsl]
      refine call_ints (r := 0) (row := ⟨false, false, ints .u32 a⟩) (xshiftUp_calls κ A sh hkA (by omega) LA hs31) rfl rfl cA rfl ?_
      rintro v0 H0' ⟨rfl, rfl⟩
      have lW0 := upL_length A sh
      have LW0 := upL_limbs LA hs31
      have nW0 := upL_num LA sh
      rw [n_slice (r' := 3) (d := 0) rfl]
      obtain ⟨M, hM⟩ : ∃ M, A.length - B.length + 1 = M := ⟨_, rfl⟩
      have hMI : (A.length : Int) - (B.length : Int) + 1 = (M : Int) := by omega
      have hM1 : (A.length : Int) - (B.length : Int) = ((A.length - B.length : Nat) : Int) := by omega
      have hM2 : ((A.length - B.length : Nat) : Int) + 1 = (M : Int) := by omega
      simp -implicitDefEqProofs (disch := omega) only [sN, ↓reduceIte, Nat.reduceEqDiff, Nat.reduceAdd, Nat.reduceMul, Nat.reduceSub, reduceCtorEq, e_none, e_some, e_bindS, k_len hkA, k_len hkB, hM1, hM2]
      rw [x_make (n := (M : Int)) (by simp only [e_upd, e_putS, e_putN, e_t, e_c, Nat.reduceEqDiff, ↓reduceIte, reduceCtorEq, Nat.reduceAdd]) (by omega) (by omega) (by omega)]
      simp -implicitDefEqProofs (disch := omega) only [sN, ↓reduceIte, Nat.reduceEqDiff, Nat.reduceAdd, Nat.reduceMul, Nat.reduceSub, reduceCtorEq, e_none, e_some, e_bindS, k_len hkA, k_len hkB]
      -- the numbers
      have hpow : 4294967296 = 2 ^ (32 - sh) * 2 ^ sh := by rw [← Nat.pow_add, show 32 - sh + sh = 32 by omega]
      have hE0 : 0 < 2 ^ sh := Nat.pow_pos (by omega)
      obtain ⟨E, hE⟩ : ∃ E : Nat, 2 ^ sh = E := ⟨_, rfl⟩
      rw [hE] at hs1 hs2 nD0 nW0 hpow hE0
      obtain ⟨V, hV⟩ : ∃ V : Nat, num B * (E : Int) = V := by
        refine ⟨(num B * (E : Int)).toNat, ?_⟩
        have := Int.mul_nonneg hbp (show (0 : Int) ≤ (E : Int) by omega)
        omega
      have hBb := nv_bound LB (B.length - 1)
      have hBs : num B = nv B (B.length - 1) + (x : Int) * BB ^ (B.length - 1) := by
        rw [← hxI]
        show nv B B.length = _
        obtain ⟨m, hm0⟩ : ∃ m, B.length = m + 1 := ⟨B.length - 1, by omega⟩
        rw [hm0]; rfl
      have hPn : BB ^ B.length = BB ^ (B.length - 1) * 4294967296 := by
        rw [show BB ^ B.length = BB ^ (B.length - 1 + 1) by rw [show B.length - 1 + 1 = B.length by omega], Int.pow_succ]; rfl
      have hPp := BB_pos (B.length - 1)
      have hx2 : (x + 1) * E ≤ 4294967296 := by
        rw [hpow] at hs2 ⊢
        exact Nat.mul_le_mul_right _ (Nat.lt_of_mul_lt_mul_right hs2)
      have hVlo : 2147483648 * BB ^ (B.length - 1) ≤ (V : Int) := by
        rw [← hV, hBs, Int.add_mul]
        have h1 : 2147483648 * BB ^ (B.length - 1) ≤ ((x * E : Nat) : Int) * BB ^ (B.length - 1) := Int.mul_le_mul_of_nonneg_right (by omega) (by omega)
        have h2 : ((x * E : Nat) : Int) * BB ^ (B.length - 1) = (x : Int) * BB ^ (B.length - 1) * (E : Int) := by
          rw [Int.natCast_mul, Int.mul_right_comm]
        have h3 := Int.mul_nonneg hBb.1 (show (0 : Int) ≤ (E : Int) by omega)
        omega
      have hVhi : (V : Int) < BB ^ B.length := by
        rw [← hV, hPn]
        have h1 : num B + 1 ≤ ((x : Int) + 1) * BB ^ (B.length - 1) := by rw [hBs, Int.add_mul]; omega
        have h2 := Int.mul_le_mul_of_nonneg_right h1 (show (0 : Int) ≤ (E : Int) by omega)
        have h3 : ((x : Int) + 1) * BB ^ (B.length - 1) * (E : Int) = (((x + 1) * E : Nat) : Int) * BB ^ (B.length - 1) := by
          rw [Int.mul_right_comm]; simp
        have h4 : (((x + 1) * E : Nat) : Int) * BB ^ (B.length - 1) ≤ 4294967296 * BB ^ (B.length - 1) := Int.mul_le_mul_of_nonneg_right (by omega) (by omega)
        rw [Int.add_mul] at h2
        have h5 : (1 : Int) ≤ (E : Int) := by omega
        rw [Int.one_mul] at h2
        rw [Int.mul_comm (BB ^ (B.length - 1))]
        omega
      have hVp : 0 < V := by
        have : 0 < 2147483648 * BB ^ (B.length - 1) := Int.mul_pos (by decide) hPp
        omega
      -- the divisor's limbs
      have hD : (upL B sh).take B.length = (upL B sh).take n := by rw [hn]
      have lD : ((upL B sh).take n).length = n := by rw [List.length_take, lD0]; omega
      have LD : Limbs ((upL B sh).take n) := fun j => by
        simp only [List.getD_eq_getElem?_getD, List.getElem?_take]
        split
        · have := LD0 j
          rwa [List.getD_eq_getElem?_getD] at this
        · simp
      have hDV : nv ((upL B sh).take n) n = (V : Int) := by
        rw [nv_take _ _ _ (Nat.le_refl _), ← hV, ← nD0]
        have h1 : num (upL B sh) = nv (upL B sh) n + (upL B sh).getD n 0 * BB ^ n := by
          show nv (upL B sh) (upL B sh).length = _
          rw [lD0, hn]; rfl
        have h2 : (upL B sh).getD n 0 = 0 := by
          have h3 := LD0 n
          have h4 := (nv_bound LD0 n).1
          rw [nD0, hV] at h1
          rw [hn] at hVhi
          rcases Decidable.em ((upL B sh).getD n 0 = 0) with h5 | h5
          · exact h5
          · exfalso
            have : 1 * BB ^ n ≤ (upL B sh).getD n 0 * BB ^ n := Int.mul_le_mul_of_nonneg_right (by omega) (by have := BB_pos n; omega)
            omega
        rw [h1, h2]; omega
      have hDtop : 2147483648 ≤ ((upL B sh).take n).getD (n - 1) 0 := by
        have h1 := (nv_bound LD (n - 1)).2
        have h2 : nv ((upL B sh).take n) n = nv ((upL B sh).take n) (n - 1) + ((upL B sh).take n).getD (n - 1) 0 * BB ^ (n - 1) := by
          obtain ⟨m, rfl⟩ : ∃ m, n = m + 1 := ⟨n - 1, by omega⟩
          rfl
        rw [hDV] at h2
        rw [hn] at hVlo
        have hP := BB_pos (n - 1)
        generalize ((upL B sh).take n).getD (n - 1) 0 = d at *
        rcases Int.lt_or_le d 2147483648 with h | h
        · exfalso
          have : d * BB ^ (n - 1) ≤ 2147483647 * BB ^ (n - 1) := Int.mul_le_mul_of_nonneg_right (by omega) (by omega)
          omega
        · exact h
      have hbig : upB (upL A sh) M < V := by
        have h1 := nv_drop (upL A sh) M (n)
        have h2 : nv ((upL A sh).drop M) n = (upB (upL A sh) M : Int) := upB_nv LW0 (by omega)
        have h3 : nv (upL A sh) (M + n) = num (upL A sh) := by
          rw [num, nv_long _ (by omega)]
        have h4 := (nv_bound LW0 M).1
        rw [h2, h3, nW0] at h1
        have h5 := (nv_bound LA A.length).2
        have h6 : num A = nv A A.length := rfl
        have h7 : BB ^ A.length = BB ^ M * BB ^ (n - 1) := by rw [← Int.pow_add]; congr 1; omega
        have h8 : BB ^ (n - 1) ≤ num B := by
          rw [hBs, hn]
          have hx0 : 1 * BB ^ (n - 1) ≤ (x : Int) * BB ^ (n - 1) := Int.mul_le_mul_of_nonneg_right (by omega) (by have := BB_pos (n - 1); omega)
          have := (nv_bound LB (n - 1)).1
          omega
        have h9 : BB ^ M * (upB (upL A sh) M : Int) < BB ^ M * (V : Int) := by
          have g1 : BB ^ M * (upB (upL A sh) M : Int) ≤ num A * (E : Int) := by omega
          have g2 : num A * (E : Int) < BB ^ M * BB ^ (n - 1) * (E : Int) := Int.mul_lt_mul_of_pos_right (by omega) (by omega)
          have g3 : BB ^ M * BB ^ (n - 1) * (E : Int) ≤ BB ^ M * num B * (E : Int) := Int.mul_le_mul_of_nonneg_right (Int.mul_le_mul_of_nonneg_left h8 (Int.le_of_lt (BB_pos M))) (by omega)
          rw [Int.mul_assoc, Int.mul_assoc, hV] at g3
          rw [Int.mul_assoc] at g2
          omega
        have := Int.lt_of_mul_lt_mul_left h9 (Int.le_of_lt (BB_pos M))
        omega
      generalize hD0 : (upL B sh).take n = D at *
      generalize hW0 : upL A sh = W0 at *
      have cD : (ints .u32 (upL B sh)).take n = ints .u32 D := by rw [ints_take, hD0]
      refine ⟨fun m s H => ∃ (k : Nat) (W : List Int), m = M - k ∧ k ≤ M ∧ Cut W0 W V n (M - k) ∧ s 1 = mkS κ' 1 0 n ∧ s 8 = .int .i64 (sh : Int) ∧ s 9 = .slice 2 0 n (n + 1) ∧ s 10 = .slice 3 0 (A.length + 1) (A.length + 1) ∧ s 11 = .slice 4 0 M M ∧ s 64 = .int .i64 M ∧ s 65 = .int .i64 (k : Int) ∧
        H = [ro (ints .u32 a), ro (ints .u32 b), rw_ (ints .u32 (upL B sh)), rw_ (ints .u32 W), rw_ (ints .u32 (qL W0 V M (M - k)))], M, ⟨0, W0, rfl, by omega, Cut.start LW0 (by omega) hbig, ?_, ?_, ?_, ?_, ?_, ?_, ?_, ?_⟩, ?_⟩
      · simp only [e_upd, e_putS, e_putN, e_t, e_c, Nat.reduceEqDiff, ↓reduceIte, reduceCtorEq, Nat.reduceAdd, hn]
      · simp only [e_upd, e_putS, e_putN, e_t, e_c, Nat.reduceEqDiff, ↓reduceIte, reduceCtorEq, Nat.reduceAdd]
      · simp only [e_upd, e_putS, e_putN, e_t, e_c, Nat.reduceEqDiff, ↓reduceIte, reduceCtorEq, Nat.reduceAdd, hn]
      · simp only [e_upd, e_putS, e_putN, e_t, e_c, Nat.reduceEqDiff, ↓reduceIte, reduceCtorEq, Nat.reduceAdd]
      · simp only [e_upd, e_putS, e_putN, e_t, e_c, Nat.reduceEqDiff, ↓reduceIte, reduceCtorEq, Nat.reduceAdd, nat_toNat]; rfl
      · simp only [e_upd, e_putS, e_putN, e_t, e_c, Nat.reduceEqDiff, ↓reduceIte, reduceCtorEq, Nat.reduceAdd, nat_toNat]
      · simp only [e_upd, e_putS, e_putN, e_t, e_c, Nat.reduceEqDiff, ↓reduceIte, reduceCtorEq, Nat.reduceAdd]; rfl
      · rw [Nat.sub_zero, qL_top, ← hW0]
        simp [m_renSomeRw, ro, rw_, renRow, ints_ren, hW0]
      rintro m s H ⟨k, W, rfl, hkM, hcut, h1, h8, h9, h10, h11, h64, h65, rfl⟩
      have lWW := hcut.len
      by_cases hlt : k < M
      · obtain ⟨i, hi⟩ : ∃ i, M - 1 - k = i := ⟨_, rfl⟩
        have hMk : M - k = i + 1 := by omega
        rw [hMk] at hcut ⊢
        have hiI : (M : Int) - 1 - (k : Int) = (i : Int) := by omega
        have hi1 : (M : Int) - 1 = ((M - 1 : Nat) : Int) := by omega
        have hi2 : ((M - 1 : Nat) : Int) - (k : Int) = (i : Int) := by omega
        have hi3 : (i : Int) + (n : Int) + 1 = ((i + n + 1 : Nat) : Int) := by omega
        have hi4 : (i : Int) + (n : Int) = ((i + n : Nat) : Int) := by omega
        have hi5 : ((i + n : Nat) : Int) + 1 = ((i + n + 1 : Nat) : Int) := by omega
        have hwin : aslice 1 (.slice 3 0 (A.length + 1) (A.length + 1)) (some (.int .i64 (i : Int))) (some (.int .i64 ((i + n + 1 : Nat) : Int))) = some (.slice 3 i (n + 1) (A.length + 1 - i)) := by
          have q1 : ((i + n + 1 : Nat) : Int) ≤ ((A.length + 1 : Nat) : Int) := by omega
          have q2 : (i : Int) ≤ ((i + n + 1 : Nat) : Int) := by omega
          have q0 : (0 : Int) ≤ ((i + n + 1 : Nat) : Int) := by omega
          simp only [aslice, ahi, abound]
          rw [if_pos ⟨q0, q1⟩]
          simp only [Option.bind_some, Int.toNat_natCast]
          rw [if_pos ⟨by omega, q2⟩]
          simp only [Option.bind_some, Int.toNat_natCast]
          congr 2 <;> omega
        have iq : aindexAddr 1 (.slice 4 0 M M) (.int .i64 (i : Int)) = some (.ptr 4 i) := by
          rw [a_idx (by omega) (by omega)]; simp
        simp -implicitDefEqProofs (disch := omega) only [sN, ↓reduceIte, Nat.reduceEqDiff, Nat.reduceAdd, Nat.reduceMul, Nat.reduceSub, reduceCtorEq, e_none, e_some, e_bindS, h1, h8, h9, h10, h11, h64, h65, k_len (hkB.le (show n ≤ B.length by omega)), hi1, hi2, hi4, hi5, hwin]
        obtain ⟨u0, u1, u2, v1, v2, g0, g1, g2, g3, g4, gg⟩ := hcut.guess LW0 hn2 LD hDV hDtop (by omega)
        have hR := hcut.window LW0 (by omega)
        have hlq : (W.take i).length = i := by rw [List.length_take]; omega
        have hcall := xtakeDigit_calls (.cap (n + 1)) (W.take i) (W.drop i) D n (A.length + 1 - i) u0 u1 u2 v1 v2 _ V lD hn2 (by rw [List.length_drop]; omega) (by omega) (show n ≤ n + 1 by omega) (by rw [List.length_drop]; omega) (limbs_drop hcut.limbs i) LD g0 g1 g2 g3 g4 gg hR hDV
        rw [List.take_append_drop, hlq] at hcall
        refine call_do hcall [(3, 0), (2, 0)] rfl rfl ?_ ?_ ⟨seen_rw rfl rfl rfl (by rw [ints_ren]) (flatL_under ints_flat), seen_ro (row := ⟨true, false, ints .u32 (upL B sh)⟩) rfl (by simp only [ints_length]; rw [lD, lD0]; omega) (by rw [ints_ren, List.drop_zero, ints_length, lD, cD]) (flatL_under ints_flat), trivial⟩ ?_
        · simp [onceOK, ownAt, Vh.rowAt, ro, rw_, List.range, List.range.loop]
        · rw [n_lcons, n_lcons, n_lnil, n_slice (r' := 3) (d := 0) rfl, n_mkS0 (r' := 2) rfl]
          simp only [List.map_cons, List.map_nil, e_upd, e_putS, e_putN, e_t, e_c, Nat.reduceEqDiff, ↓reduceIte, reduceCtorEq, Nat.reduceAdd]
          simp [mkS]
        rintro v0 H0' ⟨rfl, W', rfl, j1, j2, j3, j4⟩
        have hnew := hcut.step LW0 hVp (by rw [hn] at hVhi; omega) j1 j2 j3 j4 (by omega)
        have hqB : (4294967296 * (upB W0 (i + 1) % V) + (W0.getD i 0).toNat) / V = qB W0 V i := rfl
        rw [hqB, m_merge, m_rw, m_ro, m_nil]
        simp -implicitDefEqProofs (disch := omega) only [sN, ↓reduceIte, Nat.reduceEqDiff, Nat.reduceAdd, Nat.reduceMul, Nat.reduceSub, reduceCtorEq, e_none, e_some, e_bindS, h1, h8, h9, h10, h11, h64, h65, n_int, iq]
        rw [x_store (r := 4) (off := i) (k := .u32) (b := ((qB W0 V i : Nat) : Int)) (l := qL W0 V M (i + 1)) (by simp only [e_upd, e_putS, e_putN, e_t, e_c, Nat.reduceEqDiff, ↓reduceIte, reduceCtorEq, Nat.reduceAdd]) (by simp only [e_upd, e_putS, e_putN, e_t, e_c, Nat.reduceEqDiff, ↓reduceIte, reduceCtorEq, Nat.reduceAdd]) rfl (by rw [qL_length]; omega), qL_set]
        simp -implicitDefEqProofs (disch := omega) only [sN, ↓reduceIte, Nat.reduceEqDiff, Nat.reduceAdd, Nat.reduceMul, Nat.reduceSub, reduceCtorEq, e_none, e_some, e_bindS, h1, h8, h9, h10, h11, h64, h65]
        refine loop_keep (m := M - (k + 1)) (by omega) ⟨k + 1, W.take i ++ W', rfl, by omega, ?_, ?_, ?_, ?_, ?_, ?_, ?_, ?_, ?_⟩
        · rw [show M - (k + 1) = i by omega]; exact hnew
        · simp only [e_upd, e_putS, e_putN, e_t, e_c, Nat.reduceEqDiff, ↓reduceIte, reduceCtorEq, Nat.reduceAdd, h1]
        · simp only [e_upd, e_putS, e_putN, e_t, e_c, Nat.reduceEqDiff, ↓reduceIte, reduceCtorEq, Nat.reduceAdd, h8]
        · simp only [e_upd, e_putS, e_putN, e_t, e_c, Nat.reduceEqDiff, ↓reduceIte, reduceCtorEq, Nat.reduceAdd, h9]
        · simp only [e_upd, e_putS, e_putN, e_t, e_c, Nat.reduceEqDiff, ↓reduceIte, reduceCtorEq, Nat.reduceAdd, h10]
        · simp only [e_upd, e_putS, e_putN, e_t, e_c, Nat.reduceEqDiff, ↓reduceIte, reduceCtorEq, Nat.reduceAdd, h11]
        · simp only [e_upd, e_putS, e_putN, e_t, e_c, Nat.reduceEqDiff, ↓reduceIte, reduceCtorEq, Nat.reduceAdd, h64]
        · simp only [e_upd, e_putS, e_putN, e_t, e_c, Nat.reduceEqDiff, ↓reduceIte, reduceCtorEq, Nat.reduceAdd]; first | done | rfl
        · rw [show M - (k + 1) = i by omega]
          simp [ro, rw_, renRow, Vh.rowAt, ints_ren]
      · obtain rfl : k = M := by omega
        rw [Nat.sub_self] at hcut ⊢
        have hdone := hcut.done
        have hlq := qL_length (a := W0) (b := V) (M := k) (i := 0)
        have ht := xtrim_calls (.cap k) (qL W0 V k 0) (okS_cap (by omega)) (by omega)
        rw [hlq] at ht
        have hd := xshiftDown_calls (.cap (A.length + 1)) W sh (show W.length ≤ A.length + 1 by omega) (by omega) hcut.limbs hs31
        have hWl : W.length = A.length + 1 := by omega
        rw [hWl] at hd
        have hld := dnL_length (a := W) (n := sh) (i := A.length + 1)
        simp -implicitDefEqProofs (disch := omega) only [sN, ↓reduceIte, Nat.reduceEqDiff, Nat.reduceAdd, Nat.reduceMul, Nat.reduceSub, reduceCtorEq, e_none, e_some, e_bindS, h1, h8, h9, h10, h11, h64, h65]
        refine call_rdS (κ := .cap k) (r := 4) (row := ⟨true, false, ints .u32 (qL W0 V k 0)⟩) ht rfl rfl take_all rfl ?_
        simp -implicitDefEqProofs (disch := omega) only [sN, ↓reduceIte, Nat.reduceEqDiff, Nat.reduceAdd, Nat.reduceMul, Nat.reduceSub, reduceCtorEq, e_none, e_some, e_bindS, h8, h10]
        refine call_ints (r := 3) (κ := .cap (A.length + 1)) (row := ⟨true, false, ints .u32 W⟩) hd rfl rfl take_all rfl ?_
        rintro v0 H0' ⟨rfl, rfl⟩
        have q1 : NewNum (num A / num B) (.cap k) ((qL W0 V k 0).take (tz (qL W0 V k 0) (qL W0 V k 0).length)) ⟨true, false, ints .u32 (qL W0 V k 0)⟩ := by
          refine new_of_trim (qL_limbs LW0 hVp) ?_ (by rw [hlq]; exact tz_le _ _) rfl rfl
          rw [qL_num LW0 hVp hbig, Int.natCast_ediv, ← upB_zero LW0, nW0, ← hV, Int.mul_ediv_mul_of_pos_left _ _ (by omega)]
        have q2 : NewNum (num A % num B) (.cap (A.length + 1)) ((dnL W sh (A.length + 1)).take (tz (dnL W sh (A.length + 1)) (dnL W sh (A.length + 1)).length)) ⟨true, false, ints .u32 (dnL W sh (A.length + 1))⟩ := by
          refine new_of_trim dnL_limbs ?_ (by rw [hld, hWl]; exact tz_le _ _) rfl rfl
          have h := dnL_num hcut.limbs hs31
          rw [hWl, hE, hdone] at h
          rw [h, Int.natCast_ediv, Int.natCast_emod, ← upB_zero LW0, nW0, ← hV, Int.mul_comm (num A), Int.mul_comm (num B), Int.mul_emod_mul_of_pos _ _ (by omega), Int.mul_ediv_cancel_left _ (by omega)]
        rw [n_mkS0 (r' := 5) rfl]
        simp -implicitDefEqProofs (disch := omega) only [sN, ↓reduceIte, Nat.reduceEqDiff, Nat.reduceAdd, Nat.reduceMul, Nat.reduceSub, reduceCtorEq, e_none, e_some, e_bindS]
        refine ret_fresh2 (i := 4) (j := 5) (by omega) (by omega) (by omega) rfl rfl rfl ?_ ?_ ?_ q1 q2
        · show some (ARow.mk true false (renL _ (ints .u32 _))) = _
          rw [ints_ren]
        · simp only [e_upd, e_putS, e_putN, e_t, e_c, Nat.reduceEqDiff, ↓reduceIte, reduceCtorEq, Nat.reduceAdd]
          rw [List.length_take, hlq, Nat.min_eq_left (tz_le _ _)]
        · simp only [e_upd, e_putS, e_putN, e_t, e_c, Nat.reduceEqDiff, ↓reduceIte, reduceCtorEq, Nat.reduceAdd]
          rw [List.length_take, hld, hWl, Nat.min_eq_left (tz_le _ _)]
end Go.Proofs.YtjmceapnhmeflaaDoor

