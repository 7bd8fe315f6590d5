/- Contracts: bits.Len32, bits.LeadingZeros32. -/
import Derived.Test.YtpkeneadkiabiaaDoorVX
import Derived.Test.YtpkeneadkiabiaaDoorFC
import Derived.Test.YtpkeneadkiabiaaDoorIrB
import Derived.Test.YtpkeneadkiabiaaDoorCC
set_option linter.unusedSimpArgs false
set_option linter.unusedVariables false
-- NEWSET
namespace Go.Proofs.YtpkeneadkiabiaaDoor
open Go Go.Vh

theorem tab8_get : ∀ y : Fin 256, 0 < y.val → ∃ L : Nat, L ≤ 8 ∧ 0 < L ∧ (tab8.data.getD y.val 0).toNat = L ∧ 2 ^ (L - 1) ≤ y.val ∧ y.val < 2 ^ L := by
  intro y h
  have key : ∀ y : Fin 256, 0 < y.val → (tab8.data.getD y.val 0).toNat ≤ 8 ∧ 0 < (tab8.data.getD y.val 0).toNat ∧ 2 ^ ((tab8.data.getD y.val 0).toNat - 1) ≤ y.val ∧ y.val < 2 ^ (tab8.data.getD y.val 0).toNat := by decide +kernel
  obtain ⟨h1, h2, h3, h4⟩ := key y h
  exact ⟨_, h1, h2, rfl, h3, h4⟩
theorem shrU32 {x n : Nat} (hn : n ≤ 32) : abin .shr (.int .u32 (x : Int)) (.int .u64 (n : Int)) = some (.int .u32 ((x / 2 ^ n : Nat) : Int)) := by
  have hbits : IntKind.u32.bits = 32 := rfl
  simp only [abin, ashift]
  rw [if_neg (by omega), hbits, Int.toNat_natCast, Nat.min_eq_left hn, Int.fdiv_eq_ediv_of_nonneg _ (Int.le_of_lt (Int.pow_pos (by decide)))]
  congr 2
theorem idx8 {s : St} {x i : Opd} {y : Nat} (hx : evo s x = .str tab8) (hi : evo s i = .int .u8 (y : Int)) (h : y < 256) : ipure (.indexStr x i) s = some (.int .u8 (((tab8.data.getD y 0).toNat : Nat) : Int)) := by
  have hs : tab8.size = 256 := by decide +kernel
  simp only [ipure, hx, hi]
  rw [if_pos (by omega), Int.toNat_natCast]
  have hlt : y < tab8.size := by omega
  have e : tab8[y]? = some tab8[y] := getElem?_pos tab8 y hlt
  rw [e]
  have e2 : tab8[y] = tab8.data.getD y 0 := by
    have hd : y < tab8.data.size := hlt
    show tab8.data[y] = _
    simp [Array.getD, hd]
    intro h2; omega
  rw [e2]; rfl
/-- the last part of Len32 -/
theorem tail8 {y n : Nat} (hy : y < 256) (h0 : 0 < y) (hn : n ≤ 24) : ∃ L : Nat, L ≤ 8 ∧ 0 < L ∧ (tab8.data.getD y 0).toNat = L ∧ 2 ^ (L - 1) ≤ y ∧ y < 2 ^ L := tab8_get ⟨y, hy⟩ h0
theorem up_bound {x y n L : Nat} (hy : y = x / 2 ^ n) (h1 : 2 ^ (L - 1) ≤ y) (h2 : y < 2 ^ L) (hL : 0 < L) : 2 ^ (n + L - 1) ≤ x ∧ x < 2 ^ (n + L) := by
  have hp : 0 < 2 ^ n := Nat.pow_pos (by omega)
  subst hy
  constructor
  · rw [show n + L - 1 = (L - 1) + n by omega, Nat.pow_add]
    exact (Nat.le_div_iff_mul_le hp).1 h1
  · rw [Nat.add_comm n L, Nat.pow_add]
    exact (Nat.div_lt_iff_lt_mul hp).1 h2

theorem xlen32_calls (x : Nat) (h0 : 0 < x) (hx : x < 4294967296) : ∃ L : Nat, 0 < L ∧ L ≤ 32 ∧ 2 ^ (L - 1) ≤ x ∧ x < 2 ^ L ∧ ACalls Tryd.prog 127 [.int .u32 (x : Int)] [] [] fun v H => v = .int .i64 (L : Int) ∧ H = [] := by
  have e0 : s0 [.int .u32 (x : Int)] 0 = .int .u32 x := rfl
  have sh16 : abin .shr (.int .u32 (x : Int)) (.int .u64 16) = some (.int .u32 ((x / 65536 : Nat) : Int)) := shrU32 (n := 16) (by omega)
  have sh8 : abin .shr (.int .u32 (x : Int)) (.int .u64 8) = some (.int .u32 ((x / 256 : Nat) : Int)) := shrU32 (n := 8) (by omega)
  have sh24 : abin .shr (.int .u32 ((x / 65536 : Nat) : Int)) (.int .u64 8) = some (.int .u32 ((x / 65536 / 256 : Nat) : Int)) := shrU32 (n := 8) (by omega)
  have fin : ∀ (y n : Nat), y < 256 → 0 < y → n ≤ 24 → y = x / 2 ^ n → (∀ L : Nat, (tab8.data.getD y 0).toNat = L → L ≤ 8 → ACalls Tryd.prog 127 [.int .u32 (x : Int)] [] [] fun v H => v = .int .i64 ((n + L : Nat) : Int) ∧ H = []) → ∃ L : Nat, 0 < L ∧ L ≤ 32 ∧ 2 ^ (L - 1) ≤ x ∧ x < 2 ^ L ∧ ACalls Tryd.prog 127 [.int .u32 (x : Int)] [] [] fun v H => v = .int .i64 (L : Int) ∧ H = [] := by
    intro y n hy hy0 hn hyx hc
    obtain ⟨L, l1, l2, l3, l4, l5⟩ := tail8 hy hy0 hn
    obtain ⟨u1, u2⟩ := up_bound hyx l4 l5 l2
    exact ⟨n + L, by omega, by omega, u1, u2, hc L l3 l1⟩
  by_cases c1 : 65536 ≤ x
  · by_cases c2 : 256 ≤ x / 65536
    · refine fin (x / 65536 / 256) 24 (by omega) (by omega) (by omega) (by rw [Nat.div_div_eq_div_mul]) fun L hL hL8 => ?_
      refine ACalls.trim1 (W := List.range 0) ?_ rfl
      refine ACalls.body Tryd.func127 ent_len32 ir_len32_ok rs_len32_ok Tryd.ntmps127 (by simp) rfl ?_
      unfold ir_len32
      obtain ⟨y, hy⟩ : ∃ y, x / 65536 / 256 = y := ⟨_, rfl⟩
      have hw : IntKind.u8.wrap (y : Int) = (y : Int) := by rw [IntKind.wrap_u8]; omega
      rw [hy] at sh24 hL
      obtain ⟨z, hz⟩ : ∃ z, x / 65536 = z := ⟨_, rfl⟩
      rw [hz] at sh16 sh24 c2
      simp -implicitDefEqProofs (disch := omega) only [sN, ↓reduceIte, Nat.reduceEqDiff, Nat.reduceAdd, Nat.reduceMul, Nat.reduceSub, reduceCtorEq, e_none, e_some, e_bindS, e0, sh16, sh24, hw]
      rw [idx8 (y := y) (by simp only [e_upd, e_putS, e_putN, e_t, e_c, Nat.reduceEqDiff, ↓reduceIte, reduceCtorEq, Nat.reduceAdd]) (by simp only [e_upd, e_putS, e_putN, e_t, e_c, Nat.reduceEqDiff, ↓reduceIte, reduceCtorEq, Nat.reduceAdd]) (by omega), hL]
      simp -implicitDefEqProofs (disch := omega) only [sN, ↓reduceIte, Nat.reduceEqDiff, Nat.reduceAdd, Nat.reduceMul, Nat.reduceSub, reduceCtorEq, e_none, e_some, e_bindS]
      refine ret_keep (by simp) ?_
      simp only [rs_len32, q_tmp, q_then, e_upd, e_putS, e_putN, e_t, e_c, Nat.reduceEqDiff, ↓reduceIte, reduceCtorEq, Nat.reduceAdd]
      first | done | (congr 1; omega) | congr 1
    · refine fin (x / 65536) 16 (by omega) (by omega) (by omega) rfl fun L hL hL8 => ?_
      refine ACalls.trim1 (W := List.range 0) ?_ rfl
      refine ACalls.body Tryd.func127 ent_len32 ir_len32_ok rs_len32_ok Tryd.ntmps127 (by simp) rfl ?_
      unfold ir_len32
      obtain ⟨y, hy⟩ : ∃ y, x / 65536 = y := ⟨_, rfl⟩
      have hw : IntKind.u8.wrap (y : Int) = (y : Int) := by rw [IntKind.wrap_u8]; omega
      rw [hy] at sh16 hL c2
      simp -implicitDefEqProofs (disch := omega) only [sN, ↓reduceIte, Nat.reduceEqDiff, Nat.reduceAdd, Nat.reduceMul, Nat.reduceSub, reduceCtorEq, e_none, e_some, e_bindS, e0, sh16, hw]
      rw [idx8 (y := y) (by simp only [e_upd, e_putS, e_putN, e_t, e_c, Nat.reduceEqDiff, ↓reduceIte, reduceCtorEq, Nat.reduceAdd]) (by simp only [e_upd, e_putS, e_putN, e_t, e_c, Nat.reduceEqDiff, ↓reduceIte, reduceCtorEq, Nat.reduceAdd]) (by omega), hL]
      simp -implicitDefEqProofs (disch := omega) only [sN, ↓reduceIte, Nat.reduceEqDiff, Nat.reduceAdd, Nat.reduceMul, Nat.reduceSub, reduceCtorEq, e_none, e_some, e_bindS]
      refine ret_keep (by simp) ?_
      simp only [rs_len32, q_tmp, q_then, e_upd, e_putS, e_putN, e_t, e_c, Nat.reduceEqDiff, ↓reduceIte, reduceCtorEq, Nat.reduceAdd]
      first | done | (congr 1; omega) | congr 1
  · by_cases c2 : 256 ≤ x
    · refine fin (x / 256) 8 (by omega) (by omega) (by omega) rfl fun L hL hL8 => ?_
      refine ACalls.trim1 (W := List.range 0) ?_ rfl
      refine ACalls.body Tryd.func127 ent_len32 ir_len32_ok rs_len32_ok Tryd.ntmps127 (by simp) rfl ?_
      unfold ir_len32
      obtain ⟨y, hy⟩ : ∃ y, x / 256 = y := ⟨_, rfl⟩
      have hw : IntKind.u8.wrap (y : Int) = (y : Int) := by rw [IntKind.wrap_u8]; omega
      rw [hy] at sh8 hL
      simp -implicitDefEqProofs (disch := omega) only [sN, ↓reduceIte, Nat.reduceEqDiff, Nat.reduceAdd, Nat.reduceMul, Nat.reduceSub, reduceCtorEq, e_none, e_some, e_bindS, e0, sh8, hw]
      rw [idx8 (y := y) (by simp only [e_upd, e_putS, e_putN, e_t, e_c, Nat.reduceEqDiff, ↓reduceIte, reduceCtorEq, Nat.reduceAdd]) (by simp only [e_upd, e_putS, e_putN, e_t, e_c, Nat.reduceEqDiff, ↓reduceIte, reduceCtorEq, Nat.reduceAdd]) (by omega), hL]
      simp -implicitDefEqProofs (disch := omega) only [sN, ↓reduceIte, Nat.reduceEqDiff, Nat.reduceAdd, Nat.reduceMul, Nat.reduceSub, reduceCtorEq, e_none, e_some, e_bindS]
      refine ret_keep (by simp) ?_
      simp only [rs_len32, q_tmp, q_then, e_upd, e_putS, e_putN, e_t, e_c, Nat.reduceEqDiff, ↓reduceIte, reduceCtorEq, Nat.reduceAdd]
      first | done | (congr 1; omega) | congr 1
    · refine fin x 0 (by omega) (by omega) (by omega) (by simp) fun L hL hL8 => ?_
      refine ACalls.trim1 (W := List.range 0) ?_ rfl
      refine ACalls.body Tryd.func127 ent_len32 ir_len32_ok rs_len32_ok Tryd.ntmps127 (by simp) rfl ?_
      unfold ir_len32
      have hw : IntKind.u8.wrap (x : Int) = (x : Int) := by rw [IntKind.wrap_u8]; omega
      simp -implicitDefEqProofs (disch := omega) only [sN, ↓reduceIte, Nat.reduceEqDiff, Nat.reduceAdd, Nat.reduceMul, Nat.reduceSub, reduceCtorEq, e_none, e_some, e_bindS, e0, hw]
      rw [idx8 (y := x) (by simp only [e_upd, e_putS, e_putN, e_t, e_c, Nat.reduceEqDiff, ↓reduceIte, reduceCtorEq, Nat.reduceAdd]) (by simp only [e_upd, e_putS, e_putN, e_t, e_c, Nat.reduceEqDiff, ↓reduceIte, reduceCtorEq, Nat.reduceAdd]) (by omega), hL]
      simp -implicitDefEqProofs (disch := omega) only [sN, ↓reduceIte, Nat.reduceEqDiff, Nat.reduceAdd, Nat.reduceMul, Nat.reduceSub, reduceCtorEq, e_none, e_some, e_bindS]
      refine ret_keep (by simp) ?_
      simp only [rs_len32, q_tmp, q_then, e_upd, e_putS, e_putN, e_t, e_c, Nat.reduceEqDiff, ↓reduceIte, reduceCtorEq, Nat.reduceAdd]
      rw [Int.zero_add]
end Go.Proofs.YtpkeneadkiabiaaDoor


/- Contracts: LeadingZeros32; the lemmas of exact's long division. -/
-- NEWSET
namespace Go.Proofs.YtpkeneadkiabiaaDoor
open Go Go.Vh

/-- how far a limb is shifted till its highest bit is set -/
theorem xlz32_calls (x : Nat) (h0 : 0 < x) (hx : x < 4294967296) : ∃ n : Nat, n ≤ 31 ∧ 2147483648 ≤ x * 2 ^ n ∧ x * 2 ^ n < 4294967296 ∧ ACalls Tryd.prog 128 [.int .u32 (x : Int)] [] [] fun v H => v = .int .i64 (n : Int) ∧ H = [] := by
  obtain ⟨L, l1, l2, l3, l4, hc⟩ := xlen32_calls x h0 hx
  refine ⟨32 - L, by omega, ?_, ?_, ?_⟩
  · have h := Nat.mul_le_mul_right (2 ^ (32 - L)) l3
    rw [← Nat.pow_add, show L - 1 + (32 - L) = 31 by omega] at h
    exact h
  · have h := Nat.mul_lt_mul_of_pos_right l4 (Nat.pow_pos (n := 32 - L) (show 0 < 2 by omega))
    rw [← Nat.pow_add, show L + (32 - L) = 32 by omega] at h
    exact h
  · refine ACalls.trim1 (W := List.range 0) ?_ rfl
    refine ACalls.body Tryd.func128 ent_lz32 ir_lz32_ok rs_lz32_ok Tryd.ntmps128 (by simp) rfl ?_
    unfold ir_lz32
    have e0 : s0 [.int .u32 (x : Int)] 0 = .int .u32 x := rfl
    simp -implicitDefEqProofs (disch := omega) only [sN, ↓reduceIte, Nat.reduceEqDiff, Nat.reduceAdd, Nat.reduceMul, Nat.reduceSub, reduceCtorEq, e_none, e_some, e_bindS, e0]
    refine call_sc hc rfl rfl (fun _ => rfl) ?_
    have hL : (32 : Int) - (L : Int) = ((32 - L : Nat) : Int) := by omega
    simp -implicitDefEqProofs (disch := omega) only [sN, ↓reduceIte, Nat.reduceEqDiff, Nat.reduceAdd, Nat.reduceMul, Nat.reduceSub, reduceCtorEq, e_none, e_some, e_bindS, e0, hL]
    refine ret_keep (by simp) ?_
    simp only [rs_lz32, q_tmp, q_then, e_upd, e_putS, e_putN, e_t, e_c, Nat.reduceEqDiff, ↓reduceIte, reduceCtorEq, Nat.reduceAdd]

/-- a limb of the quotient -/
def qB (a : List Int) (b i : Nat) : Nat := (4294967296 * (upB a (i + 1) % b) + (a.getD i 0).toNat) / b
theorem qB_lt {a : List Int} (ha : Limbs a) {b : Nat} (hb : 0 < b) (i : Nat) : 4294967296 * (upB a (i + 1) % b) + (a.getD i 0).toNat < b * 4294967296 := by
  have h1 := Nat.mod_lt (upB a (i + 1)) hb
  have := ha i
  omega
theorem upB_div {a : List Int} (ha : Limbs a) {b : Nat} (hb : 0 < b) (i : Nat) : upB a i / b = qB a b i + 4294967296 * (upB a (i + 1) / b) ∧ upB a i % b = (4294967296 * (upB a (i + 1) % b) + (a.getD i 0).toNat) % b := by
  have h1 := Nat.div_add_mod (upB a (i + 1)) b
  rw [upB_step ha i]
  unfold qB
  generalize upB a (i + 1) = u at *
  generalize (a.getD i 0).toNat = d at *
  have e : d + 4294967296 * u = b * (4294967296 * (u / b)) + (4294967296 * (u % b) + d) := by
    have : 4294967296 * u = 4294967296 * (b * (u / b)) + 4294967296 * (u % b) := by omega
    rw [this, Nat.mul_left_comm]; omega
  constructor
  · rw [e, Nat.mul_add_div hb]; omega
  · rw [e, Nat.mul_add_mod]
theorem qB_le {a : List Int} (ha : Limbs a) {b : Nat} (hb : 0 < b) (i : Nat) : qB a b i < 4294967296 := by
  unfold qB
  rw [Nat.div_lt_iff_lt_mul hb, Nat.mul_comm 4294967296 b]
  exact qB_lt ha hb i
end Go.Proofs.YtpkeneadkiabiaaDoor


/- The steps of exact's long division, as numbers. -/
-- NEWSET
namespace Go.Proofs.YtpkeneadkiabiaaDoor
open Go Go.Vh

theorem nv_drop (l : List Int) (i : Nat) : ∀ k, nv l (i + k) = nv l i + BB ^ i * nv (l.drop i) k
  | 0 => by simp [nv]
  | k + 1 => by
    have ih := nv_drop l i k
    have e : (l.drop i).getD k 0 = l.getD (i + k) 0 := by simp [List.getD_eq_getElem?_getD, List.getElem?_drop]
    rw [← Nat.add_assoc, nv, nv, ih, e, Int.mul_add, Int.pow_add, Int.mul_left_comm, Int.add_assoc]
theorem upB_nv {l : List Int} (h : Limbs l) {i k : Nat} (hk : l.length ≤ i + k) : nv (l.drop i) k = (upB l i : Int) := by
  rw [← upB_num h i, num, nv_long _ (by rw [List.length_drop]; omega)]
theorem upB_zero {l : List Int} (h : Limbs l) : num l = (upB l 0 : Int) := by
  have := upB_num h 0
  rwa [List.drop_zero] at this

/-- the limbs of the quotient from i on -/
def qL (a : List Int) (b M i : Nat) : List Int := (List.range M).map fun j => if i ≤ j then (qB a b j : Int) else 0
theorem qL_length {a : List Int} {b M i : Nat} : (qL a b M i).length = M := by simp [qL]
theorem qL_get {a : List Int} {b M i j : Nat} (h : j < M) : (qL a b M i).getD j 0 = if i ≤ j then (qB a b j : Int) else 0 := by simp [qL, h]
theorem qL_top {a : List Int} {b M : Nat} : qL a b M M = List.replicate M 0 := by
  apply List.ext_getElem
  · simp [qL]
  · intro j h1 h2
    rw [qL_length] at h1
    simp [qL]; omega
theorem qL_set {a : List Int} {b M i : Nat} : (qL a b M (i + 1)).set i (qB a b i : Int) = qL a b M i := by
  apply List.ext_getElem
  · simp [qL_length]
  · intro j h1 h2
    rw [qL_length] at h2
    simp only [List.getElem_set]
    split
    · rename_i e; subst e; simp [qL]
    · rename_i e
      simp only [qL, List.getElem_map, List.getElem_range]
      by_cases h3 : i ≤ j
      · rw [if_pos h3, if_pos (by omega)]
      · rw [if_neg h3, if_neg (by omega)]
theorem qL_limbs {a : List Int} (ha : Limbs a) {b : Nat} (hb : 0 < b) {M i : Nat} : Limbs (qL a b M i) := fun j => by
  rcases Nat.lt_or_ge j M with h | h
  · rw [qL_get h]
    have := qB_le ha hb j
    split <;> omega
  · rw [List.getD_eq_getElem?_getD, List.getElem?_eq_none (by rw [qL_length]; exact h)]; simp
theorem qL_num {a : List Int} (ha : Limbs a) {b : Nat} (hb : 0 < b) {M : Nat} (ht : upB a M < b) : num (qL a b M 0) = ((upB a 0 / b : Nat) : Int) := by
  have key : ∀ k, k ≤ M → num ((qL a b M 0).drop (M - k)) = ((upB a (M - k) / b : Nat) : Int) := by
    intro k
    induction k with
    | zero =>
      intro _
      rw [Nat.sub_zero, List.drop_eq_nil_of_le (by rw [qL_length]; omega), Nat.div_eq_of_lt ht]
      simp [num, nv]
    | succ k ih =>
      intro hk
      have hi : M - (k + 1) < M := by omega
      have e : M - (k + 1) + 1 = M - k := by omega
      rw [dropB_getD (by rw [qL_length]; exact hi), numb_cons, e, ih (by omega), (upB_div ha hb (M - (k + 1))).1, qL_get hi, if_pos (Nat.zero_le _), e, show BB = 4294967296 from rfl]
      omega
  have := key M (Nat.le_refl _)
  rwa [Nat.sub_self, List.drop_zero] at this

/-- What stands in the limbs when the digits from i on are found. -/
structure Cut (W0 W : List Int) (V n i : Nat) : Prop where
  limbs : Limbs W
  len : W.length = W0.length
  low : ∀ j, j < i → W.getD j 0 = W0.getD j 0
  high : ∀ j, i + n ≤ j → W.getD j 0 = 0
  val : nv (W.drop i) n = ((upB W0 i % V : Nat) : Int)

theorem Cut.window {W0 W : List Int} {V n i : Nat} (c : Cut W0 W V n (i + 1)) (hW0 : Limbs W0) (hi : i < W.length) : nv (W.drop i) (n + 1) = ((4294967296 * (upB W0 (i + 1) % V) + (W0.getD i 0).toNat : Nat) : Int) := by
  rw [dropB_getD hi, nvb_cons, c.val, c.low i (by omega), show BB = 4294967296 from rfl]
  have := hW0 i
  omega

/-- The step: the digit is taken. -/
theorem Cut.step {W0 W W' : List Int} {V n i : Nat} (c : Cut W0 W V n (i + 1)) (hW0 : Limbs W0) (hV : 0 < V) (hVn : (V : Int) ≤ BB ^ n) (hl : W'.length = (W.drop i).length) (hL : Limbs W') (hrest : ∀ j, n < j → W'.getD j 0 = (W.drop i).getD j 0)
    (hnum : nv W' (n + 1) = (((4294967296 * (upB W0 (i + 1) % V) + (W0.getD i 0).toNat) % V : Nat) : Int)) (hi : i ≤ W.length) : Cut W0 (W.take i ++ W') V n i := by
  have hti : (W.take i).length = i := by rw [List.length_take]; omega
  have hget : ∀ j, (W.take i ++ W').getD j 0 = if j < i then W.getD j 0 else W'.getD (j - i) 0 := fun j => by
    simp only [List.getD_eq_getElem?_getD, List.getElem?_append, hti]
    split
    · rename_i h; rw [List.getElem?_take_of_lt h]
    · rfl
  have hdrop : (W.take i ++ W').drop i = W' := by
    have := List.drop_left (l₁ := W.take i) (l₂ := W')
    rwa [hti] at this
  have htop : W'.getD n 0 = 0 := by
    rcases Int.lt_or_le (nv W' (n + 1)) (BB ^ n) with h | h
    · rcases Decidable.em (W'.getD n 0 = 0) with h0 | h0
      · exact h0
      · have := nv_ge hL h0; omega
    · have := Nat.mod_lt (4294967296 * (upB W0 (i + 1) % V) + (W0.getD i 0).toNat) hV
      rw [hnum] at h
      omega
  refine ⟨fun j => ?_, ?_, fun j hj => ?_, fun j hj => ?_, ?_⟩
  · rw [hget]
    split
    · exact c.limbs j
    · exact hL _
  · rw [List.length_append, hl, hti, List.length_drop, ← c.len]; omega
  · rw [hget, if_pos hj, c.low j (by omega)]
  · rw [hget, if_neg (by omega)]
    rcases Nat.eq_or_lt_of_le (show n ≤ j - i by omega) with h | h
    · rw [← h]; exact htop
    · rw [hrest _ h]
      have : (W.drop i).getD (j - i) 0 = W.getD j 0 := by
        simp only [List.getD_eq_getElem?_getD, List.getElem?_drop]
        congr 2; omega
      rw [this, c.high j (by omega)]
  · rw [hdrop, (upB_div hW0 hV i).2, ← hnum, nv, htop]; omega
theorem Cut.start {W0 : List Int} {V n M : Nat} (hW0 : Limbs W0) (hl : W0.length ≤ M + n) (ht : upB W0 M < V) : Cut W0 W0 V n M :=
  ⟨hW0, rfl, fun _ _ => rfl, fun j hj => by rw [List.getD_eq_getElem?_getD, List.getElem?_eq_none (by omega)]; rfl, by rw [upB_nv hW0 hl, Nat.mod_eq_of_lt ht]⟩
theorem Cut.done {W0 W : List Int} {V n : Nat} (c : Cut W0 W V n 0) : upB W 0 = upB W0 0 % V := by
  have h := upB_zero c.limbs
  have h2 := c.val
  rw [List.drop_zero] at h2
  have h3 : num W = nv W n := by
    rcases Nat.lt_or_ge n W.length with h4 | h4
    · exact nv_zeros W _ (by omega) (fun i h5 _ => c.high i (by omega))
    · exact (nv_long W h4).symm
  omega
/-- The numbers of the guess for such a step. -/
theorem Cut.guess {W0 W D : List Int} {V n i : Nat} (c : Cut W0 W V n (i + 1)) (hW0 : Limbs W0) (hn : 2 ≤ n) (hD : Limbs D) (hV : nv D n = (V : Int)) (htop : 2147483648 ≤ D.getD (n - 1) 0) (hi : i + n < W.length) :
    ∃ u0 u1 u2 v1 v2 : Nat, (W.drop i).getD n 0 = u0 ∧ (W.drop i).getD (n - 1) 0 = u1 ∧ (W.drop i).getD (n - 2) 0 = u2 ∧ D.getD (n - 1) 0 = v1 ∧ D.getD (n - 2) 0 = v2 ∧ Guess u0 u1 u2 v1 v2 (4294967296 * (upB W0 (i + 1) % V) + (W0.getD i 0).toNat) V := by
  have hVp : 0 < V := by
    have h1 := nv_ge hD (k := n - 1) (by omega)
    rw [show n - 1 + 1 = n by omega, hV] at h1
    have := BB_pos (n - 1)
    omega
  have lW := limbs_drop c.limbs i
  have hR := c.window hW0 (by omega)
  generalize hRR : 4294967296 * (upB W0 (i + 1) % V) + (W0.getD i 0).toNat = R at *
  have hsm : R < V * 4294967296 := by
    have := Nat.mod_lt (upB W0 (i + 1)) hVp
    have := hW0 i
    omega
  generalize W.drop i = X at *
  have x0 := lW n
  have x1 := lW (n - 1)
  have x2 := lW (n - 2)
  have y1 := hD (n - 1)
  have y2 := hD (n - 2)
  have eX : nv X (n + 1) = nv X (n - 2) + X.getD (n - 2) 0 * BB ^ (n - 2) + X.getD (n - 1) 0 * BB ^ (n - 1) + X.getD n 0 * BB ^ n := by
    obtain ⟨m, rfl⟩ : ∃ m, n = m + 2 := ⟨n - 2, by omega⟩
    rfl
  have eD : nv D n = nv D (n - 2) + D.getD (n - 2) 0 * BB ^ (n - 2) + D.getD (n - 1) 0 * BB ^ (n - 1) := by
    obtain ⟨m, rfl⟩ : ∃ m, n = m + 2 := ⟨n - 2, by omega⟩
    rfl
  have e1 : BB ^ (n - 1) = BB ^ (n - 2) * 4294967296 := by
    rw [show n - 1 = n - 2 + 1 by omega, Int.pow_succ]; rfl
  have e2 : BB ^ n = BB ^ (n - 2) * 4294967296 * 4294967296 := by
    rw [show n = n - 2 + 1 + 1 by omega, Int.pow_succ, Int.pow_succ]; rfl
  have b1 := nv_bound lW (n - 2)
  have b2 := nv_bound hD (n - 2)
  rw [e1, e2] at eX
  rw [e1] at eD
  rw [hR] at eX
  rw [hV] at eD
  have hP := BB_pos (n - 2)
  generalize X.getD n 0 = u0 at *
  generalize X.getD (n - 1) 0 = u1 at *
  generalize X.getD (n - 2) 0 = u2 at *
  generalize D.getD (n - 1) 0 = v1 at *
  generalize D.getD (n - 2) 0 = v2 at *
  generalize nv X (n - 2) = rl at *
  generalize nv D (n - 2) = dl at *
  generalize BB ^ (n - 2) = P at *
  obtain ⟨u0, rfl⟩ := Int.eq_ofNat_of_zero_le x0.1
  obtain ⟨u1, rfl⟩ := Int.eq_ofNat_of_zero_le x1.1
  obtain ⟨u2, rfl⟩ := Int.eq_ofNat_of_zero_le x2.1
  obtain ⟨v1, rfl⟩ := Int.eq_ofNat_of_zero_le y1.1
  obtain ⟨v2, rfl⟩ := Int.eq_ofNat_of_zero_le y2.1
  obtain ⟨rl, rfl⟩ := Int.eq_ofNat_of_zero_le b1.1
  obtain ⟨dl, rfl⟩ := Int.eq_ofNat_of_zero_le b2.1
  obtain ⟨P, rfl⟩ := Int.eq_ofNat_of_zero_le (Int.le_of_lt hP)
  refine ⟨u0, u1, u2, v1, v2, rfl, rfl, rfl, rfl, rfl, ⟨by omega, by omega, by omega, by omega, by omega, by omega, ⟨P, rl, dl, by omega, by omega, ?_, ?_⟩, hsm⟩⟩
  · have h0 : u0 * 4294967296 * 4294967296 * P = u0 * P * 4294967296 * 4294967296 := by rw [Nat.mul_right_comm (u0 * 4294967296), Nat.mul_right_comm u0]
    have h1 : u1 * 4294967296 * P = u1 * P * 4294967296 := Nat.mul_right_comm _ _ _
    have g0 : (u0 : Int) * ((P : Int) * 4294967296 * 4294967296) = ((u0 * P : Nat) : Int) * 4294967296 * 4294967296 := by rw [← Int.mul_assoc, ← Int.mul_assoc, Int.natCast_mul]
    have g1 : (u1 : Int) * ((P : Int) * 4294967296) = ((u1 * P : Nat) : Int) * 4294967296 := by rw [← Int.mul_assoc, Int.natCast_mul]
    have g2 : (u2 : Int) * (P : Int) = ((u2 * P : Nat) : Int) := (Int.natCast_mul _ _).symm
    rw [g0, g1, g2] at eX
    rw [Nat.add_mul, Nat.add_mul, Nat.add_mul, h0, h1]
    omega
  · have h1 : v1 * 4294967296 * P = v1 * P * 4294967296 := Nat.mul_right_comm _ _ _
    have g1 : (v1 : Int) * ((P : Int) * 4294967296) = ((v1 * P : Nat) : Int) * 4294967296 := by rw [← Int.mul_assoc, Int.natCast_mul]
    have g2 : (v2 : Int) * (P : Int) = ((v2 * P : Nat) : Int) := (Int.natCast_mul _ _).symm
    rw [g1, g2] at eD
    rw [Nat.add_mul, h1]
    omega
end Go.Proofs.YtpkeneadkiabiaaDoor

