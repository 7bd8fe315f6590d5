/- Contracts: numbers as bit strings, and back. -/
import Derived.Test.YtebijlefkomplaaB9
import Derived.Test.YtebijlefkomplaaIrA3
import Derived.Test.YtebijlefkomplaaU1
set_option linter.unusedSimpArgs false
set_option linter.unusedVariables false
namespace Go.Proofs.Ytebijlefkomplaa
open Go Go.Vh

def bitsOf (t s : Nat) : Nat → Bool := fun d => t.testBit (s - 1 - d)
def partOf (t s k : Nat) : Nat → Bool := fun d => if k ≤ d then t.testBit (s - 1 - d) else false

theorem rNumber_calls (t s : Nat) (ht : t < 2 ^ 63) (hs : s ≤ 64) : ACalls Try.prog 33 [.int .u64 t, .int .i64 s] [] [] fun v H => v = .slice 0 0 s s ∧ H = [rw_ (bt s (bitsOf t s))] := by
  refine ACalls.body Try.func33 ent_rNumber ir_rNumber_ok rs_rNumber_ok Try.ntmps33 (by simp) rfl ?_
  unfold ir_rNumber
  have e0 : s0 [.int .u64 (t : Int), .int .i64 (s : Int)] 0 = .int .u64 (t : Int) := rfl
  have e1 : s0 [.int .u64 (t : Int), .int .i64 (s : Int)] 1 = .int .i64 (s : Int) := rfl
  simp (disch := omega) only [e_skip, e_ops, e_dops, e_seq, e_condI, e_condFb, e_gTF, e_gFT, e_gU, e_unv, e_bTT, e_bFF, e_bTF, e_bFT, e_beq1, e_beq2, Bool.not_true, Bool.not_false, e_block, e_exit, e_ret, e_seqN, e_seqE, e_seqR, e_blockN, e_blockR, e_blockE, e_nil, e_consN, e_consGI, e_nilD, e_consDN, e_consDGI, e_pure, e_eff, e_call, e_pureD, e_effD1, e_effD2, e_effD3, e_callD2, e_callD3, e_thenP, e_thenE, e_thenL, e_putS, e_putN, e_upd, e_t, e_c, e_none, e_some, e_bindS, p_move, p_bin, p_len, p_conv, p_pick, p_indexAddr, p_slice, p_extract, p_not, b_add, b_sub, b_mul, b_eql, b_neq, b_lss, b_leq, b_gtr, b_geq, l_nil, l_slice, l_sliceU, x_load1, ↓reduceIte, Nat.reduceEqDiff, Nat.reduceAdd, Nat.reduceMul, Nat.reduceSub, reduceCtorEq, Nat.zero_add, Nat.add_zero, Nat.mul_one, w64, wu32, wu64, beqT, beqF, bneT, bneF, dT, dF, a_idx, a_idxU, a_hi, a_hiN, a_sl, r_ro0, r_rw0, r_sl0, r_succ, ints_get, toNat_sub1, nat_toNat, Nat.add_sub_cancel, q_tmp, q_then, e0, e1]
  rw [x_makeB (n := s) (by simp only [e_upd, e_putS, e_putN, e_t, e_c, Nat.reduceEqDiff, ↓reduceIte, reduceCtorEq, Nat.reduceAdd, e1]) (by omega) (by omega)]
  simp (disch := omega) only [e_skip, e_ops, e_dops, e_seq, e_condI, e_condFb, e_gTF, e_gFT, e_gU, e_unv, e_bTT, e_bFF, e_bTF, e_bFT, e_beq1, e_beq2, Bool.not_true, Bool.not_false, e_block, e_exit, e_ret, e_seqN, e_seqE, e_seqR, e_blockN, e_blockR, e_blockE, e_nil, e_consN, e_consGI, e_nilD, e_consDN, e_consDGI, e_pure, e_eff, e_call, e_pureD, e_effD1, e_effD2, e_effD3, e_callD2, e_callD3, e_thenP, e_thenE, e_thenL, e_putS, e_putN, e_upd, e_t, e_c, e_none, e_some, e_bindS, p_move, p_bin, p_len, p_conv, p_pick, p_indexAddr, p_slice, p_extract, p_not, b_add, b_sub, b_mul, b_eql, b_neq, b_lss, b_leq, b_gtr, b_geq, l_nil, l_slice, l_sliceU, x_load1, ↓reduceIte, Nat.reduceEqDiff, Nat.reduceAdd, Nat.reduceMul, Nat.reduceSub, reduceCtorEq, Nat.zero_add, Nat.add_zero, Nat.mul_one, w64, wu32, wu64, beqT, beqF, bneT, bneF, dT, dF, a_idx, a_idxU, a_hi, a_hiN, a_sl, r_ro0, r_rw0, r_sl0, r_succ, ints_get, toNat_sub1, nat_toNat, Nat.add_sub_cancel, q_tmp, q_then, e0, e1]
  refine ⟨fun m st H => ∃ k : Nat, m = k ∧ k ≤ s ∧ st 0 = .int .u64 ((t / 2 ^ (s - k) : Nat) : Int) ∧ st 5 = .slice 0 0 s s ∧ st 6 = .int .i64 ((k : Int) - 1) ∧ H = [rw_ (bt s (partOf t s k))], s, ⟨s, rfl, Nat.le_refl s, ?_, ?_, ?_, ?_⟩, ?_⟩
  · simp only [e_upd, e_putS, e_putN, e_t, e_c, Nat.reduceEqDiff, ↓reduceIte, reduceCtorEq, Nat.reduceAdd, e0, Nat.sub_self, Nat.pow_zero, Nat.div_one]
  · simp only [e_upd, e_putS, e_putN, e_t, e_c, Nat.reduceEqDiff, ↓reduceIte, reduceCtorEq, Nat.reduceAdd]; rfl
  · simp only [e_upd, e_putS, e_putN, e_t, e_c, Nat.reduceEqDiff, ↓reduceIte, reduceCtorEq, Nat.reduceAdd]
  · have : bt s (partOf t s s) = bt s (fun _ => false) := bt_congr fun i hi => by simp [partOf, show ¬ s ≤ i by omega]
    rw [this]; rfl
  rintro m st H ⟨k, hm, hk, h0, h5, h6, rfl⟩
  cases k with
  | zero =>
    simp (disch := omega) only [e_skip, e_ops, e_dops, e_seq, e_condI, e_condFb, e_gTF, e_gFT, e_gU, e_unv, e_bTT, e_bFF, e_bTF, e_bFT, e_beq1, e_beq2, Bool.not_true, Bool.not_false, e_block, e_exit, e_ret, e_seqN, e_seqE, e_seqR, e_blockN, e_blockR, e_blockE, e_nil, e_consN, e_consGI, e_nilD, e_consDN, e_consDGI, e_pure, e_eff, e_call, e_pureD, e_effD1, e_effD2, e_effD3, e_callD2, e_callD3, e_thenP, e_thenE, e_thenL, e_putS, e_putN, e_upd, e_t, e_c, e_none, e_some, e_bindS, p_move, p_bin, p_len, p_conv, p_pick, p_indexAddr, p_slice, p_extract, p_not, b_add, b_sub, b_mul, b_eql, b_neq, b_lss, b_leq, b_gtr, b_geq, l_nil, l_slice, l_sliceU, x_load1, ↓reduceIte, Nat.reduceEqDiff, Nat.reduceAdd, Nat.reduceMul, Nat.reduceSub, reduceCtorEq, Nat.zero_add, Nat.add_zero, Nat.mul_one, w64, wu32, wu64, beqT, beqF, bneT, bneF, dT, dF, a_idx, a_idxU, a_hi, a_hiN, a_sl, r_ro0, r_rw0, r_sl0, r_succ, ints_get, toNat_sub1, nat_toNat, Nat.add_sub_cancel, q_tmp, q_then, h0, h5, h6]
    refine ret_both (by simp) q_tmp ?_ ?_
    · simp only [e_upd, e_putS, e_putN, e_t, e_c, Nat.reduceEqDiff, ↓reduceIte, reduceCtorEq, Nat.reduceAdd, h5]
    · have : bt s (partOf t s 0) = bt s (bitsOf t s) := bt_congr fun i _ => by simp [partOf, bitsOf]
      rw [this]
  | succ k =>
    have h6' : st 6 = .int .i64 (k : Int) := by rw [h6]; congr 1; omega
    have hz : t / 2 ^ (s - (k + 1)) < 2 ^ 64 := Nat.lt_of_le_of_lt (Nat.div_le_self _ _) (by omega)
    have a1 : abin .rem (.int .u64 ((t / 2 ^ (s - (k + 1)) : Nat) : Int)) (.int .u64 2) = some (.int .u64 (((t / 2 ^ (s - (k + 1)) : Nat) : Int) % 2)) := b_rem (Int.natCast_nonneg _) (by decide)
    have a2 : abin .quo (.int .u64 ((t / 2 ^ (s - (k + 1)) : Nat) : Int)) (.int .u64 2) = some (.int .u64 ((t / 2 ^ (s - k) : Nat) : Int)) := by
      have e : t / 2 ^ (s - k) = t / 2 ^ (s - (k + 1)) / 2 := by
        rw [show s - k = (s - (k + 1)) + 1 by omega, Nat.pow_succ, Nat.div_div_eq_div_mul]
      rw [b_quo (Int.natCast_nonneg _) (by decide), e]
      generalize t / 2 ^ (s - (k + 1)) = z at hz ⊢
      rw [wu64 (x := (z : Int) / 2) (by omega) (by omega)]; rfl
    have i0 : aindexAddr 1 (.slice 0 0 s s) (.int .i64 (k : Int)) = some (.ptr 0 k) := by
      rw [a_idx (by omega) (by omega)]; simp
    have hge : (0 : Int) ≤ (k : Int) := by omega
    simp (disch := omega) only [e_skip, e_ops, e_dops, e_seq, e_condI, e_condFb, e_gTF, e_gFT, e_gU, e_unv, e_bTT, e_bFF, e_bTF, e_bFT, e_beq1, e_beq2, Bool.not_true, Bool.not_false, e_block, e_exit, e_ret, e_seqN, e_seqE, e_seqR, e_blockN, e_blockR, e_blockE, e_nil, e_consN, e_consGI, e_nilD, e_consDN, e_consDGI, e_pure, e_eff, e_call, e_pureD, e_effD1, e_effD2, e_effD3, e_callD2, e_callD3, e_thenP, e_thenE, e_thenL, e_putS, e_putN, e_upd, e_t, e_c, e_none, e_some, e_bindS, p_move, p_bin, p_len, p_conv, p_pick, p_indexAddr, p_slice, p_extract, p_not, b_add, b_sub, b_mul, b_eql, b_neq, b_lss, b_leq, b_gtr, b_geq, l_nil, l_slice, l_sliceU, x_load1, ↓reduceIte, Nat.reduceEqDiff, Nat.reduceAdd, Nat.reduceMul, Nat.reduceSub, reduceCtorEq, Nat.zero_add, Nat.add_zero, Nat.mul_one, w64, wu32, wu64, beqT, beqF, bneT, bneF, dT, dF, a_idx, a_idxU, a_hi, a_hiN, a_sl, r_ro0, r_rw0, r_sl0, r_succ, ints_get, toNat_sub1, nat_toNat, Nat.add_sub_cancel, q_tmp, q_then, h0, h5, h6', a1, i0, cast_rem]
    rw [x_putB (r := 0) (off := k) (b := decide (t / 2 ^ (s - (k + 1)) % 2 = 1)) (n := s) (f := partOf t s (k + 1)) (by simp only [e_upd, e_putS, e_putN, e_t, e_c, Nat.reduceEqDiff, ↓reduceIte, reduceCtorEq, Nat.reduceAdd]) (by simp only [e_upd, e_putS, e_putN, e_t, e_c, Nat.reduceEqDiff, ↓reduceIte, reduceCtorEq, Nat.reduceAdd]) rfl (by omega)]
    simp (disch := omega) only [e_skip, e_ops, e_dops, e_seq, e_condI, e_condFb, e_gTF, e_gFT, e_gU, e_unv, e_bTT, e_bFF, e_bTF, e_bFT, e_beq1, e_beq2, Bool.not_true, Bool.not_false, e_block, e_exit, e_ret, e_seqN, e_seqE, e_seqR, e_blockN, e_blockR, e_blockE, e_nil, e_consN, e_consGI, e_nilD, e_consDN, e_consDGI, e_pure, e_eff, e_call, e_pureD, e_effD1, e_effD2, e_effD3, e_callD2, e_callD3, e_thenP, e_thenE, e_thenL, e_putS, e_putN, e_upd, e_t, e_c, e_none, e_some, e_bindS, p_move, p_bin, p_len, p_conv, p_pick, p_indexAddr, p_slice, p_extract, p_not, b_add, b_sub, b_mul, b_eql, b_neq, b_lss, b_leq, b_gtr, b_geq, l_nil, l_slice, l_sliceU, x_load1, ↓reduceIte, Nat.reduceEqDiff, Nat.reduceAdd, Nat.reduceMul, Nat.reduceSub, reduceCtorEq, Nat.zero_add, Nat.add_zero, Nat.mul_one, w64, wu32, wu64, beqT, beqF, bneT, bneF, dT, dF, a_idx, a_idxU, a_hi, a_hiN, a_sl, r_ro0, r_rw0, r_sl0, r_succ, ints_get, toNat_sub1, nat_toNat, Nat.add_sub_cancel, q_tmp, q_then, h0, h5, h6', a2]
    refine loop_keep (m := k) (by omega) ⟨k, rfl, by omega, ?_, ?_, ?_, ?_⟩
    · simp only [e_upd, e_putS, e_putN, e_t, e_c, Nat.reduceEqDiff, ↓reduceIte, reduceCtorEq, Nat.reduceAdd]
    · simp only [e_upd, e_putS, e_putN, e_t, e_c, Nat.reduceEqDiff, ↓reduceIte, reduceCtorEq, Nat.reduceAdd, h5]
    · simp only [e_upd, e_putS, e_putN, e_t, e_c, Nat.reduceEqDiff, ↓reduceIte, reduceCtorEq, Nat.reduceAdd]
    · have : bt s (fun j => if j = k then decide (t / 2 ^ (s - (k + 1)) % 2 = 1) else partOf t s (k + 1) j) = bt s (partOf t s k) := bt_congr fun i hi => by
        unfold partOf
        by_cases e : i = k
        · subst e
          rw [if_pos rfl, if_pos (Nat.le_refl i), Nat.testBit_eq_decide_div_mod_eq, show s - 1 - i = s - (i + 1) by omega]
        · by_cases e2 : k ≤ i
          · simp [e, e2, show k + 1 ≤ i by omega]
          · simp [e, e2, show ¬ k + 1 ≤ i by omega]
      rw [this]; rfl

theorem rWord_calls (κ : SK) (m : Nat) (h : Nat → Bool) (hk : okS κ m) (hm : m ≤ 60) : ACalls Try.prog 34 [mkS κ 0 0 m] [ro (bt m h)] (List.range 1) fun v H => v = .int .u64 ((Gf.wd h m : Nat) : Int) ∧ H = [ro (bt m h)] := by
  refine ACalls.body Try.func34 ent_rWord ir_rWord_ok rs_rWord_ok Try.ntmps34 (by simp) rfl ?_
  unfold ir_rWord
  have e0 : s0 [mkS κ 0 0 m] 0 = mkS κ 0 0 m := rfl
  simp (disch := omega) only [e_skip, e_ops, e_dops, e_seq, e_condI, e_condFb, e_gTF, e_gFT, e_gU, e_unv, e_bTT, e_bFF, e_bTF, e_bFT, e_beq1, e_beq2, Bool.not_true, Bool.not_false, e_block, e_exit, e_ret, e_seqN, e_seqE, e_seqR, e_blockN, e_blockR, e_blockE, e_nil, e_consN, e_consGI, e_nilD, e_consDN, e_consDGI, e_pure, e_eff, e_call, e_pureD, e_effD1, e_effD2, e_effD3, e_callD2, e_callD3, e_thenP, e_thenE, e_thenL, e_putS, e_putN, e_upd, e_t, e_c, e_none, e_some, e_bindS, p_move, p_bin, p_len, p_conv, p_pick, p_indexAddr, p_slice, p_extract, p_not, b_add, b_sub, b_mul, b_eql, b_neq, b_lss, b_leq, b_gtr, b_geq, l_nil, l_slice, l_sliceU, x_load1, ↓reduceIte, Nat.reduceEqDiff, Nat.reduceAdd, Nat.reduceMul, Nat.reduceSub, reduceCtorEq, Nat.zero_add, Nat.add_zero, Nat.mul_one, w64, wu32, wu64, beqT, beqF, bneT, bneF, dT, dF, a_idx, a_idxU, a_hi, a_hiN, a_sl, r_ro0, r_rw0, r_sl0, r_succ, ints_get, toNat_sub1, nat_toNat, Nat.add_sub_cancel, q_tmp, q_then]
  refine ⟨fun n s H => ∃ j, n = m - j ∧ j ≤ m ∧ s 0 = mkS κ 0 0 m ∧ s 3 = .int .u64 ((Gf.wd h j : Nat) : Int) ∧ s 4 = .int .i64 (j : Int) ∧ H = [ro (bt m h)], m, ⟨0, rfl, by omega, ?_, ?_, ?_, rfl⟩, ?_⟩
  · simp only [e_upd, e_putS, e_putN, e_t, e_c, Nat.reduceEqDiff, ↓reduceIte, reduceCtorEq, Nat.reduceAdd, e0]
  · simp only [e_upd, e_putS, e_putN, e_t, e_c, Nat.reduceEqDiff, ↓reduceIte, reduceCtorEq, Nat.reduceAdd]; rfl
  · simp only [e_upd, e_putS, e_putN, e_t, e_c, Nat.reduceEqDiff, ↓reduceIte, reduceCtorEq, Nat.reduceAdd]; rfl
  rintro n s H ⟨j, hn, hj, h0, h3, h4, rfl⟩
  have hw := Gf.wd_lt h j
  have hp : 2 ^ j ≤ 2 ^ 60 := Nat.pow_le_pow_right (by decide) (by omega)
  by_cases hlt : (j : Int) < (m : Int)
  · have hjm : j < m := by omega
    have i0 : aindexAddr 1 (mkS κ 0 0 m) (.int .i64 (j : Int)) = some (.ptr 0 j) := by
      rw [k_idx hk (Nat.le_refl m) (by omega) (by omega)]; simp
    have g0 : (bt m h)[j]? = some (.bool (h j)) := bt_get hjm
    cases hb : h j with
    | true =>
      rw [hb] at g0
      simp (disch := omega) only [e_skip, e_ops, e_dops, e_seq, e_condI, e_condFb, e_gTF, e_gFT, e_gU, e_unv, e_bTT, e_bFF, e_bTF, e_bFT, e_beq1, e_beq2, Bool.not_true, Bool.not_false, e_block, e_exit, e_ret, e_seqN, e_seqE, e_seqR, e_blockN, e_blockR, e_blockE, e_nil, e_consN, e_consGI, e_nilD, e_consDN, e_consDGI, e_pure, e_eff, e_call, e_pureD, e_effD1, e_effD2, e_effD3, e_callD2, e_callD3, e_thenP, e_thenE, e_thenL, e_putS, e_putN, e_upd, e_t, e_c, e_none, e_some, e_bindS, p_move, p_bin, p_len, p_conv, p_pick, p_indexAddr, p_slice, p_extract, p_not, b_add, b_sub, b_mul, b_eql, b_neq, b_lss, b_leq, b_gtr, b_geq, l_nil, l_slice, l_sliceU, x_load1, ↓reduceIte, Nat.reduceEqDiff, Nat.reduceAdd, Nat.reduceMul, Nat.reduceSub, reduceCtorEq, Nat.zero_add, Nat.add_zero, Nat.mul_one, w64, wu32, wu64, beqT, beqF, bneT, bneF, dT, dF, a_idx, a_idxU, a_hi, a_hiN, a_sl, r_ro0, r_rw0, r_sl0, r_succ, ints_get, toNat_sub1, nat_toNat, Nat.add_sub_cancel, q_tmp, q_then, h0, h3, h4, k_len hk, i0, g0]
      refine loop_keep (m := m - (j + 1)) (by omega) ⟨j + 1, rfl, by omega, ?_, ?_, ?_, rfl⟩
      · simp only [e_upd, e_putS, e_putN, e_t, e_c, Nat.reduceEqDiff, ↓reduceIte, reduceCtorEq, Nat.reduceAdd, h0]
      · simp only [e_upd, e_putS, e_putN, e_t, e_c, Nat.reduceEqDiff, ↓reduceIte, reduceCtorEq, Nat.reduceAdd, Gf.wd, hb, if_true]; rfl
      · simp only [e_upd, e_putS, e_putN, e_t, e_c, Nat.reduceEqDiff, ↓reduceIte, reduceCtorEq, Nat.reduceAdd]; rfl
    | false =>
      rw [hb] at g0
      simp (disch := omega) only [e_skip, e_ops, e_dops, e_seq, e_condI, e_condFb, e_gTF, e_gFT, e_gU, e_unv, e_bTT, e_bFF, e_bTF, e_bFT, e_beq1, e_beq2, Bool.not_true, Bool.not_false, e_block, e_exit, e_ret, e_seqN, e_seqE, e_seqR, e_blockN, e_blockR, e_blockE, e_nil, e_consN, e_consGI, e_nilD, e_consDN, e_consDGI, e_pure, e_eff, e_call, e_pureD, e_effD1, e_effD2, e_effD3, e_callD2, e_callD3, e_thenP, e_thenE, e_thenL, e_putS, e_putN, e_upd, e_t, e_c, e_none, e_some, e_bindS, p_move, p_bin, p_len, p_conv, p_pick, p_indexAddr, p_slice, p_extract, p_not, b_add, b_sub, b_mul, b_eql, b_neq, b_lss, b_leq, b_gtr, b_geq, l_nil, l_slice, l_sliceU, x_load1, ↓reduceIte, Nat.reduceEqDiff, Nat.reduceAdd, Nat.reduceMul, Nat.reduceSub, reduceCtorEq, Nat.zero_add, Nat.add_zero, Nat.mul_one, w64, wu32, wu64, beqT, beqF, bneT, bneF, dT, dF, a_idx, a_idxU, a_hi, a_hiN, a_sl, r_ro0, r_rw0, r_sl0, r_succ, ints_get, toNat_sub1, nat_toNat, Nat.add_sub_cancel, q_tmp, q_then, h0, h3, h4, k_len hk, i0, g0]
      refine loop_keep (m := m - (j + 1)) (by omega) ⟨j + 1, rfl, by omega, ?_, ?_, ?_, rfl⟩
      · simp only [e_upd, e_putS, e_putN, e_t, e_c, Nat.reduceEqDiff, ↓reduceIte, reduceCtorEq, Nat.reduceAdd, h0]
      · simp only [e_upd, e_putS, e_putN, e_t, e_c, Nat.reduceEqDiff, ↓reduceIte, reduceCtorEq, Nat.reduceAdd, Gf.wd, hb]; rfl
      · simp only [e_upd, e_putS, e_putN, e_t, e_c, Nat.reduceEqDiff, ↓reduceIte, reduceCtorEq, Nat.reduceAdd]; rfl
  · have hjm : j = m := by omega
    subst hjm
    simp (disch := omega) only [e_skip, e_ops, e_dops, e_seq, e_condI, e_condFb, e_gTF, e_gFT, e_gU, e_unv, e_bTT, e_bFF, e_bTF, e_bFT, e_beq1, e_beq2, Bool.not_true, Bool.not_false, e_block, e_exit, e_ret, e_seqN, e_seqE, e_seqR, e_blockN, e_blockR, e_blockE, e_nil, e_consN, e_consGI, e_nilD, e_consDN, e_consDGI, e_pure, e_eff, e_call, e_pureD, e_effD1, e_effD2, e_effD3, e_callD2, e_callD3, e_thenP, e_thenE, e_thenL, e_putS, e_putN, e_upd, e_t, e_c, e_none, e_some, e_bindS, p_move, p_bin, p_len, p_conv, p_pick, p_indexAddr, p_slice, p_extract, p_not, b_add, b_sub, b_mul, b_eql, b_neq, b_lss, b_leq, b_gtr, b_geq, l_nil, l_slice, l_sliceU, x_load1, ↓reduceIte, Nat.reduceEqDiff, Nat.reduceAdd, Nat.reduceMul, Nat.reduceSub, reduceCtorEq, Nat.zero_add, Nat.add_zero, Nat.mul_one, w64, wu32, wu64, beqT, beqF, bneT, bneF, dT, dF, a_idx, a_idxU, a_hi, a_hiN, a_sl, r_ro0, r_rw0, r_sl0, r_succ, ints_get, toNat_sub1, nat_toNat, Nat.add_sub_cancel, q_tmp, q_then, h0, h3, h4, k_len hk]
    refine ret_both (by simp) q_tmp ?_ rfl
    simp only [e_upd, e_putS, e_putN, e_t, e_c, Nat.reduceEqDiff, ↓reduceIte, reduceCtorEq, Nat.reduceAdd, h3]

/-- The hash, by the number of its seed. -/
theorem th_bits (n m : Nat) (f : Nat → Bool) (t : Nat) (hn : 1 ≤ n) : ∀ j, j ≤ n → ∀ i, i < m → th n f (bitsOf t (n + m - 1)) j i = (Gf.lx f j t).testBit (m - 1 - i)
  | 0, _, i, _ => by simp [th, Gf.lx]
  | j + 1, hj, i, hi => by
    rw [th, Gf.lx, Nat.testBit_xor, th_bits n m f t hn j (by omega) i hi]
    cases f j with
    | false => simp
    | true =>
      have e : bitsOf t (n + m - 1) (n - 1 - j + i) = (t / 2 ^ j).testBit (m - 1 - i) := by
        unfold bitsOf
        rw [Nat.testBit_div_two_pow]
        congr 1
        omega
      simp [e]

theorem word_hs (n m : Nat) (f : Nat → Bool) (t : Nat) (hn : 1 ≤ n) : Gf.wd (th n f (bitsOf t (n + m - 1)) n) m = Gf.hs f n m t := by
  unfold Gf.hs
  rw [← Gf.wd_word (Gf.lx f n t) m]
  exact Gf.wd_congr fun i hi => th_bits n m f t hn n (Nat.le_refl n) i hi
end Go.Proofs.Ytebijlefkomplaa

/- The law of uniform hashes. -/
namespace Go.Proofs.Ytebijlefkomplaa
open Go Go.Vh

theorem shl_one {w : Nat} (h : w ≤ 60) : abin .shl (.int .i64 1) (.int .i64 (w : Int)) = some (.int .i64 ((2 ^ w : Nat) : Int)) := by
  have hp : 2 ^ w ≤ 2 ^ 60 := Nat.pow_le_pow_right (by decide) h
  have hp0 : 0 < 2 ^ w := Nat.two_pow_pos w
  rw [b_shl (k := .i64) (n := w) (by simp [IntKind.bits]; omega)]
  have : (1 : Int) * 2 ^ w = ((2 ^ w : Nat) : Int) := by simp
  rw [this, w64 (by omega) (by omega)]

set_option maxHeartbeats 4000000 in
theorem lUniform_calls (κ : SK) (n ov : Nat) (f : Nat → Bool) (hk : okS κ n) (hnm : n ≤ maxLen) (hov : ov ≤ 255) : ACalls Try.prog 10 [mkS κ 0 0 n, .int .u8 ov] [ro (bt n f)] (List.range 1) fun v _ => v = .bool true := by
  refine ACalls.body Try.func10 ent_lUniform ir_lUniform_ok rs_lUniform_ok Try.ntmps10 (by simp) rfl ?_
  unfold ir_lUniform
  have hn' : n ≤ 9223372036854775807 := Nat.le_trans hnm (by decide)
  have e0 : s0 [mkS κ 0 0 n, .int .u8 (ov : Int)] 0 = mkS κ 0 0 n := rfl
  have e1 : s0 [mkS κ 0 0 n, .int .u8 (ov : Int)] 1 = .int .u8 (ov : Int) := rfl
  obtain ⟨m, hm⟩ : ∃ m, m = ov % 5 := ⟨_, rfl⟩
  have hm4 : m ≤ 4 := by omega
  have rem5 : abin .rem (.int .u8 (ov : Int)) (.int .u8 5) = some (.int .u8 (m : Int)) := by
    rw [b_rem (by omega) (by decide)]; congr 2; omega
  by_cases c1 : n < 1
  · have z1 : decide ((n : Int) < 1) = true := decide_eq_true (by omega)
    simp (disch := omega) only [e_skip, e_ops, e_dops, e_seq, e_condI, e_condFb, e_gTF, e_gFT, e_gU, e_unv, e_bTT, e_bFF, e_bTF, e_bFT, e_beq1, e_beq2, Bool.not_true, Bool.not_false, e_block, e_exit, e_ret, e_seqN, e_seqE, e_seqR, e_blockN, e_blockR, e_blockE, e_nil, e_consN, e_consGI, e_nilD, e_consDN, e_consDGI, e_pure, e_eff, e_call, e_pureD, e_effD1, e_effD2, e_effD3, e_callD2, e_callD3, e_thenP, e_thenE, e_thenL, e_putS, e_putN, e_upd, e_t, e_c, e_none, e_some, e_bindS, p_move, p_bin, p_len, p_conv, p_pick, p_indexAddr, p_slice, p_extract, p_not, b_add, b_sub, b_mul, b_eql, b_neq, b_lss, b_leq, b_gtr, b_geq, l_nil, l_slice, l_sliceU, x_load1, ↓reduceIte, Nat.reduceEqDiff, Nat.reduceAdd, Nat.reduceMul, Nat.reduceSub, reduceCtorEq, Nat.zero_add, Nat.add_zero, Nat.mul_one, w64, wu32, wu64, beqT, beqF, bneT, bneF, dT, dF, a_idx, a_idxU, a_hi, a_hiN, a_sl, r_ro0, r_rw0, r_sl0, r_succ, ints_get, toNat_sub1, nat_toNat, Nat.add_sub_cancel, q_tmp, q_then, e0, e1, k_len hk, rem5, z1]
    refine call_known ?_
    simp (disch := omega) only [e_skip, e_ops, e_dops, e_seq, e_condI, e_condFb, e_gTF, e_gFT, e_gU, e_unv, e_bTT, e_bFF, e_bTF, e_bFT, e_beq1, e_beq2, Bool.not_true, Bool.not_false, e_block, e_exit, e_ret, e_seqN, e_seqE, e_seqR, e_blockN, e_blockR, e_blockE, e_nil, e_consN, e_consGI, e_nilD, e_consDN, e_consDGI, e_pure, e_eff, e_call, e_pureD, e_effD1, e_effD2, e_effD3, e_callD2, e_callD3, e_thenP, e_thenE, e_thenL, e_putS, e_putN, e_upd, e_t, e_c, e_none, e_some, e_bindS, p_move, p_bin, p_len, p_conv, p_pick, p_indexAddr, p_slice, p_extract, p_not, b_add, b_sub, b_mul, b_eql, b_neq, b_lss, b_leq, b_gtr, b_geq, l_nil, l_slice, l_sliceU, x_load1, ↓reduceIte, Nat.reduceEqDiff, Nat.reduceAdd, Nat.reduceMul, Nat.reduceSub, reduceCtorEq, Nat.zero_add, Nat.add_zero, Nat.mul_one, w64, wu32, wu64, beqT, beqF, bneT, bneF, dT, dF, a_idx, a_idxU, a_hi, a_hiN, a_sl, r_ro0, r_rw0, r_sl0, r_succ, ints_get, toNat_sub1, nat_toNat, Nat.add_sub_cancel, q_tmp, q_then]
    exact ret_val (by simp) q_tmp (by simp only [e_upd, e_putS, e_putN, e_t, e_c, Nat.reduceEqDiff, ↓reduceIte, reduceCtorEq, Nat.reduceAdd])
  have z1 : decide ((n : Int) < 1) = false := decide_eq_false (by omega)
  by_cases c2 : 6 < n
  · have z2 : decide ((6 : Int) < (n : Int)) = true := decide_eq_true (by omega)
    simp (disch := omega) only [e_skip, e_ops, e_dops, e_seq, e_condI, e_condFb, e_gTF, e_gFT, e_gU, e_unv, e_bTT, e_bFF, e_bTF, e_bFT, e_beq1, e_beq2, Bool.not_true, Bool.not_false, e_block, e_exit, e_ret, e_seqN, e_seqE, e_seqR, e_blockN, e_blockR, e_blockE, e_nil, e_consN, e_consGI, e_nilD, e_consDN, e_consDGI, e_pure, e_eff, e_call, e_pureD, e_effD1, e_effD2, e_effD3, e_callD2, e_callD3, e_thenP, e_thenE, e_thenL, e_putS, e_putN, e_upd, e_t, e_c, e_none, e_some, e_bindS, p_move, p_bin, p_len, p_conv, p_pick, p_indexAddr, p_slice, p_extract, p_not, b_add, b_sub, b_mul, b_eql, b_neq, b_lss, b_leq, b_gtr, b_geq, l_nil, l_slice, l_sliceU, x_load1, ↓reduceIte, Nat.reduceEqDiff, Nat.reduceAdd, Nat.reduceMul, Nat.reduceSub, reduceCtorEq, Nat.zero_add, Nat.add_zero, Nat.mul_one, w64, wu32, wu64, beqT, beqF, bneT, bneF, dT, dF, a_idx, a_idxU, a_hi, a_hiN, a_sl, r_ro0, r_rw0, r_sl0, r_succ, ints_get, toNat_sub1, nat_toNat, Nat.add_sub_cancel, q_tmp, q_then, e0, e1, k_len hk, rem5, z1, z2]
    refine call_known ?_
    simp (disch := omega) only [e_skip, e_ops, e_dops, e_seq, e_condI, e_condFb, e_gTF, e_gFT, e_gU, e_unv, e_bTT, e_bFF, e_bTF, e_bFT, e_beq1, e_beq2, Bool.not_true, Bool.not_false, e_block, e_exit, e_ret, e_seqN, e_seqE, e_seqR, e_blockN, e_blockR, e_blockE, e_nil, e_consN, e_consGI, e_nilD, e_consDN, e_consDGI, e_pure, e_eff, e_call, e_pureD, e_effD1, e_effD2, e_effD3, e_callD2, e_callD3, e_thenP, e_thenE, e_thenL, e_putS, e_putN, e_upd, e_t, e_c, e_none, e_some, e_bindS, p_move, p_bin, p_len, p_conv, p_pick, p_indexAddr, p_slice, p_extract, p_not, b_add, b_sub, b_mul, b_eql, b_neq, b_lss, b_leq, b_gtr, b_geq, l_nil, l_slice, l_sliceU, x_load1, ↓reduceIte, Nat.reduceEqDiff, Nat.reduceAdd, Nat.reduceMul, Nat.reduceSub, reduceCtorEq, Nat.zero_add, Nat.add_zero, Nat.mul_one, w64, wu32, wu64, beqT, beqF, bneT, bneF, dT, dF, a_idx, a_idxU, a_hi, a_hiN, a_sl, r_ro0, r_rw0, r_sl0, r_succ, ints_get, toNat_sub1, nat_toNat, Nat.add_sub_cancel, q_tmp, q_then]
    exact ret_val (by simp) q_tmp (by simp only [e_upd, e_putS, e_putN, e_t, e_c, Nat.reduceEqDiff, ↓reduceIte, reduceCtorEq, Nat.reduceAdd])
  have z2 : decide ((6 : Int) < (n : Int)) = false := decide_eq_false (by omega)
  obtain ⟨S, hS⟩ : ∃ S, S = n + m - 1 := ⟨_, rfl⟩
  obtain ⟨M, hM⟩ : ∃ M, M = 2 ^ m := ⟨_, rfl⟩
  have hM4 : M ≤ 16 := by rw [hM]; exact Nat.pow_le_pow_right (n := 2) (by decide) hm4
  have hM0 : 0 < M := by rw [hM]; exact Nat.two_pow_pos m
  have hS9 : S ≤ 9 := by omega
  have hP : 2 ^ S ≤ 512 := Nat.pow_le_pow_right (n := 2) (by decide) hS9
  have hP0 : 0 < 2 ^ S := Nat.two_pow_pos S
  have hSi : (n : Int) + (m : Int) - 1 = (S : Int) := by omega
  have shM : abin .shl (.int .i64 1) (.int .i64 (m : Int)) = some (.int .i64 (M : Int)) := by rw [shl_one (by omega), hM]
  have shS : abin .shl (.int .i64 1) (.int .i64 (S : Int)) = some (.int .i64 ((2 ^ S : Nat) : Int)) := shl_one (by omega)
  simp (disch := omega) only [e_skip, e_ops, e_dops, e_seq, e_condI, e_condFb, e_gTF, e_gFT, e_gU, e_unv, e_bTT, e_bFF, e_bTF, e_bFT, e_beq1, e_beq2, Bool.not_true, Bool.not_false, e_block, e_exit, e_ret, e_seqN, e_seqE, e_seqR, e_blockN, e_blockR, e_blockE, e_nil, e_consN, e_consGI, e_nilD, e_consDN, e_consDGI, e_pure, e_eff, e_call, e_pureD, e_effD1, e_effD2, e_effD3, e_callD2, e_callD3, e_thenP, e_thenE, e_thenL, e_putS, e_putN, e_upd, e_t, e_c, e_none, e_some, e_bindS, p_move, p_bin, p_len, p_conv, p_pick, p_indexAddr, p_slice, p_extract, p_not, b_add, b_sub, b_mul, b_eql, b_neq, b_lss, b_leq, b_gtr, b_geq, l_nil, l_slice, l_sliceU, x_load1, ↓reduceIte, Nat.reduceEqDiff, Nat.reduceAdd, Nat.reduceMul, Nat.reduceSub, reduceCtorEq, Nat.zero_add, Nat.add_zero, Nat.mul_one, w64, wu32, wu64, beqT, beqF, bneT, bneF, dT, dF, a_idx, a_idxU, a_hi, a_hiN, a_sl, r_ro0, r_rw0, r_sl0, r_succ, ints_get, toNat_sub1, nat_toNat, Nat.add_sub_cancel, q_tmp, q_then, e0, e1, k_len hk, rem5, z1, z2, hSi, shM]
  rw [x_makeN (n := M) (by simp only [e_upd, e_putS, e_putN, e_t, e_c, Nat.reduceEqDiff, ↓reduceIte, reduceCtorEq, Nat.reduceAdd]) (by omega) (by omega)]
  simp (disch := omega) only [e_skip, e_ops, e_dops, e_seq, e_condI, e_condFb, e_gTF, e_gFT, e_gU, e_unv, e_bTT, e_bFF, e_bTF, e_bFT, e_beq1, e_beq2, Bool.not_true, Bool.not_false, e_block, e_exit, e_ret, e_seqN, e_seqE, e_seqR, e_blockN, e_blockR, e_blockE, e_nil, e_consN, e_consGI, e_nilD, e_consDN, e_consDGI, e_pure, e_eff, e_call, e_pureD, e_effD1, e_effD2, e_effD3, e_callD2, e_callD3, e_thenP, e_thenE, e_thenL, e_putS, e_putN, e_upd, e_t, e_c, e_none, e_some, e_bindS, p_move, p_bin, p_len, p_conv, p_pick, p_indexAddr, p_slice, p_extract, p_not, b_add, b_sub, b_mul, b_eql, b_neq, b_lss, b_leq, b_gtr, b_geq, l_nil, l_slice, l_sliceU, x_load1, ↓reduceIte, Nat.reduceEqDiff, Nat.reduceAdd, Nat.reduceMul, Nat.reduceSub, reduceCtorEq, Nat.zero_add, Nat.add_zero, Nat.mul_one, w64, wu32, wu64, beqT, beqF, bneT, bneF, dT, dF, a_idx, a_idxU, a_hi, a_hiN, a_sl, r_ro0, r_rw0, r_sl0, r_succ, ints_get, toNat_sub1, nat_toNat, Nat.add_sub_cancel, q_tmp, q_then, e0, e1, shS, List.cons_append, List.nil_append]
  refine ⟨fun a s H => ∃ i : Nat, a = 2 ^ S - i ∧ i ≤ 2 ^ S ∧ s 0 = mkS κ 0 0 n ∧ s 5 = .int .i64 (n : Int) ∧ s 6 = .int .i64 (m : Int) ∧ s 7 = .int .i64 (S : Int) ∧ s 8 = .slice 1 0 M M ∧ s 9 = .int .i64 (i : Int) ∧
    H = [ro (bt n f), rw_ (nt M fun y => ((Gf.often (Gf.hs f n m) y i : Nat) : Int))], 2 ^ S, ⟨0, rfl, by omega, ?_, ?_, ?_, ?_, ?_, ?_, ?_⟩, ?_⟩
  · simp only [e_upd, e_putS, e_putN, e_t, e_c, Nat.reduceEqDiff, ↓reduceIte, reduceCtorEq, Nat.reduceAdd, e0]
  · simp only [e_upd, e_putS, e_putN, e_t, e_c, Nat.reduceEqDiff, ↓reduceIte, reduceCtorEq, Nat.reduceAdd]
  · simp only [e_upd, e_putS, e_putN, e_t, e_c, Nat.reduceEqDiff, ↓reduceIte, reduceCtorEq, Nat.reduceAdd]
  · simp only [e_upd, e_putS, e_putN, e_t, e_c, Nat.reduceEqDiff, ↓reduceIte, reduceCtorEq, Nat.reduceAdd]
  · simp only [e_upd, e_putS, e_putN, e_t, e_c, Nat.reduceEqDiff, ↓reduceIte, reduceCtorEq, Nat.reduceAdd]; rfl
  · simp only [e_upd, e_putS, e_putN, e_t, e_c, Nat.reduceEqDiff, ↓reduceIte, reduceCtorEq, Nat.reduceAdd]; rfl
  · rfl
  rintro a s H ⟨i, ha, hi, h0, h5, h6, h7, h8, h9, rfl⟩
  by_cases hlt : i < 2 ^ S
  · have z3 : decide ((i : Int) < ((2 ^ S : Nat) : Int)) = true := decide_eq_true (by omega)
    have hoft := Gf.often_le (Gf.hs f n m) (Gf.hs f n m i) i
    have hhs : Gf.hs f n m i < M := by rw [hM]; exact Nat.mod_lt _ (Nat.two_pow_pos m)
    have i1 : aindexAddr 1 (.slice 1 0 M M) (.int .u64 ((Gf.hs f n m i : Nat) : Int)) = some (.ptr 1 (Gf.hs f n m i)) := by
      rw [a_idx (by omega) (by omega)]; simp
    have g1 : (nt M fun y => ((Gf.often (Gf.hs f n m) y i : Nat) : Int))[Gf.hs f n m i]? = some (.int .i64 ((Gf.often (Gf.hs f n m) (Gf.hs f n m i) i : Nat) : Int)) := nt_get hhs
    simp (disch := omega) only [e_skip, e_ops, e_dops, e_seq, e_condI, e_condFb, e_gTF, e_gFT, e_gU, e_unv, e_bTT, e_bFF, e_bTF, e_bFT, e_beq1, e_beq2, Bool.not_true, Bool.not_false, e_block, e_exit, e_ret, e_seqN, e_seqE, e_seqR, e_blockN, e_blockR, e_blockE, e_nil, e_consN, e_consGI, e_nilD, e_consDN, e_consDGI, e_pure, e_eff, e_call, e_pureD, e_effD1, e_effD2, e_effD3, e_callD2, e_callD3, e_thenP, e_thenE, e_thenL, e_putS, e_putN, e_upd, e_t, e_c, e_none, e_some, e_bindS, p_move, p_bin, p_len, p_conv, p_pick, p_indexAddr, p_slice, p_extract, p_not, b_add, b_sub, b_mul, b_eql, b_neq, b_lss, b_leq, b_gtr, b_geq, l_nil, l_slice, l_sliceU, x_load1, ↓reduceIte, Nat.reduceEqDiff, Nat.reduceAdd, Nat.reduceMul, Nat.reduceSub, reduceCtorEq, Nat.zero_add, Nat.add_zero, Nat.mul_one, w64, wu32, wu64, beqT, beqF, bneT, bneF, dT, dF, a_idx, a_idxU, a_hi, a_hiN, a_sl, r_ro0, r_rw0, r_sl0, r_succ, ints_get, toNat_sub1, nat_toNat, Nat.add_sub_cancel, q_tmp, q_then, h0, h5, h6, h7, h8, h9, shS, z3]
    refine call_newB (rNumber_calls i S (by omega) (by omega)) rfl rfl ?_
    simp (disch := omega) only [e_skip, e_ops, e_dops, e_seq, e_condI, e_condFb, e_gTF, e_gFT, e_gU, e_unv, e_bTT, e_bFF, e_bTF, e_bFT, e_beq1, e_beq2, Bool.not_true, Bool.not_false, e_block, e_exit, e_ret, e_seqN, e_seqE, e_seqR, e_blockN, e_blockR, e_blockE, e_nil, e_consN, e_consGI, e_nilD, e_consDN, e_consDGI, e_pure, e_eff, e_call, e_pureD, e_effD1, e_effD2, e_effD3, e_callD2, e_callD3, e_thenP, e_thenE, e_thenL, e_putS, e_putN, e_upd, e_t, e_c, e_none, e_some, e_bindS, p_move, p_bin, p_len, p_conv, p_pick, p_indexAddr, p_slice, p_extract, p_not, b_add, b_sub, b_mul, b_eql, b_neq, b_lss, b_leq, b_gtr, b_geq, l_nil, l_slice, l_sliceU, x_load1, ↓reduceIte, Nat.reduceEqDiff, Nat.reduceAdd, Nat.reduceMul, Nat.reduceSub, reduceCtorEq, Nat.zero_add, Nat.add_zero, Nat.mul_one, w64, wu32, wu64, beqT, beqF, bneT, bneF, dT, dF, a_idx, a_idxU, a_hi, a_hiN, a_sl, r_ro0, r_rw0, r_sl0, r_succ, ints_get, toNat_sub1, nat_toNat, Nat.add_sub_cancel, q_tmp, q_then, h0, h5, h6, h7, h8, h9, List.cons_append, List.nil_append]
    refine call_bb (κ := .cap S) (κ' := κ) (a := 2) (b := 0) (da := 0) (db := 0) (m := S) (m' := n) (g := bitsOf i S) (g' := f) (rest := [.int .i64 (m : Int)]) (aToep_calls (.cap S) κ S n m (bitsOf i S) f (Nat.le_refl S) hk (by omega) (by omega) hS) rfl rfl rfl (by simp [bt_length]) (by simp [bt_length]) (by simp [bt_take]) (by simp [bt_take]) rfl ?_
    rintro v0 H0' ⟨rfl, rfl⟩
    have r1 : AV.ren (sig [(2, 0), (0, 0)] [ro (bt n f), rw_ (nt M fun y => ((Gf.often (Gf.hs f n m) y i : Nat) : Int)), rw_ (bt S (bitsOf i S))].length) (.tuple [.slice 2 0 m m, .int .i64 0]) = .tuple [.slice 3 0 m m, .int .i64 0] := rfl
    have r2 : [ro (bt n f), rw_ (nt M fun y => ((Gf.often (Gf.hs f n m) y i : Nat) : Int)), rw_ (bt S (bitsOf i S))] ++ (([ro (bt S (bitsOf i S)), ro (bt n f), rw_ (bt m (th n f (bitsOf i S) n))] : AHeap).drop 2).map (renRow (sig [(2, 0), (0, 0)] [ro (bt n f), rw_ (nt M fun y => ((Gf.often (Gf.hs f n m) y i : Nat) : Int)), rw_ (bt S (bitsOf i S))].length)) =
        [ro (bt n f), rw_ (nt M fun y => ((Gf.often (Gf.hs f n m) y i : Nat) : Int)), rw_ (bt S (bitsOf i S)), rw_ (bt m (th n f (bitsOf i S) n))] := by
      simp [m_renRw, bt_ren]
    rw [r1, r2]
    simp (disch := omega) only [e_skip, e_ops, e_dops, e_seq, e_condI, e_condFb, e_gTF, e_gFT, e_gU, e_unv, e_bTT, e_bFF, e_bTF, e_bFT, e_beq1, e_beq2, Bool.not_true, Bool.not_false, e_block, e_exit, e_ret, e_seqN, e_seqE, e_seqR, e_blockN, e_blockR, e_blockE, e_nil, e_consN, e_consGI, e_nilD, e_consDN, e_consDGI, e_pure, e_eff, e_call, e_pureD, e_effD1, e_effD2, e_effD3, e_callD2, e_callD3, e_thenP, e_thenE, e_thenL, e_putS, e_putN, e_upd, e_t, e_c, e_none, e_some, e_bindS, p_move, p_bin, p_len, p_conv, p_pick, p_indexAddr, p_slice, p_extract, p_not, b_add, b_sub, b_mul, b_eql, b_neq, b_lss, b_leq, b_gtr, b_geq, l_nil, l_slice, l_sliceU, x_load1, ↓reduceIte, Nat.reduceEqDiff, Nat.reduceAdd, Nat.reduceMul, Nat.reduceSub, reduceCtorEq, Nat.zero_add, Nat.add_zero, Nat.mul_one, w64, wu32, wu64, beqT, beqF, bneT, bneF, dT, dF, a_idx, a_idxU, a_hi, a_hiN, a_sl, r_ro0, r_rw0, r_sl0, r_succ, ints_get, toNat_sub1, nat_toNat, Nat.add_sub_cancel, q_tmp, q_then, p_field, p_fieldAddr, p_nilCheck, p_build, p_eqPtr, p_binB, p_lenStr, x_alloc, x_box, x_loadN, x_put, anew, aput, cellsAt, Vh.rowAt, afill, aparts, AV.cell, splice, aptr, List.all_cons, List.all_nil, Bool.and_self, Bool.and_true, Bool.true_and, List.length_cons, List.length_nil, List.nil_append, List.cons_append, List.map_cons, List.map_nil, List.take_succ_cons, List.take_zero, List.drop_succ_cons, List.drop_zero, List.take_nil, List.drop_nil, List.getElem?_cons_zero, List.getElem?_cons_succ, List.getElem?_nil, Option.getD_some, Option.getD_none, Option.bind_some, Option.map_some, List.set_cons_zero, List.set_cons_succ, List.set_nil, List.append_nil, Nat.le_refl, Nat.reduceLeDiff, and_self, and_true, true_and, Bool.false_eq_true, Bool.not_true, Bool.not_false, h0, h5, h6, h7, h8, h9]
    refine call_b (κ := .cap m) (n := m) (m := m) (a := 3) (da := 0) (g := th n f (bitsOf i S) n) (rest := []) (rWord_calls (.cap m) m _ (Nat.le_refl m) (by omega)) rfl rfl (by simp [bt_length]) (by simp [bt_take]) rfl ?_
    rintro v0 H0' ⟨rfl, rfl⟩
    have hword : Gf.wd (th n f (bitsOf i S) n) m = Gf.hs f n m i := by rw [hS]; exact word_hs n m f i (by omega)
    rw [n_int, hword, show ([ro (bt m (th n f (bitsOf i S) n))] : AHeap).drop 1 = [] from rfl, List.map_nil, List.append_nil]
    simp (disch := omega) only [e_skip, e_ops, e_dops, e_seq, e_condI, e_condFb, e_gTF, e_gFT, e_gU, e_unv, e_bTT, e_bFF, e_bTF, e_bFT, e_beq1, e_beq2, Bool.not_true, Bool.not_false, e_block, e_exit, e_ret, e_seqN, e_seqE, e_seqR, e_blockN, e_blockR, e_blockE, e_nil, e_consN, e_consGI, e_nilD, e_consDN, e_consDGI, e_pure, e_eff, e_call, e_pureD, e_effD1, e_effD2, e_effD3, e_callD2, e_callD3, e_thenP, e_thenE, e_thenL, e_putS, e_putN, e_upd, e_t, e_c, e_none, e_some, e_bindS, p_move, p_bin, p_len, p_conv, p_pick, p_indexAddr, p_slice, p_extract, p_not, b_add, b_sub, b_mul, b_eql, b_neq, b_lss, b_leq, b_gtr, b_geq, l_nil, l_slice, l_sliceU, x_load1, ↓reduceIte, Nat.reduceEqDiff, Nat.reduceAdd, Nat.reduceMul, Nat.reduceSub, reduceCtorEq, Nat.zero_add, Nat.add_zero, Nat.mul_one, w64, wu32, wu64, beqT, beqF, bneT, bneF, dT, dF, a_idx, a_idxU, a_hi, a_hiN, a_sl, r_ro0, r_rw0, r_sl0, r_succ, ints_get, toNat_sub1, nat_toNat, Nat.add_sub_cancel, q_tmp, q_then, h0, h5, h6, h7, h8, h9, i1, g1]
    rw [x_putN (r := 1) (off := Gf.hs f n m i) (b := ((Gf.often (Gf.hs f n m) (Gf.hs f n m i) i : Nat) : Int) + 1) (n := M) (q := fun y => ((Gf.often (Gf.hs f n m) y i : Nat) : Int)) (by simp only [e_upd, e_putS, e_putN, e_t, e_c, Nat.reduceEqDiff, ↓reduceIte, reduceCtorEq, Nat.reduceAdd]) (by simp only [e_upd, e_putS, e_putN, e_t, e_c, Nat.reduceEqDiff, ↓reduceIte, reduceCtorEq, Nat.reduceAdd]) rfl hhs]
    simp (disch := omega) only [e_skip, e_ops, e_dops, e_seq, e_condI, e_condFb, e_gTF, e_gFT, e_gU, e_unv, e_bTT, e_bFF, e_bTF, e_bFT, e_beq1, e_beq2, Bool.not_true, Bool.not_false, e_block, e_exit, e_ret, e_seqN, e_seqE, e_seqR, e_blockN, e_blockR, e_blockE, e_nil, e_consN, e_consGI, e_nilD, e_consDN, e_consDGI, e_pure, e_eff, e_call, e_pureD, e_effD1, e_effD2, e_effD3, e_callD2, e_callD3, e_thenP, e_thenE, e_thenL, e_putS, e_putN, e_upd, e_t, e_c, e_none, e_some, e_bindS, p_move, p_bin, p_len, p_conv, p_pick, p_indexAddr, p_slice, p_extract, p_not, b_add, b_sub, b_mul, b_eql, b_neq, b_lss, b_leq, b_gtr, b_geq, l_nil, l_slice, l_sliceU, x_load1, ↓reduceIte, Nat.reduceEqDiff, Nat.reduceAdd, Nat.reduceMul, Nat.reduceSub, reduceCtorEq, Nat.zero_add, Nat.add_zero, Nat.mul_one, w64, wu32, wu64, beqT, beqF, bneT, bneF, dT, dF, a_idx, a_idxU, a_hi, a_hiN, a_sl, r_ro0, r_rw0, r_sl0, r_succ, ints_get, toNat_sub1, nat_toNat, Nat.add_sub_cancel, q_tmp, q_then, h0, h5, h6, h7, h8, h9]
    refine loop_gc (m := 2 ^ S - (i + 1)) [0, 1] rfl ?_ (by omega) ⟨i + 1, rfl, by omega, ?_, ?_, ?_, ?_, ?_, ?_, ?_⟩
    · simp [gcH, Vh.rowAt, ro, rw_, bt_ren, bt_cell, nt_ren, nt_cell]
    · exact gc_at (v := mkS κ 0 0 n) (by simp only [e_upd, e_putS, e_putN, e_t, e_c, Nat.reduceEqDiff, ↓reduceIte, reduceCtorEq, Nat.reduceAdd, h0]) (n_mkS0 rfl)
    · exact gc_at (v := .int .i64 (n : Int)) (by simp only [e_upd, e_putS, e_putN, e_t, e_c, Nat.reduceEqDiff, ↓reduceIte, reduceCtorEq, Nat.reduceAdd, h5]) rfl
    · exact gc_at (v := .int .i64 (m : Int)) (by simp only [e_upd, e_putS, e_putN, e_t, e_c, Nat.reduceEqDiff, ↓reduceIte, reduceCtorEq, Nat.reduceAdd, h6]) rfl
    · exact gc_at (v := .int .i64 (S : Int)) (by simp only [e_upd, e_putS, e_putN, e_t, e_c, Nat.reduceEqDiff, ↓reduceIte, reduceCtorEq, Nat.reduceAdd, h7]) rfl
    · exact gc_at (v := .slice 1 0 M M) (by simp only [e_upd, e_putS, e_putN, e_t, e_c, Nat.reduceEqDiff, ↓reduceIte, reduceCtorEq, Nat.reduceAdd, h8]) rfl
    · exact gc_at (v := .int .i64 (((i + 1 : Nat)) : Int)) (by simp only [e_upd, e_putS, e_putN, e_t, e_c, Nat.reduceEqDiff, ↓reduceIte, reduceCtorEq, Nat.reduceAdd]; rfl) rfl
    · have : nt M (fun j => if j = Gf.hs f n m i then ((Gf.often (Gf.hs f n m) (Gf.hs f n m i) i : Nat) : Int) + 1 else ((Gf.often (Gf.hs f n m) j i : Nat) : Int)) = nt M (fun y => ((Gf.often (Gf.hs f n m) y (i + 1) : Nat) : Int)) := nt_congr fun y _ => by
        simp only [Gf.often]
        by_cases e : y = Gf.hs f n m i
        · subst e; simp
        · simp [e, Ne.symm e]
      simp [gcH, Vh.rowAt, ro, rw_, bt_ren, nt_ren, this]
  have hiS : i = 2 ^ S := by omega
  have z3 : decide ((i : Int) < ((2 ^ S : Nat) : Int)) = false := decide_eq_false (by omega)
  simp (disch := omega) only [e_skip, e_ops, e_dops, e_seq, e_condI, e_condFb, e_gTF, e_gFT, e_gU, e_unv, e_bTT, e_bFF, e_bTF, e_bFT, e_beq1, e_beq2, Bool.not_true, Bool.not_false, e_block, e_exit, e_ret, e_seqN, e_seqE, e_seqR, e_blockN, e_blockR, e_blockE, e_nil, e_consN, e_consGI, e_nilD, e_consDN, e_consDGI, e_pure, e_eff, e_call, e_pureD, e_effD1, e_effD2, e_effD3, e_callD2, e_callD3, e_thenP, e_thenE, e_thenL, e_putS, e_putN, e_upd, e_t, e_c, e_none, e_some, e_bindS, p_move, p_bin, p_len, p_conv, p_pick, p_indexAddr, p_slice, p_extract, p_not, b_add, b_sub, b_mul, b_eql, b_neq, b_lss, b_leq, b_gtr, b_geq, l_nil, l_slice, l_sliceU, x_load1, ↓reduceIte, Nat.reduceEqDiff, Nat.reduceAdd, Nat.reduceMul, Nat.reduceSub, reduceCtorEq, Nat.zero_add, Nat.add_zero, Nat.mul_one, w64, wu32, wu64, beqT, beqF, bneT, bneF, dT, dF, a_idx, a_idxU, a_hi, a_hiN, a_sl, r_ro0, r_rw0, r_sl0, r_succ, ints_get, toNat_sub1, nat_toNat, Nat.add_sub_cancel, q_tmp, q_then, h0, h5, h6, h7, h8, h9, shS, z3]
  refine ⟨fun a s H => ∃ j : Nat, a = M - j ∧ j ≤ M ∧ s 0 = mkS κ 0 0 n ∧ s 5 = .int .i64 (n : Int) ∧ s 7 = .int .i64 (S : Int) ∧ s 8 = .slice 1 0 M M ∧ s 12 = .int .i64 (j : Int) ∧
    H = [ro (bt n f), rw_ (nt M fun y => ((Gf.often (Gf.hs f n m) y i : Nat) : Int))], M, ⟨0, rfl, by omega, ?_, ?_, ?_, ?_, ?_, rfl⟩, ?_⟩
  · simp only [e_upd, e_putS, e_putN, e_t, e_c, Nat.reduceEqDiff, ↓reduceIte, reduceCtorEq, Nat.reduceAdd, h0]
  · simp only [e_upd, e_putS, e_putN, e_t, e_c, Nat.reduceEqDiff, ↓reduceIte, reduceCtorEq, Nat.reduceAdd, h5]
  · simp only [e_upd, e_putS, e_putN, e_t, e_c, Nat.reduceEqDiff, ↓reduceIte, reduceCtorEq, Nat.reduceAdd, h7]
  · simp only [e_upd, e_putS, e_putN, e_t, e_c, Nat.reduceEqDiff, ↓reduceIte, reduceCtorEq, Nat.reduceAdd, h8]
  · simp only [e_upd, e_putS, e_putN, e_t, e_c, Nat.reduceEqDiff, ↓reduceIte, reduceCtorEq, Nat.reduceAdd]; rfl
  rintro a s H ⟨j, ha, hj, h0, h5, h7, h8, h12, rfl⟩
  by_cases hlt : (j : Int) < (M : Int)
  · have hjM : j < M := by omega
    have hn1 : (n : Int) - 1 = ((n - 1 : Nat) : Int) := by omega
    have shN : abin .shl (.int .i64 1) (.int .i64 ((n - 1 : Nat) : Int)) = some (.int .i64 ((2 ^ (n - 1) : Nat) : Int)) := shl_one (by omega)
    have i1 : aindexAddr 1 (.slice 1 0 M M) (.int .i64 (j : Int)) = some (.ptr 1 j) := by
      rw [a_idx (by omega) (by omega)]; simp
    have g1 : (nt M fun y => ((Gf.often (Gf.hs f n m) y i : Nat) : Int))[j]? = some (.int .i64 ((Gf.often (Gf.hs f n m) j i : Nat) : Int)) := nt_get hjM
    have go : ∀ s2 : St, s2 0 = mkS κ 0 0 n → s2 5 = .int .i64 (n : Int) → s2 7 = .int .i64 (S : Int) → s2 8 = .slice 1 0 M M → s2 12 = .int .i64 ((j : Int) + 1) →
        loopPost 1 (fun a s H => ∃ j : Nat, a = M - j ∧ j ≤ M ∧ s 0 = mkS κ 0 0 n ∧ s 5 = .int .i64 (n : Int) ∧ s 7 = .int .i64 (S : Int) ∧ s 8 = .slice 1 0 M M ∧ s 12 = .int .i64 (j : Int) ∧ H = [ro (bt n f), rw_ (nt M fun y => ((Gf.often (Gf.hs f n m) y i : Nat) : Int))]) a s2 [ro (bt n f), rw_ (nt M fun y => ((Gf.often (Gf.hs f n m) y i : Nat) : Int))] := fun s2 q0 q5 q7 q8 q12 =>
      loop_keep (m := M - (j + 1)) (by omega) ⟨j + 1, rfl, by omega, q0, q5, q7, q8, q12, rfl⟩
    simp (disch := omega) only [e_skip, e_ops, e_dops, e_seq, e_condI, e_condFb, e_gTF, e_gFT, e_gU, e_unv, e_bTT, e_bFF, e_bTF, e_bFT, e_beq1, e_beq2, Bool.not_true, Bool.not_false, e_block, e_exit, e_ret, e_seqN, e_seqE, e_seqR, e_blockN, e_blockR, e_blockE, e_nil, e_consN, e_consGI, e_nilD, e_consDN, e_consDGI, e_pure, e_eff, e_call, e_pureD, e_effD1, e_effD2, e_effD3, e_callD2, e_callD3, e_thenP, e_thenE, e_thenL, e_putS, e_putN, e_upd, e_t, e_c, e_none, e_some, e_bindS, p_move, p_bin, p_len, p_conv, p_pick, p_indexAddr, p_slice, p_extract, p_not, b_add, b_sub, b_mul, b_eql, b_neq, b_lss, b_leq, b_gtr, b_geq, l_nil, l_slice, l_sliceU, x_load1, ↓reduceIte, Nat.reduceEqDiff, Nat.reduceAdd, Nat.reduceMul, Nat.reduceSub, reduceCtorEq, Nat.zero_add, Nat.add_zero, Nat.mul_one, w64, wu32, wu64, beqT, beqF, bneT, bneF, dT, dF, a_idx, a_idxU, a_hi, a_hiN, a_sl, r_ro0, r_rw0, r_sl0, r_succ, ints_get, toNat_sub1, nat_toNat, Nat.add_sub_cancel, q_tmp, q_then, h0, h5, h7, h8, h12, hn1, shN]
    refine call_b (κ := κ) (n := n) (m := n) (a := 0) (da := 0) (g := f) (rest := []) (rCount_calls κ n f hk (by omega)) rfl rfl (by simp [bt_length]) (by simp [bt_take]) rfl ?_
    rintro v0 H0' ⟨rfl, rfl⟩
    rw [n_int, show ([ro (bt n f)] : AHeap).drop 1 = [] from rfl, List.map_nil, List.append_nil]
    by_cases hc : cnt f n = 0
    · have hf := (cnt_zero f n).1 hc
      have ho := Gf.none_often (m := m) f hf j i
      have zc : (((cnt f n : Nat) : Int) == 0) = true := by rw [eq0_int]; exact decide_eq_true hc
      by_cases hj0 : j = 0
      · have zj : ((j : Int) == 0) = true := by rw [beq_iff_eq]; omega
        rw [if_pos hj0, hiS] at ho
        rw [hiS, ho] at g1
        have hiS' := hiS
        simp (disch := omega) only [e_skip, e_ops, e_dops, e_seq, e_condI, e_condFb, e_gTF, e_gFT, e_gU, e_unv, e_bTT, e_bFF, e_bTF, e_bFT, e_beq1, e_beq2, Bool.not_true, Bool.not_false, e_block, e_exit, e_ret, e_seqN, e_seqE, e_seqR, e_blockN, e_blockR, e_blockE, e_nil, e_consN, e_consGI, e_nilD, e_consDN, e_consDGI, e_pure, e_eff, e_call, e_pureD, e_effD1, e_effD2, e_effD3, e_callD2, e_callD3, e_thenP, e_thenE, e_thenL, e_putS, e_putN, e_upd, e_t, e_c, e_none, e_some, e_bindS, p_move, p_bin, p_len, p_conv, p_pick, p_indexAddr, p_slice, p_extract, p_not, b_add, b_sub, b_mul, b_eql, b_neq, b_lss, b_leq, b_gtr, b_geq, l_nil, l_slice, l_sliceU, x_load1, ↓reduceIte, Nat.reduceEqDiff, Nat.reduceAdd, Nat.reduceMul, Nat.reduceSub, reduceCtorEq, Nat.zero_add, Nat.add_zero, Nat.mul_one, w64, wu32, wu64, beqT, beqF, bneT, bneF, dT, dF, a_idx, a_idxU, a_hi, a_hiN, a_sl, r_ro0, r_rw0, r_sl0, r_succ, ints_get, toNat_sub1, nat_toNat, Nat.add_sub_cancel, q_tmp, q_then, h0, h5, h7, h8, h12, zc, zj, shS, i1]
        rw [hiS]
        simp (disch := omega) only [e_skip, e_ops, e_dops, e_seq, e_condI, e_condFb, e_gTF, e_gFT, e_gU, e_unv, e_bTT, e_bFF, e_bTF, e_bFT, e_beq1, e_beq2, Bool.not_true, Bool.not_false, e_block, e_exit, e_ret, e_seqN, e_seqE, e_seqR, e_blockN, e_blockR, e_blockE, e_nil, e_consN, e_consGI, e_nilD, e_consDN, e_consDGI, e_pure, e_eff, e_call, e_pureD, e_effD1, e_effD2, e_effD3, e_callD2, e_callD3, e_thenP, e_thenE, e_thenL, e_putS, e_putN, e_upd, e_t, e_c, e_none, e_some, e_bindS, p_move, p_bin, p_len, p_conv, p_pick, p_indexAddr, p_slice, p_extract, p_not, b_add, b_sub, b_mul, b_eql, b_neq, b_lss, b_leq, b_gtr, b_geq, l_nil, l_slice, l_sliceU, x_load1, ↓reduceIte, Nat.reduceEqDiff, Nat.reduceAdd, Nat.reduceMul, Nat.reduceSub, reduceCtorEq, Nat.zero_add, Nat.add_zero, Nat.mul_one, w64, wu32, wu64, beqT, beqF, bneT, bneF, dT, dF, a_idx, a_idxU, a_hi, a_hiN, a_sl, r_ro0, r_rw0, r_sl0, r_succ, ints_get, toNat_sub1, nat_toNat, Nat.add_sub_cancel, q_tmp, q_then, h0, h5, h7, h8, h12, g1]
        rw [hiS] at go
        exact go _ (by simp only [e_upd, e_putS, e_putN, e_t, e_c, Nat.reduceEqDiff, ↓reduceIte, reduceCtorEq, Nat.reduceAdd, h0]) (by simp only [e_upd, e_putS, e_putN, e_t, e_c, Nat.reduceEqDiff, ↓reduceIte, reduceCtorEq, Nat.reduceAdd, h5]) (by simp only [e_upd, e_putS, e_putN, e_t, e_c, Nat.reduceEqDiff, ↓reduceIte, reduceCtorEq, Nat.reduceAdd, h7]) (by simp only [e_upd, e_putS, e_putN, e_t, e_c, Nat.reduceEqDiff, ↓reduceIte, reduceCtorEq, Nat.reduceAdd, h8]) (by simp only [e_upd, e_putS, e_putN, e_t, e_c, Nat.reduceEqDiff, ↓reduceIte, reduceCtorEq, Nat.reduceAdd])
      · have zj : ((j : Int) == 0) = false := by rw [beq_eq_false_iff_ne]; omega
        rw [if_neg hj0] at ho
        rw [ho] at g1
        simp (disch := omega) only [e_skip, e_ops, e_dops, e_seq, e_condI, e_condFb, e_gTF, e_gFT, e_gU, e_unv, e_bTT, e_bFF, e_bTF, e_bFT, e_beq1, e_beq2, Bool.not_true, Bool.not_false, e_block, e_exit, e_ret, e_seqN, e_seqE, e_seqR, e_blockN, e_blockR, e_blockE, e_nil, e_consN, e_consGI, e_nilD, e_consDN, e_consDGI, e_pure, e_eff, e_call, e_pureD, e_effD1, e_effD2, e_effD3, e_callD2, e_callD3, e_thenP, e_thenE, e_thenL, e_putS, e_putN, e_upd, e_t, e_c, e_none, e_some, e_bindS, p_move, p_bin, p_len, p_conv, p_pick, p_indexAddr, p_slice, p_extract, p_not, b_add, b_sub, b_mul, b_eql, b_neq, b_lss, b_leq, b_gtr, b_geq, l_nil, l_slice, l_sliceU, x_load1, ↓reduceIte, Nat.reduceEqDiff, Nat.reduceAdd, Nat.reduceMul, Nat.reduceSub, reduceCtorEq, Nat.zero_add, Nat.add_zero, Nat.mul_one, w64, wu32, wu64, beqT, beqF, bneT, bneF, dT, dF, a_idx, a_idxU, a_hi, a_hiN, a_sl, r_ro0, r_rw0, r_sl0, r_succ, ints_get, toNat_sub1, nat_toNat, Nat.add_sub_cancel, q_tmp, q_then, h0, h5, h7, h8, h12, zc, zj, i1, g1, show ((0 : Nat) : Int) = 0 from rfl]
        exact go _ (by simp only [e_upd, e_putS, e_putN, e_t, e_c, Nat.reduceEqDiff, ↓reduceIte, reduceCtorEq, Nat.reduceAdd, h0]) (by simp only [e_upd, e_putS, e_putN, e_t, e_c, Nat.reduceEqDiff, ↓reduceIte, reduceCtorEq, Nat.reduceAdd, h5]) (by simp only [e_upd, e_putS, e_putN, e_t, e_c, Nat.reduceEqDiff, ↓reduceIte, reduceCtorEq, Nat.reduceAdd, h7]) (by simp only [e_upd, e_putS, e_putN, e_t, e_c, Nat.reduceEqDiff, ↓reduceIte, reduceCtorEq, Nat.reduceAdd, h8]) (by simp only [e_upd, e_putS, e_putN, e_t, e_c, Nat.reduceEqDiff, ↓reduceIte, reduceCtorEq, Nat.reduceAdd])
    · have zc : (((cnt f n : Nat) : Int) == 0) = false := by rw [eq0_int]; exact decide_eq_false hc
      have hex : ∃ j, j < n ∧ f j = true := by
        apply Classical.byContradiction
        intro hno
        exact hc ((cnt_zero f n).2 fun i hi => by
          cases e : f i with
          | false => rfl
          | true => exact (hno ⟨i, hi, e⟩).elim)
      have ho := Gf.uniform (n := n) (m := m) f (by omega) (by omega) hm4 hex (y := j) (by rw [← hM]; exact hjM)
      rw [← hS, ← hiS] at ho
      rw [ho] at g1
      simp (disch := omega) only [e_skip, e_ops, e_dops, e_seq, e_condI, e_condFb, e_gTF, e_gFT, e_gU, e_unv, e_bTT, e_bFF, e_bTF, e_bFT, e_beq1, e_beq2, Bool.not_true, Bool.not_false, e_block, e_exit, e_ret, e_seqN, e_seqE, e_seqR, e_blockN, e_blockR, e_blockE, e_nil, e_consN, e_consGI, e_nilD, e_consDN, e_consDGI, e_pure, e_eff, e_call, e_pureD, e_effD1, e_effD2, e_effD3, e_callD2, e_callD3, e_thenP, e_thenE, e_thenL, e_putS, e_putN, e_upd, e_t, e_c, e_none, e_some, e_bindS, p_move, p_bin, p_len, p_conv, p_pick, p_indexAddr, p_slice, p_extract, p_not, b_add, b_sub, b_mul, b_eql, b_neq, b_lss, b_leq, b_gtr, b_geq, l_nil, l_slice, l_sliceU, x_load1, ↓reduceIte, Nat.reduceEqDiff, Nat.reduceAdd, Nat.reduceMul, Nat.reduceSub, reduceCtorEq, Nat.zero_add, Nat.add_zero, Nat.mul_one, w64, wu32, wu64, beqT, beqF, bneT, bneF, dT, dF, a_idx, a_idxU, a_hi, a_hiN, a_sl, r_ro0, r_rw0, r_sl0, r_succ, ints_get, toNat_sub1, nat_toNat, Nat.add_sub_cancel, q_tmp, q_then, h0, h5, h7, h8, h12, zc, i1, g1]
      exact go _ (by simp only [e_upd, e_putS, e_putN, e_t, e_c, Nat.reduceEqDiff, ↓reduceIte, reduceCtorEq, Nat.reduceAdd, h0]) (by simp only [e_upd, e_putS, e_putN, e_t, e_c, Nat.reduceEqDiff, ↓reduceIte, reduceCtorEq, Nat.reduceAdd, h5]) (by simp only [e_upd, e_putS, e_putN, e_t, e_c, Nat.reduceEqDiff, ↓reduceIte, reduceCtorEq, Nat.reduceAdd, h7]) (by simp only [e_upd, e_putS, e_putN, e_t, e_c, Nat.reduceEqDiff, ↓reduceIte, reduceCtorEq, Nat.reduceAdd, h8]) (by simp only [e_upd, e_putS, e_putN, e_t, e_c, Nat.reduceEqDiff, ↓reduceIte, reduceCtorEq, Nat.reduceAdd])
  · have hjM : j = M := by omega
    simp (disch := omega) only [e_skip, e_ops, e_dops, e_seq, e_condI, e_condFb, e_gTF, e_gFT, e_gU, e_unv, e_bTT, e_bFF, e_bTF, e_bFT, e_beq1, e_beq2, Bool.not_true, Bool.not_false, e_block, e_exit, e_ret, e_seqN, e_seqE, e_seqR, e_blockN, e_blockR, e_blockE, e_nil, e_consN, e_consGI, e_nilD, e_consDN, e_consDGI, e_pure, e_eff, e_call, e_pureD, e_effD1, e_effD2, e_effD3, e_callD2, e_callD3, e_thenP, e_thenE, e_thenL, e_putS, e_putN, e_upd, e_t, e_c, e_none, e_some, e_bindS, p_move, p_bin, p_len, p_conv, p_pick, p_indexAddr, p_slice, p_extract, p_not, b_add, b_sub, b_mul, b_eql, b_neq, b_lss, b_leq, b_gtr, b_geq, l_nil, l_slice, l_sliceU, x_load1, ↓reduceIte, Nat.reduceEqDiff, Nat.reduceAdd, Nat.reduceMul, Nat.reduceSub, reduceCtorEq, Nat.zero_add, Nat.add_zero, Nat.mul_one, w64, wu32, wu64, beqT, beqF, bneT, bneF, dT, dF, a_idx, a_idxU, a_hi, a_hiN, a_sl, r_ro0, r_rw0, r_sl0, r_succ, ints_get, toNat_sub1, nat_toNat, Nat.add_sub_cancel, q_tmp, q_then, h0, h5, h7, h8, h12]
    refine call_known ?_
    simp (disch := omega) only [e_skip, e_ops, e_dops, e_seq, e_condI, e_condFb, e_gTF, e_gFT, e_gU, e_unv, e_bTT, e_bFF, e_bTF, e_bFT, e_beq1, e_beq2, Bool.not_true, Bool.not_false, e_block, e_exit, e_ret, e_seqN, e_seqE, e_seqR, e_blockN, e_blockR, e_blockE, e_nil, e_consN, e_consGI, e_nilD, e_consDN, e_consDGI, e_pure, e_eff, e_call, e_pureD, e_effD1, e_effD2, e_effD3, e_callD2, e_callD3, e_thenP, e_thenE, e_thenL, e_putS, e_putN, e_upd, e_t, e_c, e_none, e_some, e_bindS, p_move, p_bin, p_len, p_conv, p_pick, p_indexAddr, p_slice, p_extract, p_not, b_add, b_sub, b_mul, b_eql, b_neq, b_lss, b_leq, b_gtr, b_geq, l_nil, l_slice, l_sliceU, x_load1, ↓reduceIte, Nat.reduceEqDiff, Nat.reduceAdd, Nat.reduceMul, Nat.reduceSub, reduceCtorEq, Nat.zero_add, Nat.add_zero, Nat.mul_one, w64, wu32, wu64, beqT, beqF, bneT, bneF, dT, dF, a_idx, a_idxU, a_hi, a_hiN, a_sl, r_ro0, r_rw0, r_sl0, r_succ, ints_get, toNat_sub1, nat_toNat, Nat.add_sub_cancel, q_tmp, q_then]
    exact ret_val (by simp) q_tmp (by simp only [e_upd, e_putS, e_putN, e_t, e_c, Nat.reduceEqDiff, ↓reduceIte, reduceCtorEq, Nat.reduceAdd])
end Go.Proofs.Ytebijlefkomplaa
