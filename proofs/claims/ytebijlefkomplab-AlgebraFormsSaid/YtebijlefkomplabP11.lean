/- Contracts: what is no form; the reference's bytes. NEWSET -/
import Derived.Test.YtebijlefkomplabP10
set_option linter.unusedSimpArgs false
set_option linter.unusedVariables false
namespace Go.Proofs.Ytebijlefkomplab
open Go Go.Vh Go.Wd

theorem numberNo_calls (x : Nat) (w : Int) (hw : -9223372036854775808 ≤ w ∧ w ≤ 9223372036854775807) (h : w < 0 ∨ 64 < w) : ACalls Try.prog 23 [.int .u64 x, .int .i64 w] [] [] fun v H => v = .tuple [.nilslice, .int .i64 3] ∧ H = [] := by
  refine ACalls.body Try.func23 ent_numberB ir_numberB_ok rs_numberB_ok Try.ntmps23 (by simp) rfl ?_
  unfold ir_numberB
  have e0 : s0 [.int .u64 (x : Int), .int .i64 w] 0 = .int .u64 (x : Int) := rfl
  have e1 : s0 [.int .u64 (x : Int), .int .i64 w] 1 = .int .i64 w := rfl
  by_cases hn : w < 0
  · simp (disch := omega) only [e_skip, e_ops, e_dops, e_seq, e_condI, e_condFb, e_gTF, e_gFT, e_gU, e_unv, e_bTT, e_bFF, e_bTF, e_bFT, e_beq1, e_beq2, Bool.not_true, Bool.not_false, e_block, e_exit, e_ret, e_seqN, e_seqE, e_seqR, e_blockN, e_blockR, e_blockE, e_nil, e_consN, e_consGI, e_nilD, e_consDN, e_consDGI, e_pure, e_eff, e_call, e_pureD, e_effD1, e_effD2, e_effD3, e_callD2, e_callD3, e_thenP, e_thenE, e_thenL, e_putS, e_putN, e_upd, e_t, e_c, e_none, e_some, e_bindS, p_move, p_bin, p_len, p_conv, p_pick, p_indexAddr, p_slice, p_extract, p_not, b_add, b_sub, b_mul, b_eql, b_neq, b_lss, b_leq, b_gtr, b_geq, l_nil, l_slice, l_sliceU, x_load1, ↓reduceIte, Nat.reduceEqDiff, Nat.reduceAdd, Nat.reduceMul, Nat.reduceSub, reduceCtorEq, Nat.zero_add, Nat.add_zero, Nat.mul_one, w64, wu32, wu64, beqT, beqF, bneT, bneF, dT, dF, a_idx, a_idxU, a_hi, a_hiN, a_sl, r_ro0, r_rw0, r_sl0, r_succ, ints_get, toNat_sub1, nat_toNat, Nat.add_sub_cancel, q_tmp, q_then, e0, e1]
    exact ret_both (by simp) q_tmp2 (by simp only [e_upd, e_putS, e_putN, e_t, e_c, Nat.reduceEqDiff, ↓reduceIte, reduceCtorEq, Nat.reduceAdd]) rfl
  · simp (disch := omega) only [e_skip, e_ops, e_dops, e_seq, e_condI, e_condFb, e_gTF, e_gFT, e_gU, e_unv, e_bTT, e_bFF, e_bTF, e_bFT, e_beq1, e_beq2, Bool.not_true, Bool.not_false, e_block, e_exit, e_ret, e_seqN, e_seqE, e_seqR, e_blockN, e_blockR, e_blockE, e_nil, e_consN, e_consGI, e_nilD, e_consDN, e_consDGI, e_pure, e_eff, e_call, e_pureD, e_effD1, e_effD2, e_effD3, e_callD2, e_callD3, e_thenP, e_thenE, e_thenL, e_putS, e_putN, e_upd, e_t, e_c, e_none, e_some, e_bindS, p_move, p_bin, p_len, p_conv, p_pick, p_indexAddr, p_slice, p_extract, p_not, b_add, b_sub, b_mul, b_eql, b_neq, b_lss, b_leq, b_gtr, b_geq, l_nil, l_slice, l_sliceU, x_load1, ↓reduceIte, Nat.reduceEqDiff, Nat.reduceAdd, Nat.reduceMul, Nat.reduceSub, reduceCtorEq, Nat.zero_add, Nat.add_zero, Nat.mul_one, w64, wu32, wu64, beqT, beqF, bneT, bneF, dT, dF, a_idx, a_idxU, a_hi, a_hiN, a_sl, r_ro0, r_rw0, r_sl0, r_succ, ints_get, toNat_sub1, nat_toNat, Nat.add_sub_cancel, q_tmp, q_then, e0, e1]
    exact ret_both (by simp) q_tmp2 (by simp only [e_upd, e_putS, e_putN, e_t, e_c, Nat.reduceEqDiff, ↓reduceIte, reduceCtorEq, Nat.reduceAdd]) rfl

theorem numberOver_calls (x w : Nat) (hw : w ≤ 64) (hx : x < 2 ^ 64) (h : ¬ x < 2 ^ w) : ACalls Try.prog 23 [.int .u64 x, .int .i64 w] [] [] fun v H => v = .tuple [.nilslice, .int .i64 8] ∧ H = [] := by
  refine ACalls.body Try.func23 ent_numberB ir_numberB_ok rs_numberB_ok Try.ntmps23 (by simp) rfl ?_
  unfold ir_numberB
  have e0 : s0 [.int .u64 (x : Int), .int .i64 (w : Int)] 0 = .int .u64 (x : Int) := rfl
  have e1 : s0 [.int .u64 (x : Int), .int .i64 (w : Int)] 1 = .int .i64 (w : Int) := rfl
  have a1 : abin .shr (.int .u64 (x : Int)) (.int .i64 (w : Int)) = some (.int .u64 ((x / 2 ^ w : Nat) : Int)) := b_shrN hx
  have hz : 0 < x / 2 ^ w := Nat.div_pos (by omega) (Nat.two_pow_pos w)
  generalize x / 2 ^ w = z at hz a1
  simp (disch := omega) only [e_skip, e_ops, e_dops, e_seq, e_condI, e_condFb, e_gTF, e_gFT, e_gU, e_unv, e_bTT, e_bFF, e_bTF, e_bFT, e_beq1, e_beq2, Bool.not_true, Bool.not_false, e_block, e_exit, e_ret, e_seqN, e_seqE, e_seqR, e_blockN, e_blockR, e_blockE, e_nil, e_consN, e_consGI, e_nilD, e_consDN, e_consDGI, e_pure, e_eff, e_call, e_pureD, e_effD1, e_effD2, e_effD3, e_callD2, e_callD3, e_thenP, e_thenE, e_thenL, e_putS, e_putN, e_upd, e_t, e_c, e_none, e_some, e_bindS, p_move, p_bin, p_len, p_conv, p_pick, p_indexAddr, p_slice, p_extract, p_not, b_add, b_sub, b_mul, b_eql, b_neq, b_lss, b_leq, b_gtr, b_geq, l_nil, l_slice, l_sliceU, x_load1, ↓reduceIte, Nat.reduceEqDiff, Nat.reduceAdd, Nat.reduceMul, Nat.reduceSub, reduceCtorEq, Nat.zero_add, Nat.add_zero, Nat.mul_one, w64, wu32, wu64, beqT, beqF, bneT, bneF, dT, dF, a_idx, a_idxU, a_hi, a_hiN, a_sl, r_ro0, r_rw0, r_sl0, r_succ, ints_get, toNat_sub1, nat_toNat, Nat.add_sub_cancel, q_tmp, q_then, e0, e1, a1]
  exact ret_both (by simp) q_tmp2 (by simp only [e_upd, e_putS, e_putN, e_t, e_c, Nat.reduceEqDiff, ↓reduceIte, reduceCtorEq, Nat.reduceAdd]) rfl

theorem unpackNo_calls (κ : SK) (M : Nat) (n : Int) (q : Nat → Nat) (hk : okS κ M) (hM : M ≤ 100000) (hn : -9223372036854775808 ≤ n ∧ n ≤ 9223372036854775807) (h : n < 0 ∨ M ≠ (n.toNat + 7) / 8) :
    ACalls Try.prog 26 [mkS κ 0 0 M, .int .i64 n] [ro (ut M q)] (List.range 1) fun v H => v = .tuple [.nilslice, .int .i64 3] ∧ H = [ro (ut M q)] := by
  refine ACalls.body Try.func26 ent_unpack ir_unpack_ok rs_unpack_ok Try.ntmps26 (by simp) rfl ?_
  unfold ir_unpack
  have e0 : s0 [mkS κ 0 0 M, .int .i64 n] 0 = mkS κ 0 0 M := rfl
  have e1 : s0 [mkS κ 0 0 M, .int .i64 n] 1 = .int .i64 n := rfl
  by_cases hneg : n < 0
  · simp (disch := omega) only [e_skip, e_ops, e_dops, e_seq, e_condI, e_condFb, e_gTF, e_gFT, e_gU, e_unv, e_bTT, e_bFF, e_bTF, e_bFT, e_beq1, e_beq2, Bool.not_true, Bool.not_false, e_block, e_exit, e_ret, e_seqN, e_seqE, e_seqR, e_blockN, e_blockR, e_blockE, e_nil, e_consN, e_consGI, e_nilD, e_consDN, e_consDGI, e_pure, e_eff, e_call, e_pureD, e_effD1, e_effD2, e_effD3, e_callD2, e_callD3, e_thenP, e_thenE, e_thenL, e_putS, e_putN, e_upd, e_t, e_c, e_none, e_some, e_bindS, p_move, p_bin, p_len, p_conv, p_pick, p_indexAddr, p_slice, p_extract, p_not, b_add, b_sub, b_mul, b_eql, b_neq, b_lss, b_leq, b_gtr, b_geq, l_nil, l_slice, l_sliceU, x_load1, ↓reduceIte, Nat.reduceEqDiff, Nat.reduceAdd, Nat.reduceMul, Nat.reduceSub, reduceCtorEq, Nat.zero_add, Nat.add_zero, Nat.mul_one, w64, wu32, wu64, beqT, beqF, bneT, bneF, dT, dF, a_idx, a_idxU, a_hi, a_hiN, a_sl, r_ro0, r_rw0, r_sl0, r_succ, ints_get, toNat_sub1, nat_toNat, Nat.add_sub_cancel, q_tmp, q_then, e0, e1, k_len hk]
    exact ret_both (by simp) q_tmp2 (by simp only [e_upd, e_putS, e_putN, e_t, e_c, Nat.reduceEqDiff, ↓reduceIte, reduceCtorEq, Nat.reduceAdd]) rfl
  · obtain ⟨N, rfl⟩ : ∃ N : Nat, n = (N : Int) := ⟨n.toNat, by omega⟩
    rw [Int.toNat_natCast] at h
    simp (disch := omega) only [e_skip, e_ops, e_dops, e_seq, e_condI, e_condFb, e_gTF, e_gFT, e_gU, e_unv, e_bTT, e_bFF, e_bTF, e_bFT, e_beq1, e_beq2, Bool.not_true, Bool.not_false, e_block, e_exit, e_ret, e_seqN, e_seqE, e_seqR, e_blockN, e_blockR, e_blockE, e_nil, e_consN, e_consGI, e_nilD, e_consDN, e_consDGI, e_pure, e_eff, e_call, e_pureD, e_effD1, e_effD2, e_effD3, e_callD2, e_callD3, e_thenP, e_thenE, e_thenL, e_putS, e_putN, e_upd, e_t, e_c, e_none, e_some, e_bindS, p_move, p_bin, p_len, p_conv, p_pick, p_indexAddr, p_slice, p_extract, p_not, b_add, b_sub, b_mul, b_eql, b_neq, b_lss, b_leq, b_gtr, b_geq, l_nil, l_slice, l_sliceU, x_load1, ↓reduceIte, Nat.reduceEqDiff, Nat.reduceAdd, Nat.reduceMul, Nat.reduceSub, reduceCtorEq, Nat.zero_add, Nat.add_zero, Nat.mul_one, w64, wu32, wu64, beqT, beqF, bneT, bneF, dT, dF, a_idx, a_idxU, a_hi, a_hiN, a_sl, r_ro0, r_rw0, r_sl0, r_succ, ints_get, toNat_sub1, nat_toNat, Nat.add_sub_cancel, q_tmp, q_then, e0, e1, k_len hk]
    refine call_cl (packed_calls N (by omega)) rfl rfl rfl ?_
    have hne : M ≠ (N + 7) / 8 := by omega
    generalize (N + 7) / 8 = z at hne
    have hne' : (M : Int) ≠ (z : Int) := by omega
    simp (disch := omega) only [e_skip, e_ops, e_dops, e_seq, e_condI, e_condFb, e_gTF, e_gFT, e_gU, e_unv, e_bTT, e_bFF, e_bTF, e_bFT, e_beq1, e_beq2, Bool.not_true, Bool.not_false, e_block, e_exit, e_ret, e_seqN, e_seqE, e_seqR, e_blockN, e_blockR, e_blockE, e_nil, e_consN, e_consGI, e_nilD, e_consDN, e_consDGI, e_pure, e_eff, e_call, e_pureD, e_effD1, e_effD2, e_effD3, e_callD2, e_callD3, e_thenP, e_thenE, e_thenL, e_putS, e_putN, e_upd, e_t, e_c, e_none, e_some, e_bindS, p_move, p_bin, p_len, p_conv, p_pick, p_indexAddr, p_slice, p_extract, p_not, b_add, b_sub, b_mul, b_eql, b_neq, b_lss, b_leq, b_gtr, b_geq, l_nil, l_slice, l_sliceU, x_load1, ↓reduceIte, Nat.reduceEqDiff, Nat.reduceAdd, Nat.reduceMul, Nat.reduceSub, reduceCtorEq, Nat.zero_add, Nat.add_zero, Nat.mul_one, w64, wu32, wu64, beqT, beqF, bneT, bneF, dT, dF, a_idx, a_idxU, a_hi, a_hiN, a_sl, r_ro0, r_rw0, r_sl0, r_succ, ints_get, toNat_sub1, nat_toNat, Nat.add_sub_cancel, q_tmp, q_then, e0, e1, k_len hk]
    exact ret_both (by simp) q_tmp2 (by simp only [e_upd, e_putS, e_putN, e_t, e_c, Nat.reduceEqDiff, ↓reduceIte, reduceCtorEq, Nat.reduceAdd]) rfl

theorem unpackBad_calls (κ : SK) (n M : Nat) (q : Nat → Nat) (hk : okS κ M) (hM : M = (n + 7) / 8) (hn : n ≤ 100000) (hq : ∀ i, i < M → q i < 256) (hz : ¬ ∀ i, n ≤ i → i < 8 * M → ub q i = false) :
    ACalls Try.prog 26 [mkS κ 0 0 M, .int .i64 n] [ro (ut M q)] (List.range 1) fun v H => v = .tuple [.nilslice, .int .i64 6] ∧ H = [ro (ut M q)] := by
  refine ACalls.body Try.func26 ent_unpack ir_unpack_ok rs_unpack_ok Try.ntmps26 (by simp) rfl ?_
  unfold ir_unpack
  have e0 : s0 [mkS κ 0 0 M, .int .i64 (n : Int)] 0 = mkS κ 0 0 M := rfl
  have e1 : s0 [mkS κ 0 0 M, .int .i64 (n : Int)] 1 = .int .i64 (n : Int) := rfl
  simp (disch := omega) only [e_skip, e_ops, e_dops, e_seq, e_condI, e_condFb, e_gTF, e_gFT, e_gU, e_unv, e_bTT, e_bFF, e_bTF, e_bFT, e_beq1, e_beq2, Bool.not_true, Bool.not_false, e_block, e_exit, e_ret, e_seqN, e_seqE, e_seqR, e_blockN, e_blockR, e_blockE, e_nil, e_consN, e_consGI, e_nilD, e_consDN, e_consDGI, e_pure, e_eff, e_call, e_pureD, e_effD1, e_effD2, e_effD3, e_callD2, e_callD3, e_thenP, e_thenE, e_thenL, e_putS, e_putN, e_upd, e_t, e_c, e_none, e_some, e_bindS, p_move, p_bin, p_len, p_conv, p_pick, p_indexAddr, p_slice, p_extract, p_not, b_add, b_sub, b_mul, b_eql, b_neq, b_lss, b_leq, b_gtr, b_geq, l_nil, l_slice, l_sliceU, x_load1, ↓reduceIte, Nat.reduceEqDiff, Nat.reduceAdd, Nat.reduceMul, Nat.reduceSub, reduceCtorEq, Nat.zero_add, Nat.add_zero, Nat.mul_one, w64, wu32, wu64, beqT, beqF, bneT, bneF, dT, dF, a_idx, a_idxU, a_hi, a_hiN, a_sl, r_ro0, r_rw0, r_sl0, r_succ, ints_get, toNat_sub1, nat_toNat, Nat.add_sub_cancel, q_tmp, q_then, e0, e1, k_len hk]
  refine call_cl (packed_calls n (by omega)) rfl rfl rfl ?_
  rw [← hM]
  have hl : M ≤ 100000 := by omega
  have a1 : (8 : Int) * (M : Int) = ((8 * M : Nat) : Int) := by omega
  simp (disch := omega) only [e_skip, e_ops, e_dops, e_seq, e_condI, e_condFb, e_gTF, e_gFT, e_gU, e_unv, e_bTT, e_bFF, e_bTF, e_bFT, e_beq1, e_beq2, Bool.not_true, Bool.not_false, e_block, e_exit, e_ret, e_seqN, e_seqE, e_seqR, e_blockN, e_blockR, e_blockE, e_nil, e_consN, e_consGI, e_nilD, e_consDN, e_consDGI, e_pure, e_eff, e_call, e_pureD, e_effD1, e_effD2, e_effD3, e_callD2, e_callD3, e_thenP, e_thenE, e_thenL, e_putS, e_putN, e_upd, e_t, e_c, e_none, e_some, e_bindS, p_move, p_bin, p_len, p_conv, p_pick, p_indexAddr, p_slice, p_extract, p_not, b_add, b_sub, b_mul, b_eql, b_neq, b_lss, b_leq, b_gtr, b_geq, l_nil, l_slice, l_sliceU, x_load1, ↓reduceIte, Nat.reduceEqDiff, Nat.reduceAdd, Nat.reduceMul, Nat.reduceSub, reduceCtorEq, Nat.zero_add, Nat.add_zero, Nat.mul_one, w64, wu32, wu64, beqT, beqF, bneT, bneF, dT, dF, a_idx, a_idxU, a_hi, a_hiN, a_sl, r_ro0, r_rw0, r_sl0, r_succ, ints_get, toNat_sub1, nat_toNat, Nat.add_sub_cancel, q_tmp, q_then, e0, e1, k_len hk, a1]
  rw [x_makeR (n := 8 * M) (by simp only [e_upd, e_putS, e_putN, e_t, e_c, Nat.reduceEqDiff, ↓reduceIte, reduceCtorEq, Nat.reduceAdd]) (by simp only [e_upd, e_putS, e_putN, e_t, e_c, Nat.reduceEqDiff, ↓reduceIte, reduceCtorEq, Nat.reduceAdd]) (by omega) (by omega)]
  simp (disch := omega) only [e_skip, e_ops, e_dops, e_seq, e_condI, e_condFb, e_gTF, e_gFT, e_gU, e_unv, e_bTT, e_bFF, e_bTF, e_bFT, e_beq1, e_beq2, Bool.not_true, Bool.not_false, e_block, e_exit, e_ret, e_seqN, e_seqE, e_seqR, e_blockN, e_blockR, e_blockE, e_nil, e_consN, e_consGI, e_nilD, e_consDN, e_consDGI, e_pure, e_eff, e_call, e_pureD, e_effD1, e_effD2, e_effD3, e_callD2, e_callD3, e_thenP, e_thenE, e_thenL, e_putS, e_putN, e_upd, e_t, e_c, e_none, e_some, e_bindS, p_move, p_bin, p_len, p_conv, p_pick, p_indexAddr, p_slice, p_extract, p_not, b_add, b_sub, b_mul, b_eql, b_neq, b_lss, b_leq, b_gtr, b_geq, l_nil, l_slice, l_sliceU, x_load1, ↓reduceIte, Nat.reduceEqDiff, Nat.reduceAdd, Nat.reduceMul, Nat.reduceSub, reduceCtorEq, Nat.zero_add, Nat.add_zero, Nat.mul_one, w64, wu32, wu64, beqT, beqF, bneT, bneF, dT, dF, a_idx, a_idxU, a_hi, a_hiN, a_sl, r_ro0, r_rw0, r_sl0, r_succ, ints_get, toNat_sub1, nat_toNat, Nat.add_sub_cancel, q_tmp, q_then, e0, e1, k_len hk]
  refine ⟨fun m s H => ∃ j, m = M - j ∧ j ≤ M ∧ s 1 = .int .i64 (n : Int) ∧ s 22 = mkS κ 0 0 M ∧ s 23 = .int .i64 (M : Int) ∧ s 6 = .slice 1 0 (8 * j) (8 * M) ∧ s 24 = .int .i64 (j : Int) ∧ H = [ro (ut M q), rw_ (bt (8 * M) (upart q j))], M, ⟨0, rfl, by omega, ?_, ?_, ?_, ?_, ?_, ?_⟩, ?_⟩
  · simp only [e_upd, e_putS, e_putN, e_t, e_c, Nat.reduceEqDiff, ↓reduceIte, reduceCtorEq, Nat.reduceAdd, e1]
  · simp only [e_upd, e_putS, e_putN, e_t, e_c, Nat.reduceEqDiff, ↓reduceIte, reduceCtorEq, Nat.reduceAdd]
  · simp only [e_upd, e_putS, e_putN, e_t, e_c, Nat.reduceEqDiff, ↓reduceIte, reduceCtorEq, Nat.reduceAdd]
  · simp only [e_upd, e_putS, e_putN, e_t, e_c, Nat.reduceEqDiff, ↓reduceIte, reduceCtorEq, Nat.reduceAdd]; rfl
  · simp only [e_upd, e_putS, e_putN, e_t, e_c, Nat.reduceEqDiff, ↓reduceIte, reduceCtorEq, Nat.reduceAdd]; rfl
  · have : bt (8 * M) (upart q 0) = bt (8 * M) (fun _ => false) := bt_congr fun i _ => by simp [upart]
    rw [this]; rfl
  rintro m s H ⟨j, hm, hj, h1, h22, h23, h6, h24, rfl⟩
  by_cases hlt : (j : Int) < (M : Int)
  · have hjn : j < M := by omega
    have hb := hq j hjn
    have i0 : aindexAddr 1 (mkS κ 0 0 M) (.int .i64 (j : Int)) = some (.ptr 0 j) := by
      rw [k_idx hk (Nat.le_refl M) (by omega) (by omega)]; simp
    have g0 : (ut M q)[j]? = some (.int .u8 ((q j : Nat) : Int)) := ut_get hjn
    simp (disch := omega) only [e_skip, e_ops, e_dops, e_seq, e_condI, e_condFb, e_gTF, e_gFT, e_gU, e_unv, e_bTT, e_bFF, e_bTF, e_bFT, e_beq1, e_beq2, Bool.not_true, Bool.not_false, e_block, e_exit, e_ret, e_seqN, e_seqE, e_seqR, e_blockN, e_blockR, e_blockE, e_nil, e_consN, e_consGI, e_nilD, e_consDN, e_consDGI, e_pure, e_eff, e_call, e_pureD, e_effD1, e_effD2, e_effD3, e_callD2, e_callD3, e_thenP, e_thenE, e_thenL, e_putS, e_putN, e_upd, e_t, e_c, e_none, e_some, e_bindS, p_move, p_bin, p_len, p_conv, p_pick, p_indexAddr, p_slice, p_extract, p_not, b_add, b_sub, b_mul, b_eql, b_neq, b_lss, b_leq, b_gtr, b_geq, l_nil, l_slice, l_sliceU, x_load1, ↓reduceIte, Nat.reduceEqDiff, Nat.reduceAdd, Nat.reduceMul, Nat.reduceSub, reduceCtorEq, Nat.zero_add, Nat.add_zero, Nat.mul_one, w64, wu32, wu64, beqT, beqF, bneT, bneF, dT, dF, a_idx, a_idxU, a_hi, a_hiN, a_sl, r_ro0, r_rw0, r_sl0, r_succ, ints_get, toNat_sub1, nat_toNat, Nat.add_sub_cancel, q_tmp, q_then, h1, h22, h23, h6, h24, i0, g0]
    refine call_newB (digits_calls (q j) 8 (by omega) (by omega)) rfl rfl ?_
    simp (disch := omega) only [e_skip, e_ops, e_dops, e_seq, e_condI, e_condFb, e_gTF, e_gFT, e_gU, e_unv, e_bTT, e_bFF, e_bTF, e_bFT, e_beq1, e_beq2, Bool.not_true, Bool.not_false, e_block, e_exit, e_ret, e_seqN, e_seqE, e_seqR, e_blockN, e_blockR, e_blockE, e_nil, e_consN, e_consGI, e_nilD, e_consDN, e_consDGI, e_pure, e_eff, e_call, e_pureD, e_effD1, e_effD2, e_effD3, e_callD2, e_callD3, e_thenP, e_thenE, e_thenL, e_putS, e_putN, e_upd, e_t, e_c, e_none, e_some, e_bindS, p_move, p_bin, p_len, p_conv, p_pick, p_indexAddr, p_slice, p_extract, p_not, b_add, b_sub, b_mul, b_eql, b_neq, b_lss, b_leq, b_gtr, b_geq, l_nil, l_slice, l_sliceU, x_load1, ↓reduceIte, Nat.reduceEqDiff, Nat.reduceAdd, Nat.reduceMul, Nat.reduceSub, reduceCtorEq, Nat.zero_add, Nat.add_zero, Nat.mul_one, w64, wu32, wu64, beqT, beqF, bneT, bneF, dT, dF, a_idx, a_idxU, a_hi, a_hiN, a_sl, r_ro0, r_rw0, r_sl0, r_succ, ints_get, toNat_sub1, nat_toNat, Nat.add_sub_cancel, q_tmp, q_then, h1, h22, h23, h6, h24]
    rw [x_appS (r := 1) (q := 2) (n := 8 * j) (m := 8) (c := 8 * M) (c' := 8) (row := ⟨true, false, bt 8 (dg (q j) 8)⟩) (g := upart q j) (h := dg (q j) 8) (by simp only [e_upd, e_putS, e_putN, e_t, e_c, Nat.reduceEqDiff, ↓reduceIte, reduceCtorEq, Nat.reduceAdd, h6]) (by simp only [e_upd, e_putS, e_putN, e_t, e_c, Nat.reduceEqDiff, ↓reduceIte, reduceCtorEq, Nat.reduceAdd]; rfl) rfl (bt_take (Nat.le_refl 8)) (by simp [bt_length]) rfl (by omega) (by omega) (by omega)]
    simp (disch := omega) only [e_skip, e_ops, e_dops, e_seq, e_condI, e_condFb, e_gTF, e_gFT, e_gU, e_unv, e_bTT, e_bFF, e_bTF, e_bFT, e_beq1, e_beq2, Bool.not_true, Bool.not_false, e_block, e_exit, e_ret, e_seqN, e_seqE, e_seqR, e_blockN, e_blockR, e_blockE, e_nil, e_consN, e_consGI, e_nilD, e_consDN, e_consDGI, e_pure, e_eff, e_call, e_pureD, e_effD1, e_effD2, e_effD3, e_callD2, e_callD3, e_thenP, e_thenE, e_thenL, e_putS, e_putN, e_upd, e_t, e_c, e_none, e_some, e_bindS, p_move, p_bin, p_len, p_conv, p_pick, p_indexAddr, p_slice, p_extract, p_not, b_add, b_sub, b_mul, b_eql, b_neq, b_lss, b_leq, b_gtr, b_geq, l_nil, l_slice, l_sliceU, x_load1, ↓reduceIte, Nat.reduceEqDiff, Nat.reduceAdd, Nat.reduceMul, Nat.reduceSub, reduceCtorEq, Nat.zero_add, Nat.add_zero, Nat.mul_one, w64, wu32, wu64, beqT, beqF, bneT, bneF, dT, dF, a_idx, a_idxU, a_hi, a_hiN, a_sl, r_ro0, r_rw0, r_sl0, r_succ, ints_get, toNat_sub1, nat_toNat, Nat.add_sub_cancel, q_tmp, q_then, h1, h22, h23, h6, h24]
    refine loop_gc (m := M - (j + 1)) [0, 1] rfl ?_ (by omega) ⟨j + 1, rfl, by omega, ?_, ?_, ?_, ?_, ?_, ?_⟩
    · simp [gcH, Vh.rowAt, ro, rw_, bt_ren, bt_cell, ut_ren, ut_cell]
    · exact gc_at (v := .int .i64 (n : Int)) (by simp only [e_upd, e_putS, e_putN, e_t, e_c, Nat.reduceEqDiff, ↓reduceIte, reduceCtorEq, Nat.reduceAdd, h1]) rfl
    · exact gc_at (v := mkS κ 0 0 M) (by simp only [e_upd, e_putS, e_putN, e_t, e_c, Nat.reduceEqDiff, ↓reduceIte, reduceCtorEq, Nat.reduceAdd, h22]) (n_mkS0 rfl)
    · exact gc_at (v := .int .i64 (M : Int)) (by simp only [e_upd, e_putS, e_putN, e_t, e_c, Nat.reduceEqDiff, ↓reduceIte, reduceCtorEq, Nat.reduceAdd, h23]) rfl
    · exact gc_at (v := .slice 1 0 (8 * j + 8) (8 * M)) (by simp only [e_upd, e_putS, e_putN, e_t, e_c, Nat.reduceEqDiff, ↓reduceIte, reduceCtorEq, Nat.reduceAdd]) rfl
    · exact gc_at (v := .int .i64 ((j + 1 : Nat) : Int)) (by simp only [e_upd, e_putS, e_putN, e_t, e_c, Nat.reduceEqDiff, ↓reduceIte, reduceCtorEq, Nat.reduceAdd]; rfl) rfl
    · have : bt (8 * M) (fun i => if 8 * j ≤ i ∧ i < 8 * j + 8 then dg (q j) 8 (i - 8 * j) else upart q j i) = bt (8 * M) (upart q (j + 1)) := bt_congr fun i _ => by
        unfold upart
        by_cases e : i < 8 * j
        · rw [if_neg (by omega), if_pos e, if_pos (by omega)]
        · by_cases e2 : i < 8 * j + 8
          · rw [if_pos (by omega), if_pos (by omega)]
            unfold ub
            rw [show i / 8 = j by omega, show i % 8 = i - 8 * j by omega]
          · rw [if_neg (by omega), if_neg e, if_neg (by omega)]
      simp [gcH, Vh.rowAt, ro, rw_, bt_ren, ut_ren, this]
  · have hjn : j = M := by omega
    subst hjn
    have fin : bt (8 * j) (upart q j) = bt (8 * j) (ub q) := bt_congr fun i hi => by simp [upart, hi]
    rw [fin]
    have hle : n ≤ 8 * j := by omega
    have s1 : aslice 1 (.slice 1 0 (8 * j) (8 * j)) (some (.int .i64 (n : Int))) none = some (mkS (.cap (8 * j - n)) 1 n (8 * j - n)) := by
      simp only [aslice, ahi, abound, Option.bind_some]
      rw [if_pos (by omega)]
      simp [mkS]
    simp (disch := omega) only [e_skip, e_ops, e_dops, e_seq, e_condI, e_condFb, e_gTF, e_gFT, e_gU, e_unv, e_bTT, e_bFF, e_bTF, e_bFT, e_beq1, e_beq2, Bool.not_true, Bool.not_false, e_block, e_exit, e_ret, e_seqN, e_seqE, e_seqR, e_blockN, e_blockR, e_blockE, e_nil, e_consN, e_consGI, e_nilD, e_consDN, e_consDGI, e_pure, e_eff, e_call, e_pureD, e_effD1, e_effD2, e_effD3, e_callD2, e_callD3, e_thenP, e_thenE, e_thenL, e_putS, e_putN, e_upd, e_t, e_c, e_none, e_some, e_bindS, p_move, p_bin, p_len, p_conv, p_pick, p_indexAddr, p_slice, p_extract, p_not, b_add, b_sub, b_mul, b_eql, b_neq, b_lss, b_leq, b_gtr, b_geq, l_nil, l_slice, l_sliceU, x_load1, ↓reduceIte, Nat.reduceEqDiff, Nat.reduceAdd, Nat.reduceMul, Nat.reduceSub, reduceCtorEq, Nat.zero_add, Nat.add_zero, Nat.mul_one, w64, wu32, wu64, beqT, beqF, bneT, bneF, dT, dF, a_idx, a_idxU, a_hi, a_hiN, a_sl, r_ro0, r_rw0, r_sl0, r_succ, ints_get, toNat_sub1, nat_toNat, Nat.add_sub_cancel, q_tmp, q_then, h1, h22, h23, h6, h24, s1]
    refine call_b (κ := .cap (8 * j - n)) (n := 8 * j - n) (m := 8 * j - n) (a := 1) (da := n) (g := fun i => ub q (n + i)) (rest := []) (aCount_calls (.cap (8 * j - n)) (8 * j - n) _ (Nat.le_refl _) (by omega)) rfl rfl (by simp [bt_length]; omega) (bt_sub (by omega)) rfl ?_
    rintro v0 H0' ⟨rfl, rfl⟩
    have hc : cnt (fun i => ub q (n + i)) (8 * j - n) ≠ 0 := fun h0 => hz fun i h1 h2 => by
      have := (cnt_zero _ _).1 h0 (i - n) (by omega)
      rwa [show n + (i - n) = i by omega] at this
    rw [n_int]
    generalize cnt (fun i => ub q (n + i)) (8 * j - n) = z at hc
    have hz0 : (0 : Int) < (z : Int) := by omega
    simp (disch := omega) only [e_skip, e_ops, e_dops, e_seq, e_condI, e_condFb, e_gTF, e_gFT, e_gU, e_unv, e_bTT, e_bFF, e_bTF, e_bFT, e_beq1, e_beq2, Bool.not_true, Bool.not_false, e_block, e_exit, e_ret, e_seqN, e_seqE, e_seqR, e_blockN, e_blockR, e_blockE, e_nil, e_consN, e_consGI, e_nilD, e_consDN, e_consDGI, e_pure, e_eff, e_call, e_pureD, e_effD1, e_effD2, e_effD3, e_callD2, e_callD3, e_thenP, e_thenE, e_thenL, e_putS, e_putN, e_upd, e_t, e_c, e_none, e_some, e_bindS, p_move, p_bin, p_len, p_conv, p_pick, p_indexAddr, p_slice, p_extract, p_not, b_add, b_sub, b_mul, b_eql, b_neq, b_lss, b_leq, b_gtr, b_geq, l_nil, l_slice, l_sliceU, x_load1, ↓reduceIte, Nat.reduceEqDiff, Nat.reduceAdd, Nat.reduceMul, Nat.reduceSub, reduceCtorEq, Nat.zero_add, Nat.add_zero, Nat.mul_one, w64, wu32, wu64, beqT, beqF, bneT, bneF, dT, dF, a_idx, a_idxU, a_hi, a_hiN, a_sl, r_ro0, r_rw0, r_sl0, r_succ, ints_get, toNat_sub1, nat_toNat, Nat.add_sub_cancel, q_tmp, q_then, h1, h22, h23, h6, h24]
    refine ret_gc [0] rfl ?_ (by simp) ?_
    · simp [gcH, Vh.rowAt, ro, ut_ren, ut_cell]
    · unfold rs_unpack; rw [q_tmp2, q_then]
      refine ⟨?_, ?_⟩
      · rw [gc_at (v := .nilslice) (v' := .nilslice) (by simp only [e_upd, e_putS, e_putN, e_t, e_c, Nat.reduceEqDiff, ↓reduceIte, reduceCtorEq, Nat.reduceAdd]) rfl, gc_at (v := .int .i64 6) (v' := .int .i64 6) (by simp only [e_upd, e_putS, e_putN, e_t, e_c, Nat.reduceEqDiff, ↓reduceIte, reduceCtorEq, Nat.reduceAdd]) rfl]
      · simp [gcH, Vh.rowAt, ro, ut_ren]

theorem wd_set {h h' : Nat → Bool} {k : Nat} (hk : h k = false) (hk' : h' k = true) (hr : ∀ i, i ≠ k → h' i = h i) : ∀ w, wd h' w = wd h w + (if k < w then 2 ^ (w - 1 - k) else 0)
  | 0 => by simp [wd]
  | w + 1 => by
    rw [wd, wd, wd_set hk hk' hr w]
    rcases Nat.lt_trichotomy k w with e | e | e
    · rw [if_pos e, if_pos (show k < w + 1 by omega), hr w (by omega), show w + 1 - 1 - k = (w - 1 - k) + 1 by omega, Nat.pow_succ]; omega
    · subst e
      rw [if_neg (show ¬ k < k by omega), if_pos (show k < k + 1 by omega), hk, hk', show k + 1 - 1 - k = 0 by omega]; simp
    · rw [if_neg (show ¬ k < w by omega), if_neg (show ¬ k < w + 1 by omega), hr w (by omega)]; omega

theorem pk_step (j : Nat) (f : Nat → Bool) (i : Nat) : pk (j + 1) f i = pk j f i + (if i = j / 8 ∧ f j = true then 2 ^ (7 - j % 8) else 0) := by
  unfold pk
  by_cases h : i = j / 8 ∧ f j = true
  · rw [if_pos h]
    obtain ⟨h1, h2⟩ := h
    have := wd_set (h := cut j f (8 * i)) (h' := cut (j + 1) f (8 * i)) (k := j % 8) (by unfold cut; rw [decide_eq_false (by omega)]; rfl)
      (by unfold cut; rw [decide_eq_true (by omega), show 8 * i + j % 8 = j by omega, h2]; rfl)
      (fun t ht => by
        unfold cut
        by_cases e : 8 * i + t < j
        · rw [decide_eq_true e, decide_eq_true (by omega)]
        · rw [decide_eq_false e, decide_eq_false (by omega)]) 8
    rw [this, if_pos (by omega)]
  · rw [if_neg h, Nat.add_zero]
    refine wd_congr fun t ht => ?_
    unfold cut
    by_cases e : 8 * i + t = j
    · have hf : f j = false := by
        cases hf : f j with
        | false => rfl
        | true => exact (h ⟨by omega, hf⟩).elim
      rw [e, hf]; simp
    · by_cases e2 : 8 * i + t < j
      · rw [decide_eq_true e2, decide_eq_true (by omega)]
      · rw [decide_eq_false e2, decide_eq_false (by omega)]
end Go.Proofs.Ytebijlefkomplab
