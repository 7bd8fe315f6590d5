/- Contracts: the reference's products, powers and inverses. -/
import Derived.Test.YtebijlefkomplaaA6
set_option linter.unusedSimpArgs false
set_option linter.unusedVariables false
namespace Go.Proofs.Ytebijlefkomplaa
open Go Go.Vh

theorem modulus_calls {w : Nat} (h : Gf.wide w) : ACalls Try.prog 62 [.int .i64 w] [] [] fun v H => v = .int .u64 ((Gf.modu w : Nat) : Int) ∧ H = [] := by
  refine ACalls.body Try.func62 ent_modulus ir_modulus_ok rs_modulus_ok Try.ntmps62 (by simp) rfl ?_
  unfold ir_modulus
  rcases h with rfl | rfl | rfl
  · have e0 : s0 [.int .i64 ((8 : Nat) : Int)] 0 = .int .i64 8 := rfl
    simp -implicitDefEqProofs (disch := omega) only [e_skip, e_ops, e_dops, e_seq, e_cond, e_block, e_exit, e_ret, e_seqN, e_seqE, e_seqR, e_blockN, e_blockR, e_blockE, e_condT, e_condF, e_condB, e_nil, e_consN, e_consG, e_nilD, e_consDN, e_consDG, e_guardB, e_guardTT, e_guardTF, e_guardFT, e_guardFF, e_guardU, e_pure, e_eff, e_call, e_pureD, e_effD1, e_effD2, e_effD3, e_callD2, e_callD3, e_thenP, e_thenE, e_thenL, e_putS, e_putN, e_upd, e_t, e_c, e_none, e_some, e_bindS, p_move, p_bin, p_len, p_conv, p_pick, p_indexAddr, p_slice, p_extract, p_not, b_add, b_sub, b_mul, b_eql, b_neq, b_lss, b_leq, b_gtr, b_geq, l_nil, l_slice, l_sliceU, x_load1, ↓reduceIte, Nat.reduceEqDiff, Nat.reduceAdd, Nat.reduceMul, Nat.reduceSub, reduceCtorEq, Nat.zero_add, Nat.add_zero, Nat.mul_one, w64, wu32, wu64, beqT, beqF, bneT, bneF, dT, dF, a_idx, a_idxU, a_hi, a_hiN, a_sl, r_ro0, r_rw0, r_sl0, r_succ, ints_get, toNat_sub1, nat_toNat, Nat.add_sub_cancel, q_tmp, q_then, e0]
    exact ret_both (by simp) q_tmp (by simp only [e_upd, e_putS, e_putN, e_t, e_c, Nat.reduceEqDiff, ↓reduceIte, reduceCtorEq, Nat.reduceAdd]; rfl) rfl
  · have e0 : s0 [.int .i64 ((16 : Nat) : Int)] 0 = .int .i64 16 := rfl
    simp -implicitDefEqProofs (disch := omega) only [e_skip, e_ops, e_dops, e_seq, e_cond, e_block, e_exit, e_ret, e_seqN, e_seqE, e_seqR, e_blockN, e_blockR, e_blockE, e_condT, e_condF, e_condB, e_nil, e_consN, e_consG, e_nilD, e_consDN, e_consDG, e_guardB, e_guardTT, e_guardTF, e_guardFT, e_guardFF, e_guardU, e_pure, e_eff, e_call, e_pureD, e_effD1, e_effD2, e_effD3, e_callD2, e_callD3, e_thenP, e_thenE, e_thenL, e_putS, e_putN, e_upd, e_t, e_c, e_none, e_some, e_bindS, p_move, p_bin, p_len, p_conv, p_pick, p_indexAddr, p_slice, p_extract, p_not, b_add, b_sub, b_mul, b_eql, b_neq, b_lss, b_leq, b_gtr, b_geq, l_nil, l_slice, l_sliceU, x_load1, ↓reduceIte, Nat.reduceEqDiff, Nat.reduceAdd, Nat.reduceMul, Nat.reduceSub, reduceCtorEq, Nat.zero_add, Nat.add_zero, Nat.mul_one, w64, wu32, wu64, beqT, beqF, bneT, bneF, dT, dF, a_idx, a_idxU, a_hi, a_hiN, a_sl, r_ro0, r_rw0, r_sl0, r_succ, ints_get, toNat_sub1, nat_toNat, Nat.add_sub_cancel, q_tmp, q_then, e0]
    exact ret_both (by simp) q_tmp (by simp only [e_upd, e_putS, e_putN, e_t, e_c, Nat.reduceEqDiff, ↓reduceIte, reduceCtorEq, Nat.reduceAdd]; rfl) rfl
  · have e0 : s0 [.int .i64 ((32 : Nat) : Int)] 0 = .int .i64 32 := rfl
    simp -implicitDefEqProofs (disch := omega) only [e_skip, e_ops, e_dops, e_seq, e_cond, e_block, e_exit, e_ret, e_seqN, e_seqE, e_seqR, e_blockN, e_blockR, e_blockE, e_condT, e_condF, e_condB, e_nil, e_consN, e_consG, e_nilD, e_consDN, e_consDG, e_guardB, e_guardTT, e_guardTF, e_guardFT, e_guardFF, e_guardU, e_pure, e_eff, e_call, e_pureD, e_effD1, e_effD2, e_effD3, e_callD2, e_callD3, e_thenP, e_thenE, e_thenL, e_putS, e_putN, e_upd, e_t, e_c, e_none, e_some, e_bindS, p_move, p_bin, p_len, p_conv, p_pick, p_indexAddr, p_slice, p_extract, p_not, b_add, b_sub, b_mul, b_eql, b_neq, b_lss, b_leq, b_gtr, b_geq, l_nil, l_slice, l_sliceU, x_load1, ↓reduceIte, Nat.reduceEqDiff, Nat.reduceAdd, Nat.reduceMul, Nat.reduceSub, reduceCtorEq, Nat.zero_add, Nat.add_zero, Nat.mul_one, w64, wu32, wu64, beqT, beqF, bneT, bneF, dT, dF, a_idx, a_idxU, a_hi, a_hiN, a_sl, r_ro0, r_rw0, r_sl0, r_succ, ints_get, toNat_sub1, nat_toNat, Nat.add_sub_cancel, q_tmp, q_then, e0]
    exact ret_both (by simp) q_tmp (by simp only [e_upd, e_putS, e_putN, e_t, e_c, Nat.reduceEqDiff, ↓reduceIte, reduceCtorEq, Nat.reduceAdd]; rfl) rfl

theorem rFits_calls {w n : Nat} (h : Gf.wide w) (hn : n < 2 ^ 64) : ACalls Try.prog 19 [.int .u64 n, .int .i64 w] [] [] fun v H => v = .bool (decide (n < 2 ^ w)) ∧ H = [] := by
  refine ACalls.body Try.func19 ent_rFits ir_rFits_ok rs_rFits_ok Try.ntmps19 (by simp) rfl ?_
  unfold ir_rFits
  have hp := pow_le h
  have hw := wide_le h
  have e0 : s0 [.int .u64 (n : Int), .int .i64 (w : Int)] 0 = .int .u64 n := rfl
  have e1 : s0 [.int .u64 (n : Int), .int .i64 (w : Int)] 1 = .int .i64 w := rfl
  have h2 : abin .shl (.int .u64 1) (.int .i64 (w : Int)) = some (.int .u64 ((2 ^ w : Nat) : Int)) := by
    have := b_shlN (k' := .i64) (x := 1) (n := w) (by omega) (by omega)
    rw [Nat.one_mul] at this; exact this
  have h3 : decide ((n : Int) < ((2 ^ w : Nat) : Int)) = decide (n < 2 ^ w) := by
    by_cases h : n < 2 ^ w
    · rw [decide_eq_true h, decide_eq_true]; omega
    · rw [decide_eq_false h, decide_eq_false]; omega
  simp -implicitDefEqProofs (disch := omega) only [e_skip, e_ops, e_dops, e_seq, e_cond, e_block, e_exit, e_ret, e_seqN, e_seqE, e_seqR, e_blockN, e_blockR, e_blockE, e_condT, e_condF, e_condB, e_nil, e_consN, e_consG, e_nilD, e_consDN, e_consDG, e_guardB, e_guardTT, e_guardTF, e_guardFT, e_guardFF, e_guardU, e_pure, e_eff, e_call, e_pureD, e_effD1, e_effD2, e_effD3, e_callD2, e_callD3, e_thenP, e_thenE, e_thenL, e_putS, e_putN, e_upd, e_t, e_c, e_none, e_some, e_bindS, p_move, p_bin, p_len, p_conv, p_pick, p_indexAddr, p_slice, p_extract, p_not, b_add, b_sub, b_mul, b_eql, b_neq, b_lss, b_leq, b_gtr, b_geq, l_nil, l_slice, l_sliceU, x_load1, ↓reduceIte, Nat.reduceEqDiff, Nat.reduceAdd, Nat.reduceMul, Nat.reduceSub, reduceCtorEq, Nat.zero_add, Nat.add_zero, Nat.mul_one, w64, wu32, wu64, beqT, beqF, bneT, bneF, dT, dF, a_idx, a_idxU, a_hi, a_hiN, a_sl, r_ro0, r_rw0, r_sl0, r_succ, ints_get, toNat_sub1, nat_toNat, Nat.add_sub_cancel, q_tmp, q_then, e0, e1, h2, h3]
  exact ret_both (by simp) q_tmp (by simp only [e_upd, e_putS, e_putN, e_t, e_c, Nat.reduceEqDiff, ↓reduceIte, reduceCtorEq, Nat.reduceAdd]) rfl

theorem cml_bound {w a b i : Nat} (h : Gf.wide w) (ha : a < 2 ^ w) (hi : i ≤ w) : Gf.cml a b i < 2 ^ 64 := by
  have hw := wide_le h
  cases i with
  | zero => exact Nat.two_pow_pos 64
  | succ i => exact Nat.lt_of_lt_of_le (Gf.cml_lt (b := b) ha i) (Nat.pow_le_pow_right (by decide) (by omega))

theorem cast_rem (x : Nat) : (((x : Nat) : Int) % 2 == 1) = decide (x % 2 = 1) := by
  by_cases h : x % 2 = 1
  · rw [decide_eq_true h, beq_iff_eq]; omega
  · rw [decide_eq_false h, beq_eq_false_iff_ne]; omega

set_option maxHeartbeats 1000000 in
theorem rMul_calls {w a b : Nat} (h : Gf.wide w) (ha : a < 2 ^ w) (hb : b < 2 ^ w) : ACalls Try.prog 20 [.int .i64 w, .int .u64 a, .int .u64 b] [] [] fun v H => v = .int .u64 ((Gf.mul w (Gf.modu w) a b : Nat) : Int) ∧ H = [] := by
  refine ACalls.body Try.func20 ent_rMul ir_rMul_ok rs_rMul_ok Try.ntmps20 (by simp) rfl ?_
  unfold ir_rMul
  have hp := pow_le h
  have hw := wide_le h
  have G := (Gf.fld h).toFld
  have e0 : s0 [.int .i64 (w : Int), .int .u64 (a : Int), .int .u64 (b : Int)] 0 = .int .i64 w := rfl
  have e1 : s0 [.int .i64 (w : Int), .int .u64 (a : Int), .int .u64 (b : Int)] 1 = .int .u64 (a : Int) := rfl
  have e2 : s0 [.int .i64 (w : Int), .int .u64 (a : Int), .int .u64 (b : Int)] 2 = .int .u64 (b : Int) := rfl
  simp -implicitDefEqProofs (disch := omega) only [e_skip, e_ops, e_dops, e_seq, e_cond, e_block, e_exit, e_ret, e_seqN, e_seqE, e_seqR, e_blockN, e_blockR, e_blockE, e_condT, e_condF, e_condB, e_nil, e_consN, e_consG, e_nilD, e_consDN, e_consDG, e_guardB, e_guardTT, e_guardTF, e_guardFT, e_guardFF, e_guardU, e_pure, e_eff, e_call, e_pureD, e_effD1, e_effD2, e_effD3, e_callD2, e_callD3, e_thenP, e_thenE, e_thenL, e_putS, e_putN, e_upd, e_t, e_c, e_none, e_some, e_bindS, p_move, p_bin, p_len, p_conv, p_pick, p_indexAddr, p_slice, p_extract, p_not, b_add, b_sub, b_mul, b_eql, b_neq, b_lss, b_leq, b_gtr, b_geq, l_nil, l_slice, l_sliceU, x_load1, ↓reduceIte, Nat.reduceEqDiff, Nat.reduceAdd, Nat.reduceMul, Nat.reduceSub, reduceCtorEq, Nat.zero_add, Nat.add_zero, Nat.mul_one, w64, wu32, wu64, beqT, beqF, bneT, bneF, dT, dF, a_idx, a_idxU, a_hi, a_hiN, a_sl, r_ro0, r_rw0, r_sl0, r_succ, ints_get, toNat_sub1, nat_toNat, Nat.add_sub_cancel, q_tmp, q_then]
  refine ⟨fun n s H => ∃ i : Nat, n = w - i ∧ i ≤ w ∧ s 0 = .int .i64 w ∧ s 1 = .int .u64 (a : Int) ∧ s 2 = .int .u64 (b : Int) ∧ s 7 = .int .u64 ((Gf.cml a b i : Nat) : Int) ∧ s 8 = .int .i64 (i : Int) ∧ H = [], w, ⟨0, rfl, by omega, ?_, ?_, ?_, ?_, ?_, rfl⟩, ?_⟩
  · simp only [e_upd, e_putS, e_putN, e_t, e_c, Nat.reduceEqDiff, ↓reduceIte, reduceCtorEq, Nat.reduceAdd, e0]
  · simp only [e_upd, e_putS, e_putN, e_t, e_c, Nat.reduceEqDiff, ↓reduceIte, reduceCtorEq, Nat.reduceAdd, e1]
  · simp only [e_upd, e_putS, e_putN, e_t, e_c, Nat.reduceEqDiff, ↓reduceIte, reduceCtorEq, Nat.reduceAdd, e2]
  · simp only [e_upd, e_putS, e_putN, e_t, e_c, Nat.reduceEqDiff, ↓reduceIte, reduceCtorEq, Nat.reduceAdd]; rfl
  · simp only [e_upd, e_putS, e_putN, e_t, e_c, Nat.reduceEqDiff, ↓reduceIte, reduceCtorEq, Nat.reduceAdd]; rfl
  rintro n s H ⟨i, hn, hi, h0, h1, h2, h7, h8, rfl⟩
  have hc := cml_bound (b := b) h ha hi
  by_cases hlt : i < w
  · have a1 : abin .shr (.int .u64 (b : Int)) (.int .i64 (i : Int)) = some (.int .u64 ((b / 2 ^ i : Nat) : Int)) := b_shrN (by omega)
    have a2 : abin .rem (.int .u64 ((b / 2 ^ i : Nat) : Int)) (.int .u64 2) = some (.int .u64 (((b / 2 ^ i : Nat) : Int) % 2)) := b_rem (Int.natCast_nonneg _) (by decide)
    have hlm : a * 2 ^ i < 2 ^ 64 := Gf.lt_mul ha (by omega)
    have a3 : abin .shl (.int .u64 (a : Int)) (.int .i64 (i : Int)) = some (.int .u64 ((a * 2 ^ i : Nat) : Int)) := b_shlN hlm (by omega)
    have a4 : abin .xor (.int .u64 ((Gf.cml a b i : Nat) : Int)) (.int .u64 ((a * 2 ^ i : Nat) : Int)) = some (.int .u64 ((Gf.cml a b i ^^^ (a * 2 ^ i) : Nat) : Int)) := b_xor hc hlm
    have hlt' : (i : Int) < (w : Int) := by omega
    by_cases hodd : b / 2 ^ i % 2 = 1
    · simp -implicitDefEqProofs (disch := omega) only [e_skip, e_ops, e_dops, e_seq, e_cond, e_block, e_exit, e_ret, e_seqN, e_seqE, e_seqR, e_blockN, e_blockR, e_blockE, e_condT, e_condF, e_condB, e_nil, e_consN, e_consG, e_nilD, e_consDN, e_consDG, e_guardB, e_guardTT, e_guardTF, e_guardFT, e_guardFF, e_guardU, e_pure, e_eff, e_call, e_pureD, e_effD1, e_effD2, e_effD3, e_callD2, e_callD3, e_thenP, e_thenE, e_thenL, e_putS, e_putN, e_upd, e_t, e_c, e_none, e_some, e_bindS, p_move, p_bin, p_len, p_conv, p_pick, p_indexAddr, p_slice, p_extract, p_not, b_add, b_sub, b_mul, b_eql, b_neq, b_lss, b_leq, b_gtr, b_geq, l_nil, l_slice, l_sliceU, x_load1, ↓reduceIte, Nat.reduceEqDiff, Nat.reduceAdd, Nat.reduceMul, Nat.reduceSub, reduceCtorEq, Nat.zero_add, Nat.add_zero, Nat.mul_one, w64, wu32, wu64, beqT, beqF, bneT, bneF, dT, dF, a_idx, a_idxU, a_hi, a_hiN, a_sl, r_ro0, r_rw0, r_sl0, r_succ, ints_get, toNat_sub1, nat_toNat, Nat.add_sub_cancel, q_tmp, q_then, h0, h1, h2, h7, h8, a1, a2, a3, a4, hlt', cast_rem, decide_eq_true hodd]
      refine loop_keep (m := w - (i + 1)) (by omega) ⟨i + 1, rfl, by omega, ?_, ?_, ?_, ?_, ?_, rfl⟩
      · simp only [e_upd, e_putS, e_putN, e_t, e_c, Nat.reduceEqDiff, ↓reduceIte, reduceCtorEq, Nat.reduceAdd, h0]
      · simp only [e_upd, e_putS, e_putN, e_t, e_c, Nat.reduceEqDiff, ↓reduceIte, reduceCtorEq, Nat.reduceAdd, h1]
      · simp only [e_upd, e_putS, e_putN, e_t, e_c, Nat.reduceEqDiff, ↓reduceIte, reduceCtorEq, Nat.reduceAdd, h2]
      · simp only [e_upd, e_putS, e_putN, e_t, e_c, Nat.reduceEqDiff, ↓reduceIte, reduceCtorEq, Nat.reduceAdd, Gf.cml, if_pos hodd]
      · simp only [e_upd, e_putS, e_putN, e_t, e_c, Nat.reduceEqDiff, ↓reduceIte, reduceCtorEq, Nat.reduceAdd]; rfl
    · simp -implicitDefEqProofs (disch := omega) only [e_skip, e_ops, e_dops, e_seq, e_cond, e_block, e_exit, e_ret, e_seqN, e_seqE, e_seqR, e_blockN, e_blockR, e_blockE, e_condT, e_condF, e_condB, e_nil, e_consN, e_consG, e_nilD, e_consDN, e_consDG, e_guardB, e_guardTT, e_guardTF, e_guardFT, e_guardFF, e_guardU, e_pure, e_eff, e_call, e_pureD, e_effD1, e_effD2, e_effD3, e_callD2, e_callD3, e_thenP, e_thenE, e_thenL, e_putS, e_putN, e_upd, e_t, e_c, e_none, e_some, e_bindS, p_move, p_bin, p_len, p_conv, p_pick, p_indexAddr, p_slice, p_extract, p_not, b_add, b_sub, b_mul, b_eql, b_neq, b_lss, b_leq, b_gtr, b_geq, l_nil, l_slice, l_sliceU, x_load1, ↓reduceIte, Nat.reduceEqDiff, Nat.reduceAdd, Nat.reduceMul, Nat.reduceSub, reduceCtorEq, Nat.zero_add, Nat.add_zero, Nat.mul_one, w64, wu32, wu64, beqT, beqF, bneT, bneF, dT, dF, a_idx, a_idxU, a_hi, a_hiN, a_sl, r_ro0, r_rw0, r_sl0, r_succ, ints_get, toNat_sub1, nat_toNat, Nat.add_sub_cancel, q_tmp, q_then, h0, h1, h2, h7, h8, a1, a2, a3, a4, hlt', cast_rem, decide_eq_false hodd]
      refine loop_keep (m := w - (i + 1)) (by omega) ⟨i + 1, rfl, by omega, ?_, ?_, ?_, ?_, ?_, rfl⟩
      · simp only [e_upd, e_putS, e_putN, e_t, e_c, Nat.reduceEqDiff, ↓reduceIte, reduceCtorEq, Nat.reduceAdd, h0]
      · simp only [e_upd, e_putS, e_putN, e_t, e_c, Nat.reduceEqDiff, ↓reduceIte, reduceCtorEq, Nat.reduceAdd, h1]
      · simp only [e_upd, e_putS, e_putN, e_t, e_c, Nat.reduceEqDiff, ↓reduceIte, reduceCtorEq, Nat.reduceAdd, h2]
      · simp only [e_upd, e_putS, e_putN, e_t, e_c, Nat.reduceEqDiff, ↓reduceIte, reduceCtorEq, Nat.reduceAdd, Gf.cml, if_neg hodd, Nat.xor_zero, h7]
      · simp only [e_upd, e_putS, e_putN, e_t, e_c, Nat.reduceEqDiff, ↓reduceIte, reduceCtorEq, Nat.reduceAdd]; rfl
  have hiw : i = w := by omega
  subst hiw
  have hend : Gf.rest i (Gf.modu i) (i - 1) (Gf.cml a b i) = Gf.mul i (Gf.modu i) a b := Gf.ref_mul G ha
  have hcl : Gf.cml a b i < 2 ^ (i + (i - 1)) := by
    have := Gf.cml_lt (b := b) ha (i - 1)
    rwa [show i - 1 + 1 = i by omega] at this
  have w9 : IntKind.i64.wrap (IntKind.i64.wrap (2 * (i : Int)) - 2) = (i : Int) + ((i - 1 : Nat) : Int) - 1 := by
    rw [w64 (x := 2 * (i : Int)) (by omega) (by omega), w64 (by omega) (by omega)]; omega
  simp -implicitDefEqProofs (disch := omega) only [e_skip, e_ops, e_dops, e_seq, e_cond, e_block, e_exit, e_ret, e_seqN, e_seqE, e_seqR, e_blockN, e_blockR, e_blockE, e_condT, e_condF, e_condB, e_nil, e_consN, e_consG, e_nilD, e_consDN, e_consDG, e_guardB, e_guardTT, e_guardTF, e_guardFT, e_guardFF, e_guardU, e_pure, e_eff, e_call, e_pureD, e_effD1, e_effD2, e_effD3, e_callD2, e_callD3, e_thenP, e_thenE, e_thenL, e_putS, e_putN, e_upd, e_t, e_c, e_none, e_some, e_bindS, p_move, p_bin, p_len, p_conv, p_pick, p_indexAddr, p_slice, p_extract, p_not, b_add, b_sub, b_mul, b_eql, b_neq, b_lss, b_leq, b_gtr, b_geq, l_nil, l_slice, l_sliceU, x_load1, ↓reduceIte, Nat.reduceEqDiff, Nat.reduceAdd, Nat.reduceMul, Nat.reduceSub, reduceCtorEq, Nat.zero_add, Nat.add_zero, Nat.mul_one, w64, wu32, wu64, beqT, beqF, bneT, bneF, dT, dF, a_idx, a_idxU, a_hi, a_hiN, a_sl, r_ro0, r_rw0, r_sl0, r_succ, ints_get, toNat_sub1, nat_toNat, Nat.add_sub_cancel, q_tmp, q_then, h0, h1, h2, h7, h8, w9]
  refine ⟨fun n s H => ∃ k x : Nat, n = k ∧ k ≤ i - 1 ∧ x < 2 ^ (i + k) ∧ Gf.rest i (Gf.modu i) k x = Gf.mul i (Gf.modu i) a b ∧ s 0 = .int .i64 i ∧ s 7 = .int .u64 (x : Int) ∧ s 9 = .int .i64 ((i : Int) + (k : Int) - 1) ∧ H = [], i - 1, ⟨i - 1, _, rfl, by omega, hcl, hend, ?_, ?_, ?_, rfl⟩, ?_⟩
  · simp only [e_upd, e_putS, e_putN, e_t, e_c, Nat.reduceEqDiff, ↓reduceIte, reduceCtorEq, Nat.reduceAdd, h0]
  · simp only [e_upd, e_putS, e_putN, e_t, e_c, Nat.reduceEqDiff, ↓reduceIte, reduceCtorEq, Nat.reduceAdd, h7]
  · simp only [e_upd, e_putS, e_putN, e_t, e_c, Nat.reduceEqDiff, ↓reduceIte, reduceCtorEq, Nat.reduceAdd]; congr 1; omega
  rintro n s H ⟨k, x, hn, hk, hx, hrest, h0, h7, h9, rfl⟩
  have hx64 : x < 2 ^ 64 := Nat.lt_of_lt_of_le hx (Nat.pow_le_pow_right (by decide) (by omega))
  cases k with
  | zero =>
    simp -implicitDefEqProofs (disch := omega) only [e_skip, e_ops, e_dops, e_seq, e_cond, e_block, e_exit, e_ret, e_seqN, e_seqE, e_seqR, e_blockN, e_blockR, e_blockE, e_condT, e_condF, e_condB, e_nil, e_consN, e_consG, e_nilD, e_consDN, e_consDG, e_guardB, e_guardTT, e_guardTF, e_guardFT, e_guardFF, e_guardU, e_pure, e_eff, e_call, e_pureD, e_effD1, e_effD2, e_effD3, e_callD2, e_callD3, e_thenP, e_thenE, e_thenL, e_putS, e_putN, e_upd, e_t, e_c, e_none, e_some, e_bindS, p_move, p_bin, p_len, p_conv, p_pick, p_indexAddr, p_slice, p_extract, p_not, b_add, b_sub, b_mul, b_eql, b_neq, b_lss, b_leq, b_gtr, b_geq, l_nil, l_slice, l_sliceU, x_load1, ↓reduceIte, Nat.reduceEqDiff, Nat.reduceAdd, Nat.reduceMul, Nat.reduceSub, reduceCtorEq, Nat.zero_add, Nat.add_zero, Nat.mul_one, w64, wu32, wu64, beqT, beqF, bneT, bneF, dT, dF, a_idx, a_idxU, a_hi, a_hiN, a_sl, r_ro0, r_rw0, r_sl0, r_succ, ints_get, toNat_sub1, nat_toNat, Nat.add_sub_cancel, q_tmp, q_then, h0, h7, h9]
    refine ret_both (by simp) q_tmp ?_ rfl
    simp only [e_upd, e_putS, e_putN, e_t, e_c, Nat.reduceEqDiff, ↓reduceIte, reduceCtorEq, Nat.reduceAdd, h7]
    rw [← hrest]; rfl
  | succ k =>
    have h9' : s 9 = .int .i64 ((i + k : Nat) : Int) := by rw [h9]; congr 1; omega
    have a1 : abin .shr (.int .u64 (x : Int)) (.int .i64 ((i + k : Nat) : Int)) = some (.int .u64 ((x / 2 ^ (i + k) : Nat) : Int)) := b_shrN hx64
    have a2 : abin .rem (.int .u64 ((x / 2 ^ (i + k) : Nat) : Int)) (.int .u64 2) = some (.int .u64 (((x / 2 ^ (i + k) : Nat) : Int) % 2)) := b_rem (Int.natCast_nonneg _) (by decide)
    have hM : Gf.modu i * 2 ^ k < 2 ^ 64 := Gf.lt_mul G.lt (by omega)
    have ws : IntKind.i64.wrap (((i + k : Nat) : Int) - (i : Int)) = (k : Int) := by rw [w64 (by omega) (by omega)]; omega
    have wd : IntKind.i64.wrap (((i + k : Nat) : Int) - 1) = (i : Int) + (k : Int) - 1 := by rw [w64 (by omega) (by omega)]; omega
    have a3 : abin .shl (.int .u64 ((Gf.modu i : Nat) : Int)) (.int .i64 (k : Int)) = some (.int .u64 ((Gf.modu i * 2 ^ k : Nat) : Int)) := b_shlN hM (by omega)
    have a4 : abin .xor (.int .u64 (x : Int)) (.int .u64 ((Gf.modu i * 2 ^ k : Nat) : Int)) = some (.int .u64 ((x ^^^ (Gf.modu i * 2 ^ k) : Nat) : Int)) := b_xor hx64 hM
    have hle : (i : Int) ≤ ((i + k : Nat) : Int) := by omega
    have hlt := Gf.rest_lt G (k := k) (n := x) hx
    rw [Gf.rest] at hrest
    by_cases hodd : x / 2 ^ (i + k) % 2 = 1
    · rw [if_pos hodd] at hrest hlt
      simp -implicitDefEqProofs (disch := omega) only [e_skip, e_ops, e_dops, e_seq, e_cond, e_block, e_exit, e_ret, e_seqN, e_seqE, e_seqR, e_blockN, e_blockR, e_blockE, e_condT, e_condF, e_condB, e_nil, e_consN, e_consG, e_nilD, e_consDN, e_consDG, e_guardB, e_guardTT, e_guardTF, e_guardFT, e_guardFF, e_guardU, e_pure, e_eff, e_call, e_pureD, e_effD1, e_effD2, e_effD3, e_callD2, e_callD3, e_thenP, e_thenE, e_thenL, e_putS, e_putN, e_upd, e_t, e_c, e_none, e_some, e_bindS, p_move, p_bin, p_len, p_conv, p_pick, p_indexAddr, p_slice, p_extract, p_not, b_add, b_sub, b_mul, b_eql, b_neq, b_lss, b_leq, b_gtr, b_geq, l_nil, l_slice, l_sliceU, x_load1, ↓reduceIte, Nat.reduceEqDiff, Nat.reduceAdd, Nat.reduceMul, Nat.reduceSub, reduceCtorEq, Nat.zero_add, Nat.add_zero, Nat.mul_one, w64, wu32, wu64, beqT, beqF, bneT, bneF, dT, dF, a_idx, a_idxU, a_hi, a_hiN, a_sl, r_ro0, r_rw0, r_sl0, r_succ, ints_get, toNat_sub1, nat_toNat, Nat.add_sub_cancel, q_tmp, q_then, h0, h7, h9', a1, a2, hle, cast_rem, decide_eq_true hodd]
      refine call_cl (modulus_calls h) rfl rfl rfl ?_
      simp -implicitDefEqProofs (disch := omega) only [e_skip, e_ops, e_dops, e_seq, e_cond, e_block, e_exit, e_ret, e_seqN, e_seqE, e_seqR, e_blockN, e_blockR, e_blockE, e_condT, e_condF, e_condB, e_nil, e_consN, e_consG, e_nilD, e_consDN, e_consDG, e_guardB, e_guardTT, e_guardTF, e_guardFT, e_guardFF, e_guardU, e_pure, e_eff, e_call, e_pureD, e_effD1, e_effD2, e_effD3, e_callD2, e_callD3, e_thenP, e_thenE, e_thenL, e_putS, e_putN, e_upd, e_t, e_c, e_none, e_some, e_bindS, p_move, p_bin, p_len, p_conv, p_pick, p_indexAddr, p_slice, p_extract, p_not, b_add, b_sub, b_mul, b_eql, b_neq, b_lss, b_leq, b_gtr, b_geq, l_nil, l_slice, l_sliceU, x_load1, ↓reduceIte, Nat.reduceEqDiff, Nat.reduceAdd, Nat.reduceMul, Nat.reduceSub, reduceCtorEq, Nat.zero_add, Nat.add_zero, Nat.mul_one, w64, wu32, wu64, beqT, beqF, bneT, bneF, dT, dF, a_idx, a_idxU, a_hi, a_hiN, a_sl, r_ro0, r_rw0, r_sl0, r_succ, ints_get, toNat_sub1, nat_toNat, Nat.add_sub_cancel, q_tmp, q_then, h0, h7, h9', ws, a3, a4, wd]
      refine loop_keep (m := k) (by omega) ⟨k, x ^^^ (Gf.modu i * 2 ^ k), rfl, by omega, hlt, hrest, ?_, ?_, ?_, rfl⟩
      · simp only [e_upd, e_putS, e_putN, e_t, e_c, Nat.reduceEqDiff, ↓reduceIte, reduceCtorEq, Nat.reduceAdd, h0]
      · simp only [e_upd, e_putS, e_putN, e_t, e_c, Nat.reduceEqDiff, ↓reduceIte, reduceCtorEq, Nat.reduceAdd]
      · simp only [e_upd, e_putS, e_putN, e_t, e_c, Nat.reduceEqDiff, ↓reduceIte, reduceCtorEq, Nat.reduceAdd]
    · rw [if_neg hodd] at hrest hlt
      simp -implicitDefEqProofs (disch := omega) only [e_skip, e_ops, e_dops, e_seq, e_cond, e_block, e_exit, e_ret, e_seqN, e_seqE, e_seqR, e_blockN, e_blockR, e_blockE, e_condT, e_condF, e_condB, e_nil, e_consN, e_consG, e_nilD, e_consDN, e_consDG, e_guardB, e_guardTT, e_guardTF, e_guardFT, e_guardFF, e_guardU, e_pure, e_eff, e_call, e_pureD, e_effD1, e_effD2, e_effD3, e_callD2, e_callD3, e_thenP, e_thenE, e_thenL, e_putS, e_putN, e_upd, e_t, e_c, e_none, e_some, e_bindS, p_move, p_bin, p_len, p_conv, p_pick, p_indexAddr, p_slice, p_extract, p_not, b_add, b_sub, b_mul, b_eql, b_neq, b_lss, b_leq, b_gtr, b_geq, l_nil, l_slice, l_sliceU, x_load1, ↓reduceIte, Nat.reduceEqDiff, Nat.reduceAdd, Nat.reduceMul, Nat.reduceSub, reduceCtorEq, Nat.zero_add, Nat.add_zero, Nat.mul_one, w64, wu32, wu64, beqT, beqF, bneT, bneF, dT, dF, a_idx, a_idxU, a_hi, a_hiN, a_sl, r_ro0, r_rw0, r_sl0, r_succ, ints_get, toNat_sub1, nat_toNat, Nat.add_sub_cancel, q_tmp, q_then, h0, h7, h9', a1, a2, hle, cast_rem, decide_eq_false hodd, wd]
      refine loop_keep (m := k) (by omega) ⟨k, x, rfl, by omega, hlt, hrest, ?_, ?_, ?_, rfl⟩
      · simp only [e_upd, e_putS, e_putN, e_t, e_c, Nat.reduceEqDiff, ↓reduceIte, reduceCtorEq, Nat.reduceAdd, h0]
      · simp only [e_upd, e_putS, e_putN, e_t, e_c, Nat.reduceEqDiff, ↓reduceIte, reduceCtorEq, Nat.reduceAdd, h7]
      · simp only [e_upd, e_putS, e_putN, e_t, e_c, Nat.reduceEqDiff, ↓reduceIte, reduceCtorEq, Nat.reduceAdd]

theorem rPower_calls {w a k0 : Nat} (h : Gf.wide w) (ha : a < 2 ^ w) (hk0 : k0 ≤ 4294967296) : ACalls Try.prog 63 [.int .i64 w, .int .u64 a, .int .i64 k0] [] [] fun v H => v = .int .u64 ((Gf.pow w (Gf.modu w) a k0 : Nat) : Int) ∧ H = [] := by
  refine ACalls.body Try.func63 ent_rPower ir_rPower_ok rs_rPower_ok Try.ntmps63 (by simp) rfl ?_
  unfold ir_rPower
  have hw := wide_le h
  have G := (Gf.fld h).toFld
  have e0 : s0 [.int .i64 (w : Int), .int .u64 (a : Int), .int .i64 (k0 : Int)] 0 = .int .i64 w := rfl
  have e1 : s0 [.int .i64 (w : Int), .int .u64 (a : Int), .int .i64 (k0 : Int)] 1 = .int .u64 (a : Int) := rfl
  have e2 : s0 [.int .i64 (w : Int), .int .u64 (a : Int), .int .i64 (k0 : Int)] 2 = .int .i64 (k0 : Int) := rfl
  simp -implicitDefEqProofs (disch := omega) only [e_skip, e_ops, e_dops, e_seq, e_cond, e_block, e_exit, e_ret, e_seqN, e_seqE, e_seqR, e_blockN, e_blockR, e_blockE, e_condT, e_condF, e_condB, e_nil, e_consN, e_consG, e_nilD, e_consDN, e_consDG, e_guardB, e_guardTT, e_guardTF, e_guardFT, e_guardFF, e_guardU, e_pure, e_eff, e_call, e_pureD, e_effD1, e_effD2, e_effD3, e_callD2, e_callD3, e_thenP, e_thenE, e_thenL, e_putS, e_putN, e_upd, e_t, e_c, e_none, e_some, e_bindS, p_move, p_bin, p_len, p_conv, p_pick, p_indexAddr, p_slice, p_extract, p_not, b_add, b_sub, b_mul, b_eql, b_neq, b_lss, b_leq, b_gtr, b_geq, l_nil, l_slice, l_sliceU, x_load1, ↓reduceIte, Nat.reduceEqDiff, Nat.reduceAdd, Nat.reduceMul, Nat.reduceSub, reduceCtorEq, Nat.zero_add, Nat.add_zero, Nat.mul_one, w64, wu32, wu64, beqT, beqF, bneT, bneF, dT, dF, a_idx, a_idxU, a_hi, a_hiN, a_sl, r_ro0, r_rw0, r_sl0, r_succ, ints_get, toNat_sub1, nat_toNat, Nat.add_sub_cancel, q_tmp, q_then]
  refine ⟨fun n s H => ∃ o x k : Nat, n = k ∧ o < 2 ^ w ∧ x < 2 ^ w ∧ k ≤ k0 ∧ Gf.mul w (Gf.modu w) o (Gf.pow w (Gf.modu w) x k) = Gf.pow w (Gf.modu w) a k0 ∧ s 0 = .int .i64 w ∧ s 1 = .int .u64 (x : Int) ∧ s 2 = .int .i64 (k : Int) ∧ s 7 = .int .u64 (o : Int) ∧ H = [],
    k0, ⟨1, a, k0, rfl, Gf.one_lt G, ha, Nat.le_refl _, Gf.one_mul G (Gf.pow_lt G _), ?_, ?_, ?_, ?_, rfl⟩, ?_⟩
  · simp only [e_upd, e_putS, e_putN, e_t, e_c, Nat.reduceEqDiff, ↓reduceIte, reduceCtorEq, Nat.reduceAdd, e0]
  · simp only [e_upd, e_putS, e_putN, e_t, e_c, Nat.reduceEqDiff, ↓reduceIte, reduceCtorEq, Nat.reduceAdd, e1]
  · simp only [e_upd, e_putS, e_putN, e_t, e_c, Nat.reduceEqDiff, ↓reduceIte, reduceCtorEq, Nat.reduceAdd, e2]
  · simp only [e_upd, e_putS, e_putN, e_t, e_c, Nat.reduceEqDiff, ↓reduceIte, reduceCtorEq, Nat.reduceAdd]; rfl
  rintro n s H ⟨o, x, k, hn, ho, hx, hk, hinv, h0, h1, h2, h7, rfl⟩
  by_cases hz : k = 0
  · subst hz
    rw [Gf.pow, Gf.mul_one G] at hinv
    simp -implicitDefEqProofs (disch := omega) only [e_skip, e_ops, e_dops, e_seq, e_cond, e_block, e_exit, e_ret, e_seqN, e_seqE, e_seqR, e_blockN, e_blockR, e_blockE, e_condT, e_condF, e_condB, e_nil, e_consN, e_consG, e_nilD, e_consDN, e_consDG, e_guardB, e_guardTT, e_guardTF, e_guardFT, e_guardFF, e_guardU, e_pure, e_eff, e_call, e_pureD, e_effD1, e_effD2, e_effD3, e_callD2, e_callD3, e_thenP, e_thenE, e_thenL, e_putS, e_putN, e_upd, e_t, e_c, e_none, e_some, e_bindS, p_move, p_bin, p_len, p_conv, p_pick, p_indexAddr, p_slice, p_extract, p_not, b_add, b_sub, b_mul, b_eql, b_neq, b_lss, b_leq, b_gtr, b_geq, l_nil, l_slice, l_sliceU, x_load1, ↓reduceIte, Nat.reduceEqDiff, Nat.reduceAdd, Nat.reduceMul, Nat.reduceSub, reduceCtorEq, Nat.zero_add, Nat.add_zero, Nat.mul_one, w64, wu32, wu64, beqT, beqF, bneT, bneF, dT, dF, a_idx, a_idxU, a_hi, a_hiN, a_sl, r_ro0, r_rw0, r_sl0, r_succ, ints_get, toNat_sub1, nat_toNat, Nat.add_sub_cancel, q_tmp, q_then, h0, h1, h2, h7]
    refine ret_both (by simp) q_tmp ?_ rfl
    simp only [e_upd, e_putS, e_putN, e_t, e_c, Nat.reduceEqDiff, ↓reduceIte, reduceCtorEq, Nat.reduceAdd, h7, hinv]
  · have a1 : abin .rem (.int .i64 (k : Int)) (.int .i64 2) = some (.int .i64 ((k : Int) % 2)) := b_rem (by omega) (by decide)
    have a2 : abin .quo (.int .i64 (k : Int)) (.int .i64 2) = some (.int .i64 ((k / 2 : Nat) : Int)) := by
      rw [b_quo (by omega) (by decide), w64 (by omega) (by omega)]; rfl
    have hgt : (0 : Int) < (k : Int) := by omega
    have hx2 := Gf.mul_lt G (b := x) hx
    have hh := Gf.pow_half G ho hx k
    rw [hinv] at hh
    by_cases hodd : k % 2 = 1
    · rw [if_pos hodd] at hh
      simp -implicitDefEqProofs (disch := omega) only [e_skip, e_ops, e_dops, e_seq, e_cond, e_block, e_exit, e_ret, e_seqN, e_seqE, e_seqR, e_blockN, e_blockR, e_blockE, e_condT, e_condF, e_condB, e_nil, e_consN, e_consG, e_nilD, e_consDN, e_consDG, e_guardB, e_guardTT, e_guardTF, e_guardFT, e_guardFF, e_guardU, e_pure, e_eff, e_call, e_pureD, e_effD1, e_effD2, e_effD3, e_callD2, e_callD3, e_thenP, e_thenE, e_thenL, e_putS, e_putN, e_upd, e_t, e_c, e_none, e_some, e_bindS, p_move, p_bin, p_len, p_conv, p_pick, p_indexAddr, p_slice, p_extract, p_not, b_add, b_sub, b_mul, b_eql, b_neq, b_lss, b_leq, b_gtr, b_geq, l_nil, l_slice, l_sliceU, x_load1, ↓reduceIte, Nat.reduceEqDiff, Nat.reduceAdd, Nat.reduceMul, Nat.reduceSub, reduceCtorEq, Nat.zero_add, Nat.add_zero, Nat.mul_one, w64, wu32, wu64, beqT, beqF, bneT, bneF, dT, dF, a_idx, a_idxU, a_hi, a_hiN, a_sl, r_ro0, r_rw0, r_sl0, r_succ, ints_get, toNat_sub1, nat_toNat, Nat.add_sub_cancel, q_tmp, q_then, h0, h1, h2, h7, a1, hgt, cast_rem, decide_eq_true hodd]
      refine call_cl (rMul_calls h ho hx) rfl rfl rfl ?_
      simp -implicitDefEqProofs (disch := omega) only [e_skip, e_ops, e_dops, e_seq, e_cond, e_block, e_exit, e_ret, e_seqN, e_seqE, e_seqR, e_blockN, e_blockR, e_blockE, e_condT, e_condF, e_condB, e_nil, e_consN, e_consG, e_nilD, e_consDN, e_consDG, e_guardB, e_guardTT, e_guardTF, e_guardFT, e_guardFF, e_guardU, e_pure, e_eff, e_call, e_pureD, e_effD1, e_effD2, e_effD3, e_callD2, e_callD3, e_thenP, e_thenE, e_thenL, e_putS, e_putN, e_upd, e_t, e_c, e_none, e_some, e_bindS, p_move, p_bin, p_len, p_conv, p_pick, p_indexAddr, p_slice, p_extract, p_not, b_add, b_sub, b_mul, b_eql, b_neq, b_lss, b_leq, b_gtr, b_geq, l_nil, l_slice, l_sliceU, x_load1, ↓reduceIte, Nat.reduceEqDiff, Nat.reduceAdd, Nat.reduceMul, Nat.reduceSub, reduceCtorEq, Nat.zero_add, Nat.add_zero, Nat.mul_one, w64, wu32, wu64, beqT, beqF, bneT, bneF, dT, dF, a_idx, a_idxU, a_hi, a_hiN, a_sl, r_ro0, r_rw0, r_sl0, r_succ, ints_get, toNat_sub1, nat_toNat, Nat.add_sub_cancel, q_tmp, q_then, h0, h1, h2, h7]
      refine call_cl (rMul_calls h hx hx) rfl rfl rfl ?_
      simp -implicitDefEqProofs (disch := omega) only [e_skip, e_ops, e_dops, e_seq, e_cond, e_block, e_exit, e_ret, e_seqN, e_seqE, e_seqR, e_blockN, e_blockR, e_blockE, e_condT, e_condF, e_condB, e_nil, e_consN, e_consG, e_nilD, e_consDN, e_consDG, e_guardB, e_guardTT, e_guardTF, e_guardFT, e_guardFF, e_guardU, e_pure, e_eff, e_call, e_pureD, e_effD1, e_effD2, e_effD3, e_callD2, e_callD3, e_thenP, e_thenE, e_thenL, e_putS, e_putN, e_upd, e_t, e_c, e_none, e_some, e_bindS, p_move, p_bin, p_len, p_conv, p_pick, p_indexAddr, p_slice, p_extract, p_not, b_add, b_sub, b_mul, b_eql, b_neq, b_lss, b_leq, b_gtr, b_geq, l_nil, l_slice, l_sliceU, x_load1, ↓reduceIte, Nat.reduceEqDiff, Nat.reduceAdd, Nat.reduceMul, Nat.reduceSub, reduceCtorEq, Nat.zero_add, Nat.add_zero, Nat.mul_one, w64, wu32, wu64, beqT, beqF, bneT, bneF, dT, dF, a_idx, a_idxU, a_hi, a_hiN, a_sl, r_ro0, r_rw0, r_sl0, r_succ, ints_get, toNat_sub1, nat_toNat, Nat.add_sub_cancel, q_tmp, q_then, h0, h1, h2, h7, a2]
      refine loop_keep (m := k / 2) (by omega) ⟨_, _, k / 2, rfl, Gf.mul_lt G ho, hx2, by omega, hh, ?_, ?_, ?_, ?_, rfl⟩
      all_goals simp only [e_upd, e_putS, e_putN, e_t, e_c, Nat.reduceEqDiff, ↓reduceIte, reduceCtorEq, Nat.reduceAdd, h0]
    · rw [if_neg hodd] at hh
      simp -implicitDefEqProofs (disch := omega) only [e_skip, e_ops, e_dops, e_seq, e_cond, e_block, e_exit, e_ret, e_seqN, e_seqE, e_seqR, e_blockN, e_blockR, e_blockE, e_condT, e_condF, e_condB, e_nil, e_consN, e_consG, e_nilD, e_consDN, e_consDG, e_guardB, e_guardTT, e_guardTF, e_guardFT, e_guardFF, e_guardU, e_pure, e_eff, e_call, e_pureD, e_effD1, e_effD2, e_effD3, e_callD2, e_callD3, e_thenP, e_thenE, e_thenL, e_putS, e_putN, e_upd, e_t, e_c, e_none, e_some, e_bindS, p_move, p_bin, p_len, p_conv, p_pick, p_indexAddr, p_slice, p_extract, p_not, b_add, b_sub, b_mul, b_eql, b_neq, b_lss, b_leq, b_gtr, b_geq, l_nil, l_slice, l_sliceU, x_load1, ↓reduceIte, Nat.reduceEqDiff, Nat.reduceAdd, Nat.reduceMul, Nat.reduceSub, reduceCtorEq, Nat.zero_add, Nat.add_zero, Nat.mul_one, w64, wu32, wu64, beqT, beqF, bneT, bneF, dT, dF, a_idx, a_idxU, a_hi, a_hiN, a_sl, r_ro0, r_rw0, r_sl0, r_succ, ints_get, toNat_sub1, nat_toNat, Nat.add_sub_cancel, q_tmp, q_then, h0, h1, h2, h7, a1, hgt, cast_rem, decide_eq_false hodd]
      refine call_cl (rMul_calls h hx hx) rfl rfl rfl ?_
      simp -implicitDefEqProofs (disch := omega) only [e_skip, e_ops, e_dops, e_seq, e_cond, e_block, e_exit, e_ret, e_seqN, e_seqE, e_seqR, e_blockN, e_blockR, e_blockE, e_condT, e_condF, e_condB, e_nil, e_consN, e_consG, e_nilD, e_consDN, e_consDG, e_guardB, e_guardTT, e_guardTF, e_guardFT, e_guardFF, e_guardU, e_pure, e_eff, e_call, e_pureD, e_effD1, e_effD2, e_effD3, e_callD2, e_callD3, e_thenP, e_thenE, e_thenL, e_putS, e_putN, e_upd, e_t, e_c, e_none, e_some, e_bindS, p_move, p_bin, p_len, p_conv, p_pick, p_indexAddr, p_slice, p_extract, p_not, b_add, b_sub, b_mul, b_eql, b_neq, b_lss, b_leq, b_gtr, b_geq, l_nil, l_slice, l_sliceU, x_load1, ↓reduceIte, Nat.reduceEqDiff, Nat.reduceAdd, Nat.reduceMul, Nat.reduceSub, reduceCtorEq, Nat.zero_add, Nat.add_zero, Nat.mul_one, w64, wu32, wu64, beqT, beqF, bneT, bneF, dT, dF, a_idx, a_idxU, a_hi, a_hiN, a_sl, r_ro0, r_rw0, r_sl0, r_succ, ints_get, toNat_sub1, nat_toNat, Nat.add_sub_cancel, q_tmp, q_then, h0, h1, h2, h7, a2]
      refine loop_keep (m := k / 2) (by omega) ⟨_, _, k / 2, rfl, ho, hx2, by omega, hh, ?_, ?_, ?_, ?_, rfl⟩
      all_goals simp only [e_upd, e_putS, e_putN, e_t, e_c, Nat.reduceEqDiff, ↓reduceIte, reduceCtorEq, Nat.reduceAdd, h0, h7]

theorem rInverse_calls {w a : Nat} (h : Gf.wide w) (ha : a < 2 ^ w) : ACalls Try.prog 21 [.int .i64 w, .int .u64 a] [] [] fun v H => v = .int .u64 ((ginv w a : Nat) : Int) ∧ H = [] := by
  refine ACalls.body Try.func21 ent_rInverse ir_rInverse_ok rs_rInverse_ok Try.ntmps21 (by simp) rfl ?_
  unfold ir_rInverse
  have hw := wide_le h
  have hp := pow_le h
  have hp2 : 256 ≤ 2 ^ w := by rcases h with rfl | rfl | rfl <;> decide
  have e0 : s0 [.int .i64 (w : Int), .int .u64 (a : Int)] 0 = .int .i64 w := rfl
  have e1 : s0 [.int .i64 (w : Int), .int .u64 (a : Int)] 1 = .int .u64 (a : Int) := rfl
  have h2 : abin .shl (.int .i64 1) (.int .i64 (w : Int)) = some (.int .i64 ((2 ^ w : Nat) : Int)) := by
    rw [b_shl (k := .i64) (n := w) (by simp [IntKind.bits]; omega)]
    have : (1 : Int) * 2 ^ w = ((2 ^ w : Nat) : Int) := by simp
    rw [this, w64 (by omega) (by omega)]
  have ws : IntKind.i64.wrap (((2 ^ w : Nat) : Int) - 2) = ((2 ^ w - 2 : Nat) : Int) := by rw [w64 (by omega) (by omega)]; omega
  simp -implicitDefEqProofs (disch := omega) only [e_skip, e_ops, e_dops, e_seq, e_cond, e_block, e_exit, e_ret, e_seqN, e_seqE, e_seqR, e_blockN, e_blockR, e_blockE, e_condT, e_condF, e_condB, e_nil, e_consN, e_consG, e_nilD, e_consDN, e_consDG, e_guardB, e_guardTT, e_guardTF, e_guardFT, e_guardFF, e_guardU, e_pure, e_eff, e_call, e_pureD, e_effD1, e_effD2, e_effD3, e_callD2, e_callD3, e_thenP, e_thenE, e_thenL, e_putS, e_putN, e_upd, e_t, e_c, e_none, e_some, e_bindS, p_move, p_bin, p_len, p_conv, p_pick, p_indexAddr, p_slice, p_extract, p_not, b_add, b_sub, b_mul, b_eql, b_neq, b_lss, b_leq, b_gtr, b_geq, l_nil, l_slice, l_sliceU, x_load1, ↓reduceIte, Nat.reduceEqDiff, Nat.reduceAdd, Nat.reduceMul, Nat.reduceSub, reduceCtorEq, Nat.zero_add, Nat.add_zero, Nat.mul_one, w64, wu32, wu64, beqT, beqF, bneT, bneF, dT, dF, a_idx, a_idxU, a_hi, a_hiN, a_sl, r_ro0, r_rw0, r_sl0, r_succ, ints_get, toNat_sub1, nat_toNat, Nat.add_sub_cancel, q_tmp, q_then, e0, e1, h2, ws]
  refine call_cl (rPower_calls h ha (by omega)) rfl rfl rfl ?_
  simp -implicitDefEqProofs (disch := omega) only [e_skip, e_ops, e_dops, e_seq, e_cond, e_block, e_exit, e_ret, e_seqN, e_seqE, e_seqR, e_blockN, e_blockR, e_blockE, e_condT, e_condF, e_condB, e_nil, e_consN, e_consG, e_nilD, e_consDN, e_consDG, e_guardB, e_guardTT, e_guardTF, e_guardFT, e_guardFF, e_guardU, e_pure, e_eff, e_call, e_pureD, e_effD1, e_effD2, e_effD3, e_callD2, e_callD3, e_thenP, e_thenE, e_thenL, e_putS, e_putN, e_upd, e_t, e_c, e_none, e_some, e_bindS, p_move, p_bin, p_len, p_conv, p_pick, p_indexAddr, p_slice, p_extract, p_not, b_add, b_sub, b_mul, b_eql, b_neq, b_lss, b_leq, b_gtr, b_geq, l_nil, l_slice, l_sliceU, x_load1, ↓reduceIte, Nat.reduceEqDiff, Nat.reduceAdd, Nat.reduceMul, Nat.reduceSub, reduceCtorEq, Nat.zero_add, Nat.add_zero, Nat.mul_one, w64, wu32, wu64, beqT, beqF, bneT, bneF, dT, dF, a_idx, a_idxU, a_hi, a_hiN, a_sl, r_ro0, r_rw0, r_sl0, r_succ, ints_get, toNat_sub1, nat_toNat, Nat.add_sub_cancel, q_tmp, q_then, e0, e1]
  exact ret_both (by simp) q_tmp (by simp only [e_upd, e_putS, e_putN, e_t, e_c, Nat.reduceEqDiff, ↓reduceIte, reduceCtorEq, Nat.reduceAdd]; rfl) rfl
end Go.Proofs.Ytebijlefkomplaa
