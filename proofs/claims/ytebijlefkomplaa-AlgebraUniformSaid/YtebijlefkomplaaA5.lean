/- Contracts: products in the fields, as the program has them. -/
import Derived.Test.YtebijlefkomplaaA4
import Derived.Test.YtebijlefkomplaaGf2
set_option linter.unusedSimpArgs false
set_option linter.unusedVariables false
namespace Go.Proofs.Ytebijlefkomplaa
open Go Go.Vh

/-- A field of a width. -/
def fw (w : Nat) : AV := fld (w : Int) (Gf.low w : Nat)

theorem has_calls (w : Nat) (l : Int) (a : Nat) (ha : a < 2 ^ 64) : ACalls Try.prog 56 [fld (w : Int) l, .int .u64 a] [] [] fun v H => v = .bool (decide (a < 2 ^ w)) ∧ H = [] := by
  refine ACalls.trim1 (W := List.range 0) ?_ rfl
  refine ACalls.body Try.func56 ent_has ir_has_ok rs_has_ok Try.ntmps56 (by simp) rfl ?_
  unfold ir_has fld
  have e0 : s0 [.agg [.int .i64 (w : Int), .int .u64 l], .int .u64 (a : Int)] 0 = .agg [.int .i64 (w : Int), .int .u64 l] := rfl
  have e1 : s0 [.agg [.int .i64 (w : Int), .int .u64 l], .int .u64 (a : Int)] 1 = .int .u64 (a : Int) := rfl
  have h1 : abin .shr (.int .u64 (a : Int)) (.int .i64 (w : Int)) = some (.int .u64 ((a / 2 ^ w : Nat) : Int)) := b_shrN ha
  have h2 : (((a / 2 ^ w : Nat) : Int) == 0) = decide (a < 2 ^ w) := by
    have hp := Nat.two_pow_pos w
    by_cases h : a < 2 ^ w
    · rw [Nat.div_eq_of_lt h]; simp [h]
    · have : 0 < a / 2 ^ w := Nat.div_pos (by omega) hp
      have h3 : (((a / 2 ^ w : Nat) : Int) == 0) = false := by rw [beq_eq_false_iff_ne]; omega
      rw [h3]; simp [h]
  simp -implicitDefEqProofs (disch := omega) only [e_skip, e_ops, e_dops, e_seq, e_cond, e_block, e_exit, e_ret, e_seqN, e_seqE, e_seqR, e_blockN, e_blockR, e_blockE, e_condT, e_condF, e_condB, e_nil, e_consN, e_consG, e_nilD, e_consDN, e_consDG, e_guardB, e_guardTT, e_guardTF, e_guardFT, e_guardFF, e_guardU, e_pure, e_eff, e_call, e_pureD, e_effD1, e_effD2, e_effD3, e_callD2, e_callD3, e_thenP, e_thenE, e_thenL, e_putS, e_putN, e_upd, e_t, e_c, e_none, e_some, e_bindS, p_move, p_bin, p_len, p_conv, p_pick, p_indexAddr, p_slice, p_extract, p_not, b_add, b_sub, b_mul, b_eql, b_neq, b_lss, b_leq, b_gtr, b_geq, l_nil, l_slice, l_sliceU, x_load1, ↓reduceIte, Nat.reduceEqDiff, Nat.reduceAdd, Nat.reduceMul, Nat.reduceSub, reduceCtorEq, Nat.zero_add, Nat.add_zero, Nat.mul_one, w64, wu32, wu64, beqT, beqF, bneT, bneF, dT, dF, a_idx, a_idxU, a_hi, a_hiN, a_sl, r_ro0, r_rw0, r_sl0, r_succ, ints_get, toNat_sub1, nat_toNat, Nat.add_sub_cancel, q_tmp, q_then, p_field, p_fieldAddr, p_nilCheck, p_build, p_eqPtr, p_binB, p_lenStr, x_alloc, x_box, x_loadN, x_put, anew, aput, cellsAt, Vh.rowAt, afill, aparts, AV.cell, splice, aptr, List.all_cons, List.all_nil, Bool.and_self, Bool.and_true, Bool.true_and, List.length_cons, List.length_nil, List.nil_append, List.cons_append, List.map_cons, List.map_nil, List.take_succ_cons, List.take_zero, List.drop_succ_cons, List.drop_zero, List.take_nil, List.drop_nil, List.getElem?_cons_zero, List.getElem?_cons_succ, List.getElem?_nil, Option.getD_some, Option.getD_none, Option.bind_some, Option.map_some, List.set_cons_zero, List.set_cons_succ, List.set_nil, List.append_nil, Nat.le_refl, Nat.reduceLeDiff, and_self, and_true, true_and, Bool.false_eq_true, Bool.not_true, Bool.not_false, e0, e1, h1, h2]
  exact ret_val (by simp) q_tmp (by simp only [e_upd, e_putS, e_putN, e_t, e_c, Nat.reduceEqDiff, ↓reduceIte, reduceCtorEq, Nat.reduceAdd])

theorem wide_le {w : Nat} (h : Gf.wide w) : w ≤ 32 ∧ 8 ≤ w := by rcases h with rfl | rfl | rfl <;> decide
theorem pow_le {w : Nat} (h : Gf.wide w) : 2 ^ w ≤ 4294967296 := by rcases h with rfl | rfl | rfl <;> decide
theorem modu_split {w : Nat} (h : Gf.wide w) : Gf.modu w = 2 ^ w ^^^ Gf.low w := rfl
theorem low_lt (w : Nat) : Gf.low w < 256 := by unfold Gf.low; split; (· decide); split; (· decide); decide

theorem tx_cases {w a : Nat} (h : Gf.wide w) (ha : a < 2 ^ w) : Gf.tx w (Gf.modu w) a = if 2 * a < 2 ^ w then 2 * a else ((2 * a) ^^^ 2 ^ w) ^^^ Gf.low w := by
  have hw := (Gf.fld h).wpos
  split
  · rename_i h1; exact Gf.tx_small hw h1
  · rename_i h1
    have hb : a.testBit (w - 1) = true := by
      have e : 2 ^ w = 2 * 2 ^ (w - 1) := by
        rw [← Nat.pow_succ', show (w - 1).succ = w by omega]
      have h2 : 2 ^ (w - 1) ≤ a := by omega
      rw [Nat.testBit_eq_decide_div_mod_eq]
      have h3 : a / 2 ^ (w - 1) = 1 := by
        apply Nat.div_eq_of_lt_le
        · omega
        · omega
      simp [h3]
    unfold Gf.tx
    rw [if_pos hb, modu_split h, Nat.xor_assoc]

theorem timesX_calls {w a : Nat} (h : Gf.wide w) (ha : a < 2 ^ w) : ACalls Try.prog 80 [fw w, .int .u64 a] [] [] fun v H => v = .int .u64 ((Gf.tx w (Gf.modu w) a : Nat) : Int) ∧ H = [] := by
  refine ACalls.trim1 (W := List.range 0) ?_ rfl
  refine ACalls.body Try.func80 ent_timesX ir_timesX_ok rs_timesX_ok Try.ntmps80 (by simp) rfl ?_
  unfold ir_timesX fw fld
  have hp := pow_le h
  have hl := low_lt w
  have hw := wide_le h
  have h1 : abin .shl (.int .u64 (a : Int)) (.int .u64 1) = some (.int .u64 ((2 * a : Nat) : Int)) := by
    have := b_shlN (k' := .u64) (x := a) (n := 1) (by omega) (by decide)
    rw [Nat.mul_comm 2 a]; exact this
  have h2 : abin .shl (.int .u64 1) (.int .i64 (w : Int)) = some (.int .u64 ((2 ^ w : Nat) : Int)) := by
    have := b_shlN (k' := .i64) (x := 1) (n := w) (by omega) (by omega)
    rw [Nat.one_mul] at this; exact this
  have h3 : abin .xor (.int .u64 ((2 * a : Nat) : Int)) (.int .u64 ((2 ^ w : Nat) : Int)) = some (.int .u64 (((2 * a) ^^^ 2 ^ w : Nat) : Int)) := b_xor (by omega) (by omega)
  have hx : (2 * a) ^^^ 2 ^ w < 2 ^ 64 := Nat.xor_lt_two_pow (by omega) (by omega)
  have h4 : abin .xor (.int .u64 (((2 * a) ^^^ 2 ^ w : Nat) : Int)) (.int .u64 ((Gf.low w : Nat) : Int)) = some (.int .u64 ((((2 * a) ^^^ 2 ^ w) ^^^ Gf.low w : Nat) : Int)) := b_xor hx (by omega)
  have e0 : s0 [.agg [.int .i64 (w : Int), .int .u64 ((Gf.low w : Nat) : Int)], .int .u64 (a : Int)] 0 = .agg [.int .i64 (w : Int), .int .u64 ((Gf.low w : Nat) : Int)] := rfl
  have e1 : s0 [.agg [.int .i64 (w : Int), .int .u64 ((Gf.low w : Nat) : Int)], .int .u64 (a : Int)] 1 = .int .u64 (a : Int) := rfl
  simp -implicitDefEqProofs (disch := omega) only [e_skip, e_ops, e_dops, e_seq, e_cond, e_block, e_exit, e_ret, e_seqN, e_seqE, e_seqR, e_blockN, e_blockR, e_blockE, e_condT, e_condF, e_condB, e_nil, e_consN, e_consG, e_nilD, e_consDN, e_consDG, e_guardB, e_guardTT, e_guardTF, e_guardFT, e_guardFF, e_guardU, e_pure, e_eff, e_call, e_pureD, e_effD1, e_effD2, e_effD3, e_callD2, e_callD3, e_thenP, e_thenE, e_thenL, e_putS, e_putN, e_upd, e_t, e_c, e_none, e_some, e_bindS, p_move, p_bin, p_len, p_conv, p_pick, p_indexAddr, p_slice, p_extract, p_not, b_add, b_sub, b_mul, b_eql, b_neq, b_lss, b_leq, b_gtr, b_geq, l_nil, l_slice, l_sliceU, x_load1, ↓reduceIte, Nat.reduceEqDiff, Nat.reduceAdd, Nat.reduceMul, Nat.reduceSub, reduceCtorEq, Nat.zero_add, Nat.add_zero, Nat.mul_one, w64, wu32, wu64, beqT, beqF, bneT, bneF, dT, dF, a_idx, a_idxU, a_hi, a_hiN, a_sl, r_ro0, r_rw0, r_sl0, r_succ, ints_get, toNat_sub1, nat_toNat, Nat.add_sub_cancel, q_tmp, q_then, p_field, p_fieldAddr, p_nilCheck, p_build, p_eqPtr, p_binB, p_lenStr, x_alloc, x_box, x_loadN, x_put, anew, aput, cellsAt, Vh.rowAt, afill, aparts, AV.cell, splice, aptr, List.all_cons, List.all_nil, Bool.and_self, Bool.and_true, Bool.true_and, List.length_cons, List.length_nil, List.nil_append, List.cons_append, List.map_cons, List.map_nil, List.take_succ_cons, List.take_zero, List.drop_succ_cons, List.drop_zero, List.take_nil, List.drop_nil, List.getElem?_cons_zero, List.getElem?_cons_succ, List.getElem?_nil, Option.getD_some, Option.getD_none, Option.bind_some, Option.map_some, List.set_cons_zero, List.set_cons_succ, List.set_nil, List.append_nil, Nat.le_refl, Nat.reduceLeDiff, and_self, and_true, true_and, Bool.false_eq_true, Bool.not_true, Bool.not_false, e0, e1, h1]
  refine call_cl (has_calls w (Gf.low w : Nat) (2 * a) (by omega)) rfl rfl rfl ?_
  rw [tx_cases h ha]
  by_cases hb : 2 * a < 2 ^ w
  · rw [if_pos hb, decide_eq_true hb]
    simp -implicitDefEqProofs (disch := omega) only [e_skip, e_ops, e_dops, e_seq, e_cond, e_block, e_exit, e_ret, e_seqN, e_seqE, e_seqR, e_blockN, e_blockR, e_blockE, e_condT, e_condF, e_condB, e_nil, e_consN, e_consG, e_nilD, e_consDN, e_consDG, e_guardB, e_guardTT, e_guardTF, e_guardFT, e_guardFF, e_guardU, e_pure, e_eff, e_call, e_pureD, e_effD1, e_effD2, e_effD3, e_callD2, e_callD3, e_thenP, e_thenE, e_thenL, e_putS, e_putN, e_upd, e_t, e_c, e_none, e_some, e_bindS, p_move, p_bin, p_len, p_conv, p_pick, p_indexAddr, p_slice, p_extract, p_not, b_add, b_sub, b_mul, b_eql, b_neq, b_lss, b_leq, b_gtr, b_geq, l_nil, l_slice, l_sliceU, x_load1, ↓reduceIte, Nat.reduceEqDiff, Nat.reduceAdd, Nat.reduceMul, Nat.reduceSub, reduceCtorEq, Nat.zero_add, Nat.add_zero, Nat.mul_one, w64, wu32, wu64, beqT, beqF, bneT, bneF, dT, dF, a_idx, a_idxU, a_hi, a_hiN, a_sl, r_ro0, r_rw0, r_sl0, r_succ, ints_get, toNat_sub1, nat_toNat, Nat.add_sub_cancel, q_tmp, q_then, p_field, p_fieldAddr, p_nilCheck, p_build, p_eqPtr, p_binB, p_lenStr, x_alloc, x_box, x_loadN, x_put, anew, aput, cellsAt, Vh.rowAt, afill, aparts, AV.cell, splice, aptr, List.all_cons, List.all_nil, Bool.and_self, Bool.and_true, Bool.true_and, List.length_cons, List.length_nil, List.nil_append, List.cons_append, List.map_cons, List.map_nil, List.take_succ_cons, List.take_zero, List.drop_succ_cons, List.drop_zero, List.take_nil, List.drop_nil, List.getElem?_cons_zero, List.getElem?_cons_succ, List.getElem?_nil, Option.getD_some, Option.getD_none, Option.bind_some, Option.map_some, List.set_cons_zero, List.set_cons_succ, List.set_nil, List.append_nil, Nat.le_refl, Nat.reduceLeDiff, and_self, and_true, true_and, Bool.false_eq_true, Bool.not_true, Bool.not_false, e0, e1]
    exact ret_val (by simp) q_tmp (by simp only [e_upd, e_putS, e_putN, e_t, e_c, Nat.reduceEqDiff, ↓reduceIte, reduceCtorEq, Nat.reduceAdd])
  · rw [if_neg hb, decide_eq_false hb]
    simp -implicitDefEqProofs (disch := omega) only [e_skip, e_ops, e_dops, e_seq, e_cond, e_block, e_exit, e_ret, e_seqN, e_seqE, e_seqR, e_blockN, e_blockR, e_blockE, e_condT, e_condF, e_condB, e_nil, e_consN, e_consG, e_nilD, e_consDN, e_consDG, e_guardB, e_guardTT, e_guardTF, e_guardFT, e_guardFF, e_guardU, e_pure, e_eff, e_call, e_pureD, e_effD1, e_effD2, e_effD3, e_callD2, e_callD3, e_thenP, e_thenE, e_thenL, e_putS, e_putN, e_upd, e_t, e_c, e_none, e_some, e_bindS, p_move, p_bin, p_len, p_conv, p_pick, p_indexAddr, p_slice, p_extract, p_not, b_add, b_sub, b_mul, b_eql, b_neq, b_lss, b_leq, b_gtr, b_geq, l_nil, l_slice, l_sliceU, x_load1, ↓reduceIte, Nat.reduceEqDiff, Nat.reduceAdd, Nat.reduceMul, Nat.reduceSub, reduceCtorEq, Nat.zero_add, Nat.add_zero, Nat.mul_one, w64, wu32, wu64, beqT, beqF, bneT, bneF, dT, dF, a_idx, a_idxU, a_hi, a_hiN, a_sl, r_ro0, r_rw0, r_sl0, r_succ, ints_get, toNat_sub1, nat_toNat, Nat.add_sub_cancel, q_tmp, q_then, p_field, p_fieldAddr, p_nilCheck, p_build, p_eqPtr, p_binB, p_lenStr, x_alloc, x_box, x_loadN, x_put, anew, aput, cellsAt, Vh.rowAt, afill, aparts, AV.cell, splice, aptr, List.all_cons, List.all_nil, Bool.and_self, Bool.and_true, Bool.true_and, List.length_cons, List.length_nil, List.nil_append, List.cons_append, List.map_cons, List.map_nil, List.take_succ_cons, List.take_zero, List.drop_succ_cons, List.drop_zero, List.take_nil, List.drop_nil, List.getElem?_cons_zero, List.getElem?_cons_succ, List.getElem?_nil, Option.getD_some, Option.getD_none, Option.bind_some, Option.map_some, List.set_cons_zero, List.set_cons_succ, List.set_nil, List.append_nil, Nat.le_refl, Nat.reduceLeDiff, and_self, and_true, true_and, Bool.false_eq_true, Bool.not_true, Bool.not_false, e0, e1, h2, h3, h4]
    exact ret_val (by simp) q_tmp (by simp only [e_upd, e_putS, e_putN, e_t, e_c, Nat.reduceEqDiff, ↓reduceIte, reduceCtorEq, Nat.reduceAdd])

theorem fmul_calls {w a b : Nat} (h : Gf.wide w) (ha : a < 2 ^ w) (hb : b < 2 ^ w) : ACalls Try.prog 57 [fw w, .int .u64 a, .int .u64 b] [] [] fun v H => v = .int .u64 ((Gf.mul w (Gf.modu w) a b : Nat) : Int) ∧ H = [] := by
  refine ACalls.trim1 (W := List.range 0) ?_ rfl
  refine ACalls.body Try.func57 ent_fmul ir_fmul_ok rs_fmul_ok Try.ntmps57 (by simp) rfl ?_
  unfold ir_fmul
  have hp := pow_le h
  have G := (Gf.fld h).toFld
  have e0 : s0 [fw w, .int .u64 (a : Int), .int .u64 (b : Int)] 0 = fw w := rfl
  have e1 : s0 [fw w, .int .u64 (a : Int), .int .u64 (b : Int)] 1 = .int .u64 (a : Int) := rfl
  have e2 : s0 [fw w, .int .u64 (a : Int), .int .u64 (b : Int)] 2 = .int .u64 (b : Int) := rfl
  unfold fw fld at e0
  simp -implicitDefEqProofs (disch := omega) only [e_skip, e_ops, e_dops, e_seq, e_cond, e_block, e_exit, e_ret, e_seqN, e_seqE, e_seqR, e_blockN, e_blockR, e_blockE, e_condT, e_condF, e_condB, e_nil, e_consN, e_consG, e_nilD, e_consDN, e_consDG, e_guardB, e_guardTT, e_guardTF, e_guardFT, e_guardFF, e_guardU, e_pure, e_eff, e_call, e_pureD, e_effD1, e_effD2, e_effD3, e_callD2, e_callD3, e_thenP, e_thenE, e_thenL, e_putS, e_putN, e_upd, e_t, e_c, e_none, e_some, e_bindS, p_move, p_bin, p_len, p_conv, p_pick, p_indexAddr, p_slice, p_extract, p_not, b_add, b_sub, b_mul, b_eql, b_neq, b_lss, b_leq, b_gtr, b_geq, l_nil, l_slice, l_sliceU, x_load1, ↓reduceIte, Nat.reduceEqDiff, Nat.reduceAdd, Nat.reduceMul, Nat.reduceSub, reduceCtorEq, Nat.zero_add, Nat.add_zero, Nat.mul_one, w64, wu32, wu64, beqT, beqF, bneT, bneF, dT, dF, a_idx, a_idxU, a_hi, a_hiN, a_sl, r_ro0, r_rw0, r_sl0, r_succ, ints_get, toNat_sub1, nat_toNat, Nat.add_sub_cancel, q_tmp, q_then, p_field, p_fieldAddr, p_nilCheck, p_build, p_eqPtr, p_binB, p_lenStr, x_alloc, x_box, x_loadN, x_put, anew, aput, cellsAt, Vh.rowAt, afill, aparts, AV.cell, splice, aptr, List.all_cons, List.all_nil, Bool.and_self, Bool.and_true, Bool.true_and, List.length_cons, List.length_nil, List.nil_append, List.cons_append, List.map_cons, List.map_nil, List.take_succ_cons, List.take_zero, List.drop_succ_cons, List.drop_zero, List.take_nil, List.drop_nil, List.getElem?_cons_zero, List.getElem?_cons_succ, List.getElem?_nil, Option.getD_some, Option.getD_none, Option.bind_some, Option.map_some, List.set_cons_zero, List.set_cons_succ, List.set_nil, List.append_nil, Nat.le_refl, Nat.reduceLeDiff, and_self, and_true, true_and, Bool.false_eq_true, Bool.not_true, Bool.not_false, e0]
  refine ⟨fun n s H => ∃ k p x y : Nat, n = y ∧ y < 2 ^ k ∧ y < 2 ^ w ∧ x < 2 ^ w ∧ p < 2 ^ w ∧ p ^^^ Gf.gmul (Gf.tx w (Gf.modu w)) k x y = Gf.mul w (Gf.modu w) a b ∧ s 1 = .int .u64 (x : Int) ∧ s 2 = .int .u64 (y : Int) ∧ s 3 = .ptr 0 0 ∧ s 7 = .int .u64 (p : Int) ∧
    H = [some ⟨true, false, [.int .i64 (w : Int), .int .u64 ((Gf.low w : Nat) : Int)]⟩], b, ⟨w, 0, a, b, rfl, hb, hb, ha, Nat.two_pow_pos w, by rw [Nat.zero_xor]; rfl, ?_, ?_, ?_, ?_, rfl⟩, ?_⟩
  · simp only [e_upd, e_putS, e_putN, e_t, e_c, Nat.reduceEqDiff, ↓reduceIte, reduceCtorEq, Nat.reduceAdd, e1]
  · simp only [e_upd, e_putS, e_putN, e_t, e_c, Nat.reduceEqDiff, ↓reduceIte, reduceCtorEq, Nat.reduceAdd, e2]
  · simp only [e_upd, e_putS, e_putN, e_t, e_c, Nat.reduceEqDiff, ↓reduceIte, reduceCtorEq, Nat.reduceAdd]
  · simp only [e_upd, e_putS, e_putN, e_t, e_c, Nat.reduceEqDiff, ↓reduceIte, reduceCtorEq, Nat.reduceAdd]; rfl
  rintro n s H ⟨k, p, x, y, hn, hk, hyw, hx, hpw, hinv, h1, h2, h3, h7, rfl⟩
  by_cases hy : y = 0
  · subst hy
    rw [Gf.gmul_zero_right, Nat.xor_zero] at hinv
    simp -implicitDefEqProofs (disch := omega) only [e_skip, e_ops, e_dops, e_seq, e_cond, e_block, e_exit, e_ret, e_seqN, e_seqE, e_seqR, e_blockN, e_blockR, e_blockE, e_condT, e_condF, e_condB, e_nil, e_consN, e_consG, e_nilD, e_consDN, e_consDG, e_guardB, e_guardTT, e_guardTF, e_guardFT, e_guardFF, e_guardU, e_pure, e_eff, e_call, e_pureD, e_effD1, e_effD2, e_effD3, e_callD2, e_callD3, e_thenP, e_thenE, e_thenL, e_putS, e_putN, e_upd, e_t, e_c, e_none, e_some, e_bindS, p_move, p_bin, p_len, p_conv, p_pick, p_indexAddr, p_slice, p_extract, p_not, b_add, b_sub, b_mul, b_eql, b_neq, b_lss, b_leq, b_gtr, b_geq, l_nil, l_slice, l_sliceU, x_load1, ↓reduceIte, Nat.reduceEqDiff, Nat.reduceAdd, Nat.reduceMul, Nat.reduceSub, reduceCtorEq, Nat.zero_add, Nat.add_zero, Nat.mul_one, w64, wu32, wu64, beqT, beqF, bneT, bneF, dT, dF, a_idx, a_idxU, a_hi, a_hiN, a_sl, r_ro0, r_rw0, r_sl0, r_succ, ints_get, toNat_sub1, nat_toNat, Nat.add_sub_cancel, q_tmp, q_then, h1, h2, h3, h7]
    refine ret_val (by simp) q_tmp ?_
    simp only [e_upd, e_putS, e_putN, e_t, e_c, Nat.reduceEqDiff, ↓reduceIte, reduceCtorEq, Nat.reduceAdd, h7, hinv]
  · obtain ⟨k, rfl⟩ : ∃ k', k = k' + 1 := by
      cases k with
      | zero => simp at hk; exact (hy hk).elim
      | succ k => exact ⟨k, rfl⟩
    have a1 : abin .and (.int .u64 (y : Int)) (.int .u64 1) = some (.int .u64 ((y % 2 : Nat) : Int)) := b_and1 (by omega)
    have a2 : abin .shr (.int .u64 (y : Int)) (.int .u64 1) = some (.int .u64 ((y / 2 : Nat) : Int)) := b_shrN (n := 1) (by omega)
    have a3 : abin .xor (.int .u64 (p : Int)) (.int .u64 (x : Int)) = some (.int .u64 ((p ^^^ x : Nat) : Int)) := b_xor (by omega) (by omega)
    have hx' := Gf.tx_lt G hx
    have hinv' : (p ^^^ (if y % 2 = 1 then x else 0)) ^^^ Gf.gmul (Gf.tx w (Gf.modu w)) k (Gf.tx w (Gf.modu w) x) (y / 2) = Gf.mul w (Gf.modu w) a b := by
      rw [Nat.xor_assoc]; exact hinv
    have hk' : y / 2 < 2 ^ k := by rw [Nat.pow_succ] at hk; omega
    have hgt : (0 : Int) < (y : Int) := by omega
    by_cases hodd : y % 2 = 1
    · have c1 : (((y % 2 : Nat) : Int) == 1) = true := by rw [hodd]; rfl
      rw [if_pos hodd] at hinv'
      simp -implicitDefEqProofs (disch := omega) only [e_skip, e_ops, e_dops, e_seq, e_cond, e_block, e_exit, e_ret, e_seqN, e_seqE, e_seqR, e_blockN, e_blockR, e_blockE, e_condT, e_condF, e_condB, e_nil, e_consN, e_consG, e_nilD, e_consDN, e_consDG, e_guardB, e_guardTT, e_guardTF, e_guardFT, e_guardFF, e_guardU, e_pure, e_eff, e_call, e_pureD, e_effD1, e_effD2, e_effD3, e_callD2, e_callD3, e_thenP, e_thenE, e_thenL, e_putS, e_putN, e_upd, e_t, e_c, e_none, e_some, e_bindS, p_move, p_bin, p_len, p_conv, p_pick, p_indexAddr, p_slice, p_extract, p_not, b_add, b_sub, b_mul, b_eql, b_neq, b_lss, b_leq, b_gtr, b_geq, l_nil, l_slice, l_sliceU, x_load1, ↓reduceIte, Nat.reduceEqDiff, Nat.reduceAdd, Nat.reduceMul, Nat.reduceSub, reduceCtorEq, Nat.zero_add, Nat.add_zero, Nat.mul_one, w64, wu32, wu64, beqT, beqF, bneT, bneF, dT, dF, a_idx, a_idxU, a_hi, a_hiN, a_sl, r_ro0, r_rw0, r_sl0, r_succ, ints_get, toNat_sub1, nat_toNat, Nat.add_sub_cancel, q_tmp, q_then, p_field, p_fieldAddr, p_nilCheck, p_build, p_eqPtr, p_binB, p_lenStr, x_alloc, x_box, x_loadN, x_put, anew, aput, cellsAt, Vh.rowAt, afill, aparts, AV.cell, splice, aptr, List.all_cons, List.all_nil, Bool.and_self, Bool.and_true, Bool.true_and, List.length_cons, List.length_nil, List.nil_append, List.cons_append, List.map_cons, List.map_nil, List.take_succ_cons, List.take_zero, List.drop_succ_cons, List.drop_zero, List.take_nil, List.drop_nil, List.getElem?_cons_zero, List.getElem?_cons_succ, List.getElem?_nil, Option.getD_some, Option.getD_none, Option.bind_some, Option.map_some, List.set_cons_zero, List.set_cons_succ, List.set_nil, List.append_nil, Nat.le_refl, Nat.reduceLeDiff, and_self, and_true, true_and, Bool.false_eq_true, Bool.not_true, Bool.not_false, h1, h2, h3, h7, hgt, a1, c1, a3]
      refine call_cl (timesX_calls h hx) rfl rfl rfl ?_
      simp -implicitDefEqProofs (disch := omega) only [e_skip, e_ops, e_dops, e_seq, e_cond, e_block, e_exit, e_ret, e_seqN, e_seqE, e_seqR, e_blockN, e_blockR, e_blockE, e_condT, e_condF, e_condB, e_nil, e_consN, e_consG, e_nilD, e_consDN, e_consDG, e_guardB, e_guardTT, e_guardTF, e_guardFT, e_guardFF, e_guardU, e_pure, e_eff, e_call, e_pureD, e_effD1, e_effD2, e_effD3, e_callD2, e_callD3, e_thenP, e_thenE, e_thenL, e_putS, e_putN, e_upd, e_t, e_c, e_none, e_some, e_bindS, p_move, p_bin, p_len, p_conv, p_pick, p_indexAddr, p_slice, p_extract, p_not, b_add, b_sub, b_mul, b_eql, b_neq, b_lss, b_leq, b_gtr, b_geq, l_nil, l_slice, l_sliceU, x_load1, ↓reduceIte, Nat.reduceEqDiff, Nat.reduceAdd, Nat.reduceMul, Nat.reduceSub, reduceCtorEq, Nat.zero_add, Nat.add_zero, Nat.mul_one, w64, wu32, wu64, beqT, beqF, bneT, bneF, dT, dF, a_idx, a_idxU, a_hi, a_hiN, a_sl, r_ro0, r_rw0, r_sl0, r_succ, ints_get, toNat_sub1, nat_toNat, Nat.add_sub_cancel, q_tmp, q_then, p_field, p_fieldAddr, p_nilCheck, p_build, p_eqPtr, p_binB, p_lenStr, x_alloc, x_box, x_loadN, x_put, anew, aput, cellsAt, Vh.rowAt, afill, aparts, AV.cell, splice, aptr, List.all_cons, List.all_nil, Bool.and_self, Bool.and_true, Bool.true_and, List.length_cons, List.length_nil, List.nil_append, List.cons_append, List.map_cons, List.map_nil, List.take_succ_cons, List.take_zero, List.drop_succ_cons, List.drop_zero, List.take_nil, List.drop_nil, List.getElem?_cons_zero, List.getElem?_cons_succ, List.getElem?_nil, Option.getD_some, Option.getD_none, Option.bind_some, Option.map_some, List.set_cons_zero, List.set_cons_succ, List.set_nil, List.append_nil, Nat.le_refl, Nat.reduceLeDiff, and_self, and_true, true_and, Bool.false_eq_true, Bool.not_true, Bool.not_false, h1, h2, h3, h7, a2]
      refine loop_keep (m := y / 2) (by omega) ⟨k, p ^^^ x, Gf.tx w (Gf.modu w) x, y / 2, rfl, hk', by omega, hx', Nat.xor_lt_two_pow hpw hx, hinv', ?_, ?_, ?_, ?_, rfl⟩
      all_goals simp only [e_upd, e_putS, e_putN, e_t, e_c, Nat.reduceEqDiff, ↓reduceIte, reduceCtorEq, Nat.reduceAdd, h3]
    · have c1 : (((y % 2 : Nat) : Int) == 1) = false := by rw [show y % 2 = 0 by omega]; rfl
      rw [if_neg hodd, Nat.xor_zero] at hinv'
      simp -implicitDefEqProofs (disch := omega) only [e_skip, e_ops, e_dops, e_seq, e_cond, e_block, e_exit, e_ret, e_seqN, e_seqE, e_seqR, e_blockN, e_blockR, e_blockE, e_condT, e_condF, e_condB, e_nil, e_consN, e_consG, e_nilD, e_consDN, e_consDG, e_guardB, e_guardTT, e_guardTF, e_guardFT, e_guardFF, e_guardU, e_pure, e_eff, e_call, e_pureD, e_effD1, e_effD2, e_effD3, e_callD2, e_callD3, e_thenP, e_thenE, e_thenL, e_putS, e_putN, e_upd, e_t, e_c, e_none, e_some, e_bindS, p_move, p_bin, p_len, p_conv, p_pick, p_indexAddr, p_slice, p_extract, p_not, b_add, b_sub, b_mul, b_eql, b_neq, b_lss, b_leq, b_gtr, b_geq, l_nil, l_slice, l_sliceU, x_load1, ↓reduceIte, Nat.reduceEqDiff, Nat.reduceAdd, Nat.reduceMul, Nat.reduceSub, reduceCtorEq, Nat.zero_add, Nat.add_zero, Nat.mul_one, w64, wu32, wu64, beqT, beqF, bneT, bneF, dT, dF, a_idx, a_idxU, a_hi, a_hiN, a_sl, r_ro0, r_rw0, r_sl0, r_succ, ints_get, toNat_sub1, nat_toNat, Nat.add_sub_cancel, q_tmp, q_then, p_field, p_fieldAddr, p_nilCheck, p_build, p_eqPtr, p_binB, p_lenStr, x_alloc, x_box, x_loadN, x_put, anew, aput, cellsAt, Vh.rowAt, afill, aparts, AV.cell, splice, aptr, List.all_cons, List.all_nil, Bool.and_self, Bool.and_true, Bool.true_and, List.length_cons, List.length_nil, List.nil_append, List.cons_append, List.map_cons, List.map_nil, List.take_succ_cons, List.take_zero, List.drop_succ_cons, List.drop_zero, List.take_nil, List.drop_nil, List.getElem?_cons_zero, List.getElem?_cons_succ, List.getElem?_nil, Option.getD_some, Option.getD_none, Option.bind_some, Option.map_some, List.set_cons_zero, List.set_cons_succ, List.set_nil, List.append_nil, Nat.le_refl, Nat.reduceLeDiff, and_self, and_true, true_and, Bool.false_eq_true, Bool.not_true, Bool.not_false, h1, h2, h3, h7, hgt, a1, c1]
      refine call_cl (timesX_calls h hx) rfl rfl rfl ?_
      simp -implicitDefEqProofs (disch := omega) only [e_skip, e_ops, e_dops, e_seq, e_cond, e_block, e_exit, e_ret, e_seqN, e_seqE, e_seqR, e_blockN, e_blockR, e_blockE, e_condT, e_condF, e_condB, e_nil, e_consN, e_consG, e_nilD, e_consDN, e_consDG, e_guardB, e_guardTT, e_guardTF, e_guardFT, e_guardFF, e_guardU, e_pure, e_eff, e_call, e_pureD, e_effD1, e_effD2, e_effD3, e_callD2, e_callD3, e_thenP, e_thenE, e_thenL, e_putS, e_putN, e_upd, e_t, e_c, e_none, e_some, e_bindS, p_move, p_bin, p_len, p_conv, p_pick, p_indexAddr, p_slice, p_extract, p_not, b_add, b_sub, b_mul, b_eql, b_neq, b_lss, b_leq, b_gtr, b_geq, l_nil, l_slice, l_sliceU, x_load1, ↓reduceIte, Nat.reduceEqDiff, Nat.reduceAdd, Nat.reduceMul, Nat.reduceSub, reduceCtorEq, Nat.zero_add, Nat.add_zero, Nat.mul_one, w64, wu32, wu64, beqT, beqF, bneT, bneF, dT, dF, a_idx, a_idxU, a_hi, a_hiN, a_sl, r_ro0, r_rw0, r_sl0, r_succ, ints_get, toNat_sub1, nat_toNat, Nat.add_sub_cancel, q_tmp, q_then, p_field, p_fieldAddr, p_nilCheck, p_build, p_eqPtr, p_binB, p_lenStr, x_alloc, x_box, x_loadN, x_put, anew, aput, cellsAt, Vh.rowAt, afill, aparts, AV.cell, splice, aptr, List.all_cons, List.all_nil, Bool.and_self, Bool.and_true, Bool.true_and, List.length_cons, List.length_nil, List.nil_append, List.cons_append, List.map_cons, List.map_nil, List.take_succ_cons, List.take_zero, List.drop_succ_cons, List.drop_zero, List.take_nil, List.drop_nil, List.getElem?_cons_zero, List.getElem?_cons_succ, List.getElem?_nil, Option.getD_some, Option.getD_none, Option.bind_some, Option.map_some, List.set_cons_zero, List.set_cons_succ, List.set_nil, List.append_nil, Nat.le_refl, Nat.reduceLeDiff, and_self, and_true, true_and, Bool.false_eq_true, Bool.not_true, Bool.not_false, h1, h2, h3, h7, a2]
      refine loop_keep (m := y / 2) (by omega) ⟨k, p, Gf.tx w (Gf.modu w) x, y / 2, rfl, hk', by omega, hx', hpw, hinv', ?_, ?_, ?_, ?_, rfl⟩
      all_goals simp only [e_upd, e_putS, e_putN, e_t, e_c, Nat.reduceEqDiff, ↓reduceIte, reduceCtorEq, Nat.reduceAdd, h3, h7]
end Go.Proofs.Ytebijlefkomplaa
