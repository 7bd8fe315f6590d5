/- Contracts: equal bit strings, nothing left behind; copies; the reference's Toeplitz hash. -/
import Derived.Test.YtfedgjkcbmkjpaaB4
set_option linter.unusedSimpArgs false
set_option linter.unusedVariables false
namespace Go.Proofs.Ytfedgjkcbmkjpaa
open Go Go.Vh

def sameB (n m : Nat) (f g : Nat → Bool) : Bool := decide (n = m ∧ ∀ i, i < n → f i = g i)

theorem rSame2_calls (κ κ' : SK) (n m : Nat) (f g : Nat → Bool) (hk : okS κ n) (hk' : okS κ' m) (hn : n ≤ 1000000) (hm : m ≤ 1000000) : ACalls Try.prog 27 [mkS κ 0 0 n, mkS κ' 1 0 m] [ro (bt n f), ro (bt m g)] (List.range 2) fun v H =>
    v = .bool (sameB n m f g) ∧ H = [ro (bt n f), ro (bt m g)] := by
  refine ACalls.body Try.func27 ent_rSame ir_rSame_ok rs_rSame_ok Try.ntmps27 (by simp) rfl ?_
  unfold ir_rSame
  have e0 : s0 [mkS κ 0 0 n, mkS κ' 1 0 m] 0 = mkS κ 0 0 n := rfl
  have e1 : s0 [mkS κ 0 0 n, mkS κ' 1 0 m] 1 = mkS κ' 1 0 m := rfl
  by_cases h : n = m
  case neg =>
    have hne : (n : Int) ≠ (m : Int) := by omega
    simp (disch := omega) only [e_skip, e_ops, e_dops, e_seq, e_condI, e_condFb, e_gTF, e_gFT, e_gU, e_unv, e_bTT, e_bFF, e_bTF, e_bFT, e_beq1, e_beq2, Bool.not_true, Bool.not_false, e_block, e_exit, e_ret, e_seqN, e_seqE, e_seqR, e_blockN, e_blockR, e_blockE, e_nil, e_consN, e_consGI, e_nilD, e_consDN, e_consDGI, e_pure, e_eff, e_call, e_pureD, e_effD1, e_effD2, e_effD3, e_callD2, e_callD3, e_thenP, e_thenE, e_thenL, e_putS, e_putN, e_upd, e_t, e_c, e_none, e_some, e_bindS, p_move, p_bin, p_len, p_conv, p_pick, p_indexAddr, p_slice, p_extract, p_not, b_add, b_sub, b_mul, b_eql, b_neq, b_lss, b_leq, b_gtr, b_geq, l_nil, l_slice, l_sliceU, x_load1, ↓reduceIte, Nat.reduceEqDiff, Nat.reduceAdd, Nat.reduceMul, Nat.reduceSub, reduceCtorEq, Nat.zero_add, Nat.add_zero, Nat.mul_one, w64, wu32, wu64, beqT, beqF, bneT, bneF, dT, dF, a_idx, a_idxU, a_hi, a_hiN, a_sl, r_ro0, r_rw0, r_sl0, r_succ, ints_get, toNat_sub1, nat_toNat, Nat.add_sub_cancel, q_tmp, q_then, e0, e1, k_len hk, k_len hk']
    refine ret_both (by simp) q_tmp ?_ rfl
    simp only [e_upd, e_putS, e_putN, e_t, e_c, Nat.reduceEqDiff, ↓reduceIte, reduceCtorEq, Nat.reduceAdd, sameB, h, false_and, decide_false]
  subst h
  have hsame : sameB n n f g = decide (∀ i, i < n → f i = g i) := by simp [sameB]
  rw [hsame]
  simp (disch := omega) only [e_skip, e_ops, e_dops, e_seq, e_condI, e_condFb, e_gTF, e_gFT, e_gU, e_unv, e_bTT, e_bFF, e_bTF, e_bFT, e_beq1, e_beq2, Bool.not_true, Bool.not_false, e_block, e_exit, e_ret, e_seqN, e_seqE, e_seqR, e_blockN, e_blockR, e_blockE, e_nil, e_consN, e_consGI, e_nilD, e_consDN, e_consDGI, e_pure, e_eff, e_call, e_pureD, e_effD1, e_effD2, e_effD3, e_callD2, e_callD3, e_thenP, e_thenE, e_thenL, e_putS, e_putN, e_upd, e_t, e_c, e_none, e_some, e_bindS, p_move, p_bin, p_len, p_conv, p_pick, p_indexAddr, p_slice, p_extract, p_not, b_add, b_sub, b_mul, b_eql, b_neq, b_lss, b_leq, b_gtr, b_geq, l_nil, l_slice, l_sliceU, x_load1, ↓reduceIte, Nat.reduceEqDiff, Nat.reduceAdd, Nat.reduceMul, Nat.reduceSub, reduceCtorEq, Nat.zero_add, Nat.add_zero, Nat.mul_one, w64, wu32, wu64, beqT, beqF, bneT, bneF, dT, dF, a_idx, a_idxU, a_hi, a_hiN, a_sl, r_ro0, r_rw0, r_sl0, r_succ, ints_get, toNat_sub1, nat_toNat, Nat.add_sub_cancel, q_tmp, q_then, e0, e1, k_len hk, k_len hk']
  have fin : (decide ((cnt (fun i => f i != g i) n : Nat) = 0)) = decide (∀ i, i < n → f i = g i) := by
    apply decide_eq_decide.2
    rw [cnt_zero]
    constructor
    · intro h i hi; simpa using h i hi
    · intro h i hi; simpa using h i hi
  have fin2 : (((cnt (fun i => f i != g i) n : Nat) : Int) == 0) = decide (∀ i, i < n → f i = g i) := by rw [eq0_int, fin]
  refine call_bb (a := 0) (b := 1) (da := 0) (db := 0) (rest := []) (rXor_calls κ κ' n f g hk hk' hn) rfl rfl rfl (by simp [bt_length]) (by simp [bt_length]) (by simp [bt_take]) (by simp [bt_take]) rfl ?_
  rintro v0 H0' (⟨hz, rfl, rfl⟩ | ⟨hpos, rfl, rfl⟩)
  · subst hz
    simp (disch := omega) only [e_skip, e_ops, e_dops, e_seq, e_condI, e_condFb, e_gTF, e_gFT, e_gU, e_unv, e_bTT, e_bFF, e_bTF, e_bFT, e_beq1, e_beq2, Bool.not_true, Bool.not_false, e_block, e_exit, e_ret, e_seqN, e_seqE, e_seqR, e_blockN, e_blockR, e_blockE, e_nil, e_consN, e_consGI, e_nilD, e_consDN, e_consDGI, e_pure, e_eff, e_call, e_pureD, e_effD1, e_effD2, e_effD3, e_callD2, e_callD3, e_thenP, e_thenE, e_thenL, e_putS, e_putN, e_upd, e_t, e_c, e_none, e_some, e_bindS, p_move, p_bin, p_len, p_conv, p_pick, p_indexAddr, p_slice, p_extract, p_not, b_add, b_sub, b_mul, b_eql, b_neq, b_lss, b_leq, b_gtr, b_geq, l_nil, l_slice, l_sliceU, x_load1, ↓reduceIte, Nat.reduceEqDiff, Nat.reduceAdd, Nat.reduceMul, Nat.reduceSub, reduceCtorEq, Nat.zero_add, Nat.add_zero, Nat.mul_one, w64, wu32, wu64, beqT, beqF, bneT, bneF, dT, dF, a_idx, a_idxU, a_hi, a_hiN, a_sl, r_ro0, r_rw0, r_sl0, r_succ, ints_get, toNat_sub1, nat_toNat, Nat.add_sub_cancel, q_tmp, q_then]
    refine call_b (κ := .nil) (n := 0) (m := 0) (a := 0) (da := 0) (g := fun i => f i != g i) (rest := []) (rCount_calls .nil 0 _ rfl (by omega)) rfl rfl (by simp) (by simp [bt]) rfl ?_
    rintro v0 H0' ⟨rfl, rfl⟩
    simp (disch := omega) only [e_skip, e_ops, e_dops, e_seq, e_condI, e_condFb, e_gTF, e_gFT, e_gU, e_unv, e_bTT, e_bFF, e_bTF, e_bFT, e_beq1, e_beq2, Bool.not_true, Bool.not_false, e_block, e_exit, e_ret, e_seqN, e_seqE, e_seqR, e_blockN, e_blockR, e_blockE, e_nil, e_consN, e_consGI, e_nilD, e_consDN, e_consDGI, e_pure, e_eff, e_call, e_pureD, e_effD1, e_effD2, e_effD3, e_callD2, e_callD3, e_thenP, e_thenE, e_thenL, e_putS, e_putN, e_upd, e_t, e_c, e_none, e_some, e_bindS, p_move, p_bin, p_len, p_conv, p_pick, p_indexAddr, p_slice, p_extract, p_not, b_add, b_sub, b_mul, b_eql, b_neq, b_lss, b_leq, b_gtr, b_geq, l_nil, l_slice, l_sliceU, x_load1, ↓reduceIte, Nat.reduceEqDiff, Nat.reduceAdd, Nat.reduceMul, Nat.reduceSub, reduceCtorEq, Nat.zero_add, Nat.add_zero, Nat.mul_one, w64, wu32, wu64, beqT, beqF, bneT, bneF, dT, dF, a_idx, a_idxU, a_hi, a_hiN, a_sl, r_ro0, r_rw0, r_sl0, r_succ, ints_get, toNat_sub1, nat_toNat, Nat.add_sub_cancel, q_tmp, q_then, fin2]
    exact ret_both (by simp) q_tmp (by simp only [e_upd, e_putS, e_putN, e_t, e_c, Nat.reduceEqDiff, ↓reduceIte, reduceCtorEq, Nat.reduceAdd]; rfl) (by simp)
  · simp (disch := omega) only [e_skip, e_ops, e_dops, e_seq, e_condI, e_condFb, e_gTF, e_gFT, e_gU, e_unv, e_bTT, e_bFF, e_bTF, e_bFT, e_beq1, e_beq2, Bool.not_true, Bool.not_false, e_block, e_exit, e_ret, e_seqN, e_seqE, e_seqR, e_blockN, e_blockR, e_blockE, e_nil, e_consN, e_consGI, e_nilD, e_consDN, e_consDGI, e_pure, e_eff, e_call, e_pureD, e_effD1, e_effD2, e_effD3, e_callD2, e_callD3, e_thenP, e_thenE, e_thenL, e_putS, e_putN, e_upd, e_t, e_c, e_none, e_some, e_bindS, p_move, p_bin, p_len, p_conv, p_pick, p_indexAddr, p_slice, p_extract, p_not, b_add, b_sub, b_mul, b_eql, b_neq, b_lss, b_leq, b_gtr, b_geq, l_nil, l_slice, l_sliceU, x_load1, ↓reduceIte, Nat.reduceEqDiff, Nat.reduceAdd, Nat.reduceMul, Nat.reduceSub, reduceCtorEq, Nat.zero_add, Nat.add_zero, Nat.mul_one, w64, wu32, wu64, beqT, beqF, bneT, bneF, dT, dF, a_idx, a_idxU, a_hi, a_hiN, a_sl, r_ro0, r_rw0, r_sl0, r_succ, ints_get, toNat_sub1, nat_toNat, Nat.add_sub_cancel, q_tmp, q_then]
    refine call_b (κ := .u) (n := n) (m := n) (a := 2) (da := 0) (g := fun i => f i != g i) (rest := []) (rCount_calls .u n _ trivial hn) rfl rfl ?_ ?_ rfl ?_
    · simp [bt_length, sl, renRow, bt_ren]
    · simp [bt_ren, bt_take]
    rintro v0 H0' ⟨rfl, rfl⟩
    rw [n_int]
    simp (disch := omega) only [e_skip, e_ops, e_dops, e_seq, e_condI, e_condFb, e_gTF, e_gFT, e_gU, e_unv, e_bTT, e_bFF, e_bTF, e_bFT, e_beq1, e_beq2, Bool.not_true, Bool.not_false, e_block, e_exit, e_ret, e_seqN, e_seqE, e_seqR, e_blockN, e_blockR, e_blockE, e_nil, e_consN, e_consGI, e_nilD, e_consDN, e_consDGI, e_pure, e_eff, e_call, e_pureD, e_effD1, e_effD2, e_effD3, e_callD2, e_callD3, e_thenP, e_thenE, e_thenL, e_putS, e_putN, e_upd, e_t, e_c, e_none, e_some, e_bindS, p_move, p_bin, p_len, p_conv, p_pick, p_indexAddr, p_slice, p_extract, p_not, b_add, b_sub, b_mul, b_eql, b_neq, b_lss, b_leq, b_gtr, b_geq, l_nil, l_slice, l_sliceU, x_load1, ↓reduceIte, Nat.reduceEqDiff, Nat.reduceAdd, Nat.reduceMul, Nat.reduceSub, reduceCtorEq, Nat.zero_add, Nat.add_zero, Nat.mul_one, w64, wu32, wu64, beqT, beqF, bneT, bneF, dT, dF, a_idx, a_idxU, a_hi, a_hiN, a_sl, r_ro0, r_rw0, r_sl0, r_succ, ints_get, toNat_sub1, nat_toNat, Nat.add_sub_cancel, q_tmp, q_then, fin2]
    refine ret_gc [0, 1] rfl ?_ (by simp) ?_
    · simp [gcH, Vh.rowAt, ro, bt_ren, bt_cell]
    · unfold rs_rSame; rw [q_tmp, q_then]
      refine ⟨gc_at (v := .bool (decide (∀ i, i < n → f i = g i))) (by simp only [e_upd, e_putS, e_putN, e_t, e_c, Nat.reduceEqDiff, ↓reduceIte, reduceCtorEq, Nat.reduceAdd]) rfl, ?_⟩
      simp [gcH, Vh.rowAt, ro, bt_ren]

theorem kept_calls (κ : SK) (n : Nat) (f : Nat → Bool) (hk : okS κ n) (hn : n ≤ 1000000) : ACalls Try.prog 23 [mkS κ 0 0 n] [ro (bt n f)] (List.range 1) fun v H => v = .sliceU 1 0 n 1 ∧ H = [ro (bt n f), sl (bt n f)] := by
  refine ACalls.body Try.func23 ent_kept ir_kept_ok rs_kept_ok Try.ntmps23 (by simp) rfl ?_
  unfold ir_kept
  have e0 : s0 [mkS κ 0 0 n] 0 = mkS κ 0 0 n := rfl
  have hb0 : ∀ (s : St) (H : AHeap), ieff (.buildSlice 0 [] []) s H = some (.slice H.length 0 0 0, H ++ [rw_ []]) := fun s H => by
    simp [ieff, afill, anew, rw_]
  have happ : ∀ (s : St), s 3 = .slice 1 0 0 0 → s 4 = mkS κ 0 0 n → ieff (.append 1 1 (.t 3) (.t 4)) s [ro (bt n f), rw_ []] = some (.sliceU 2 0 n 1, [ro (bt n f), rw_ [], sl (bt n f)]) := fun s h3 h4 => by
    have hsrc := src_mkS (H := [ro (bt n f), rw_ []]) (r := 0) (row := ⟨false, false, bt n f⟩) hk rfl (by rw [bt_length]; omega)
    rw [bt_take (Nat.le_refl n)] at hsrc
    simp only [ieff, e_t, h3, h4, k_len hk (Nat.le_refl n), hsrc, Option.bind_some, aappend, Nat.zero_add, Nat.mul_one]
    rw [if_pos (by omega)]
    simp [anew, bt_cell, sl]
  simp (disch := omega) only [e_skip, e_ops, e_dops, e_seq, e_condI, e_condFb, e_gTF, e_gFT, e_gU, e_unv, e_bTT, e_bFF, e_bTF, e_bFT, e_beq1, e_beq2, Bool.not_true, Bool.not_false, e_block, e_exit, e_ret, e_seqN, e_seqE, e_seqR, e_blockN, e_blockR, e_blockE, e_nil, e_consN, e_consGI, e_nilD, e_consDN, e_consDGI, e_pure, e_eff, e_call, e_pureD, e_effD1, e_effD2, e_effD3, e_callD2, e_callD3, e_thenP, e_thenE, e_thenL, e_putS, e_putN, e_upd, e_t, e_c, e_none, e_some, e_bindS, p_move, p_bin, p_len, p_conv, p_pick, p_indexAddr, p_slice, p_extract, p_not, b_add, b_sub, b_mul, b_eql, b_neq, b_lss, b_leq, b_gtr, b_geq, l_nil, l_slice, l_sliceU, x_load1, ↓reduceIte, Nat.reduceEqDiff, Nat.reduceAdd, Nat.reduceMul, Nat.reduceSub, reduceCtorEq, Nat.zero_add, Nat.add_zero, Nat.mul_one, w64, wu32, wu64, beqT, beqF, bneT, bneF, dT, dF, a_idx, a_idxU, a_hi, a_hiN, a_sl, r_ro0, r_rw0, r_sl0, r_succ, ints_get, toNat_sub1, nat_toNat, Nat.add_sub_cancel, q_tmp, q_then, e0, hb0, List.cons_append, List.nil_append]
  rw [happ _ (by simp only [e_upd, e_putS, e_putN, e_t, e_c, Nat.reduceEqDiff, ↓reduceIte, reduceCtorEq, Nat.reduceAdd]; rfl) (by simp only [e_upd, e_putS, e_putN, e_t, e_c, Nat.reduceEqDiff, ↓reduceIte, reduceCtorEq, Nat.reduceAdd])]
  simp (disch := omega) only [e_skip, e_ops, e_dops, e_seq, e_condI, e_condFb, e_gTF, e_gFT, e_gU, e_unv, e_bTT, e_bFF, e_bTF, e_bFT, e_beq1, e_beq2, Bool.not_true, Bool.not_false, e_block, e_exit, e_ret, e_seqN, e_seqE, e_seqR, e_blockN, e_blockR, e_blockE, e_nil, e_consN, e_consGI, e_nilD, e_consDN, e_consDGI, e_pure, e_eff, e_call, e_pureD, e_effD1, e_effD2, e_effD3, e_callD2, e_callD3, e_thenP, e_thenE, e_thenL, e_putS, e_putN, e_upd, e_t, e_c, e_none, e_some, e_bindS, p_move, p_bin, p_len, p_conv, p_pick, p_indexAddr, p_slice, p_extract, p_not, b_add, b_sub, b_mul, b_eql, b_neq, b_lss, b_leq, b_gtr, b_geq, l_nil, l_slice, l_sliceU, x_load1, ↓reduceIte, Nat.reduceEqDiff, Nat.reduceAdd, Nat.reduceMul, Nat.reduceSub, reduceCtorEq, Nat.zero_add, Nat.add_zero, Nat.mul_one, w64, wu32, wu64, beqT, beqF, bneT, bneF, dT, dF, a_idx, a_idxU, a_hi, a_hiN, a_sl, r_ro0, r_rw0, r_sl0, r_succ, ints_get, toNat_sub1, nat_toNat, Nat.add_sub_cancel, q_tmp, q_then]
  refine ret_gc [0, 2] rfl ?_ (by simp) ?_
  · simp [gcH, Vh.rowAt, ro, sl, bt_ren, bt_cell]
  · unfold rs_kept; rw [q_tmp, q_then]
    refine ⟨gc_at (v := .sliceU 2 0 n 1) (by simp only [e_upd, e_putS, e_putN, e_t, e_c, Nat.reduceEqDiff, ↓reduceIte, reduceCtorEq, Nat.reduceAdd]) rfl, ?_⟩
    simp [gcH, Vh.rowAt, ro, sl, bt_ren]

theorem rSeedBits_calls (n out : Nat) (hn : n ≤ 1000000) (ho : out ≤ 1000000) : ACalls Try.prog 30 [.int .i64 n, .int .i64 out] [] [] fun v H => v = .int .i64 ((n + out - 1 : Nat) : Int) ∧ H = [] := by
  refine ACalls.body Try.func30 ent_rSeedBits ir_rSeedBits_ok rs_rSeedBits_ok Try.ntmps30 (by simp) rfl ?_
  unfold ir_rSeedBits
  have e0 : s0 [.int .i64 (n : Int), .int .i64 (out : Int)] 0 = .int .i64 n := rfl
  have e1 : s0 [.int .i64 (n : Int), .int .i64 (out : Int)] 1 = .int .i64 out := rfl
  have mm : ∀ s : St, s 8 = .int .i64 ((n : Int) + (out : Int) - 1) → ipure (.minmax true (.c (.int .i64 0)) (.t 8)) s = some (.int .i64 ((n + out - 1 : Nat) : Int)) := fun s h => by
    rw [p_minmax (k := .i64) (k' := .i64) (a := 0) (b := (n : Int) + (out : Int) - 1) (show evo s (.c (.int .i64 0)) = .int .i64 0 from rfl) (show evo s (.t 8) = _ from h)]
    congr 2
    simp only [if_true]
    split <;> omega
  simp (disch := omega) only [e_skip, e_ops, e_dops, e_seq, e_condI, e_condFb, e_gTF, e_gFT, e_gU, e_unv, e_bTT, e_bFF, e_bTF, e_bFT, e_beq1, e_beq2, Bool.not_true, Bool.not_false, e_block, e_exit, e_ret, e_seqN, e_seqE, e_seqR, e_blockN, e_blockR, e_blockE, e_nil, e_consN, e_consGI, e_nilD, e_consDN, e_consDGI, e_pure, e_eff, e_call, e_pureD, e_effD1, e_effD2, e_effD3, e_callD2, e_callD3, e_thenP, e_thenE, e_thenL, e_putS, e_putN, e_upd, e_t, e_c, e_none, e_some, e_bindS, p_move, p_bin, p_len, p_conv, p_pick, p_indexAddr, p_slice, p_extract, p_not, b_add, b_sub, b_mul, b_eql, b_neq, b_lss, b_leq, b_gtr, b_geq, l_nil, l_slice, l_sliceU, x_load1, ↓reduceIte, Nat.reduceEqDiff, Nat.reduceAdd, Nat.reduceMul, Nat.reduceSub, reduceCtorEq, Nat.zero_add, Nat.add_zero, Nat.mul_one, w64, wu32, wu64, beqT, beqF, bneT, bneF, dT, dF, a_idx, a_idxU, a_hi, a_hiN, a_sl, r_ro0, r_rw0, r_sl0, r_succ, ints_get, toNat_sub1, nat_toNat, Nat.add_sub_cancel, q_tmp, q_then, e0, e1]
  rw [mm _ (by simp only [e_upd, e_putS, e_putN, e_t, e_c, Nat.reduceEqDiff, ↓reduceIte, reduceCtorEq, Nat.reduceAdd])]
  simp (disch := omega) only [e_skip, e_ops, e_dops, e_seq, e_condI, e_condFb, e_gTF, e_gFT, e_gU, e_unv, e_bTT, e_bFF, e_bTF, e_bFT, e_beq1, e_beq2, Bool.not_true, Bool.not_false, e_block, e_exit, e_ret, e_seqN, e_seqE, e_seqR, e_blockN, e_blockR, e_blockE, e_nil, e_consN, e_consGI, e_nilD, e_consDN, e_consDGI, e_pure, e_eff, e_call, e_pureD, e_effD1, e_effD2, e_effD3, e_callD2, e_callD3, e_thenP, e_thenE, e_thenL, e_putS, e_putN, e_upd, e_t, e_c, e_none, e_some, e_bindS, p_move, p_bin, p_len, p_conv, p_pick, p_indexAddr, p_slice, p_extract, p_not, b_add, b_sub, b_mul, b_eql, b_neq, b_lss, b_leq, b_gtr, b_geq, l_nil, l_slice, l_sliceU, x_load1, ↓reduceIte, Nat.reduceEqDiff, Nat.reduceAdd, Nat.reduceMul, Nat.reduceSub, reduceCtorEq, Nat.zero_add, Nat.add_zero, Nat.mul_one, w64, wu32, wu64, beqT, beqF, bneT, bneF, dT, dF, a_idx, a_idxU, a_hi, a_hiN, a_sl, r_ro0, r_rw0, r_sl0, r_succ, ints_get, toNat_sub1, nat_toNat, Nat.add_sub_cancel, q_tmp, q_then]
  exact ret_both (by simp) q_tmp (by simp only [e_upd, e_putS, e_putN, e_t, e_c, Nat.reduceEqDiff, ↓reduceIte, reduceCtorEq, Nat.reduceAdd]) rfl

theorem th_step (n : Nat) (f g : Nat → Bool) (j i : Nat) : th n f g (j + 1) i = if f j && g (n - 1 - j + i) then !(th n f g j i) else th n f g j i := by
  simp only [th]
  cases f j <;> cases g (n - 1 - j + i) <;> cases th n f g j i <;> rfl

set_option maxHeartbeats 1000000 in
theorem rToep_calls (κ κ' : SK) (S n out : Nat) (g f : Nat → Bool) (hk : okS κ S) (hk' : okS κ' n) (hn : n ≤ 512) (ho : out ≤ 512) (hS : S = n + out - 1) : ACalls Try.prog 31 [mkS κ 0 0 S, mkS κ' 1 0 n, .int .i64 out] [ro (bt S g), ro (bt n f)] (List.range 2) fun v H =>
    grown [ro (bt S g), ro (bt n f)] out (th n f g n) v H := by
  refine ACalls.body Try.func31 ent_rToep ir_rToep_ok rs_rToep_ok Try.ntmps31 (by simp) rfl ?_
  unfold ir_rToep
  have e0 : s0 [mkS κ 0 0 S, mkS κ' 1 0 n, .int .i64 (out : Int)] 0 = mkS κ 0 0 S := rfl
  have e1 : s0 [mkS κ 0 0 S, mkS κ' 1 0 n, .int .i64 (out : Int)] 1 = mkS κ' 1 0 n := rfl
  have e2 : s0 [mkS κ 0 0 S, mkS κ' 1 0 n, .int .i64 (out : Int)] 2 = .int .i64 (out : Int) := rfl
  simp (disch := omega) only [e_skip, e_ops, e_dops, e_seq, e_condI, e_condFb, e_gTF, e_gFT, e_gU, e_unv, e_bTT, e_bFF, e_bTF, e_bFT, e_beq1, e_beq2, Bool.not_true, Bool.not_false, e_block, e_exit, e_ret, e_seqN, e_seqE, e_seqR, e_blockN, e_blockR, e_blockE, e_nil, e_consN, e_consGI, e_nilD, e_consDN, e_consDGI, e_pure, e_eff, e_call, e_pureD, e_effD1, e_effD2, e_effD3, e_callD2, e_callD3, e_thenP, e_thenE, e_thenL, e_putS, e_putN, e_upd, e_t, e_c, e_none, e_some, e_bindS, p_move, p_bin, p_len, p_conv, p_pick, p_indexAddr, p_slice, p_extract, p_not, b_add, b_sub, b_mul, b_eql, b_neq, b_lss, b_leq, b_gtr, b_geq, l_nil, l_slice, l_sliceU, x_load1, ↓reduceIte, Nat.reduceEqDiff, Nat.reduceAdd, Nat.reduceMul, Nat.reduceSub, reduceCtorEq, Nat.zero_add, Nat.add_zero, Nat.mul_one, w64, wu32, wu64, beqT, beqF, bneT, bneF, dT, dF, a_idx, a_idxU, a_hi, a_hiN, a_sl, r_ro0, r_rw0, r_sl0, r_succ, ints_get, toNat_sub1, nat_toNat, Nat.add_sub_cancel, q_tmp, q_then, e1, k_len hk']
  refine ⟨fun m s H => ∃ i, m = out - i ∧ i ≤ out ∧ s 0 = mkS κ 0 0 S ∧ s 1 = mkS κ' 1 0 n ∧ s 2 = .int .i64 (out : Int) ∧ s 8 = .int .i64 (n : Int) ∧ s 9 = .int .i64 (i : Int) ∧ grown [ro (bt S g), ro (bt n f)] i (th n f g n) (s 7) H, out, ⟨0, rfl, by omega, ?_, ?_, ?_, ?_, ?_, .inl ⟨rfl, ?_, rfl⟩⟩, ?_⟩
  · simp only [e_upd, e_putS, e_putN, e_t, e_c, Nat.reduceEqDiff, ↓reduceIte, reduceCtorEq, Nat.reduceAdd, e0]
  · simp only [e_upd, e_putS, e_putN, e_t, e_c, Nat.reduceEqDiff, ↓reduceIte, reduceCtorEq, Nat.reduceAdd, e1]
  · simp only [e_upd, e_putS, e_putN, e_t, e_c, Nat.reduceEqDiff, ↓reduceIte, reduceCtorEq, Nat.reduceAdd, e2]
  · simp only [e_upd, e_putS, e_putN, e_t, e_c, Nat.reduceEqDiff, ↓reduceIte, reduceCtorEq, Nat.reduceAdd]
  · simp only [e_upd, e_putS, e_putN, e_t, e_c, Nat.reduceEqDiff, ↓reduceIte, reduceCtorEq, Nat.reduceAdd]; rfl
  · simp only [e_upd, e_putS, e_putN, e_t, e_c, Nat.reduceEqDiff, ↓reduceIte, reduceCtorEq, Nat.reduceAdd]
  rintro m s H ⟨i, hm, hi, h0, h1, h2, h8, h9, hg⟩
  by_cases hlt : (i : Int) < (out : Int)
  case neg =>
    have hio : i = out := by omega
    subst hio
    simp (disch := omega) only [e_skip, e_ops, e_dops, e_seq, e_condI, e_condFb, e_gTF, e_gFT, e_gU, e_unv, e_bTT, e_bFF, e_bTF, e_bFT, e_beq1, e_beq2, Bool.not_true, Bool.not_false, e_block, e_exit, e_ret, e_seqN, e_seqE, e_seqR, e_blockN, e_blockR, e_blockE, e_nil, e_consN, e_consGI, e_nilD, e_consDN, e_consDGI, e_pure, e_eff, e_call, e_pureD, e_effD1, e_effD2, e_effD3, e_callD2, e_callD3, e_thenP, e_thenE, e_thenL, e_putS, e_putN, e_upd, e_t, e_c, e_none, e_some, e_bindS, p_move, p_bin, p_len, p_conv, p_pick, p_indexAddr, p_slice, p_extract, p_not, b_add, b_sub, b_mul, b_eql, b_neq, b_lss, b_leq, b_gtr, b_geq, l_nil, l_slice, l_sliceU, x_load1, ↓reduceIte, Nat.reduceEqDiff, Nat.reduceAdd, Nat.reduceMul, Nat.reduceSub, reduceCtorEq, Nat.zero_add, Nat.add_zero, Nat.mul_one, w64, wu32, wu64, beqT, beqF, bneT, bneF, dT, dF, a_idx, a_idxU, a_hi, a_hiN, a_sl, r_ro0, r_rw0, r_sl0, r_succ, ints_get, toNat_sub1, nat_toNat, Nat.add_sub_cancel, q_tmp, q_then, h0, h1, h2, h8, h9]
    refine ret_keep ?_ ?_
    · rcases hg with ⟨_, _, rfl⟩ | ⟨_, _, rfl⟩ <;> simp
    · unfold rs_rToep; rw [q_tmp, q_then]
      simp only [e_upd, e_putS, e_putN, e_t, e_c, Nat.reduceEqDiff, ↓reduceIte, reduceCtorEq, Nat.reduceAdd]
      exact hg
  have hio : i < out := by omega
  have hl : 2 ≤ H.length := by rcases hg with ⟨_, _, rfl⟩ | ⟨_, _, rfl⟩ <;> simp
  have hr0 : Vh.rowAt H 0 = some ⟨false, false, bt S g⟩ := by rcases hg with ⟨_, _, rfl⟩ | ⟨_, _, rfl⟩ <;> rfl
  have hr1 : Vh.rowAt H 1 = some ⟨false, false, bt n f⟩ := by rcases hg with ⟨_, _, rfl⟩ | ⟨_, _, rfl⟩ <;> rfl
  simp (disch := omega) only [e_skip, e_ops, e_dops, e_seq, e_condI, e_condFb, e_gTF, e_gFT, e_gU, e_unv, e_bTT, e_bFF, e_bTF, e_bFT, e_beq1, e_beq2, Bool.not_true, Bool.not_false, e_block, e_exit, e_ret, e_seqN, e_seqE, e_seqR, e_blockN, e_blockR, e_blockE, e_nil, e_consN, e_consGI, e_nilD, e_consDN, e_consDGI, e_pure, e_eff, e_call, e_pureD, e_effD1, e_effD2, e_effD3, e_callD2, e_callD3, e_thenP, e_thenE, e_thenL, e_putS, e_putN, e_upd, e_t, e_c, e_none, e_some, e_bindS, p_move, p_bin, p_len, p_conv, p_pick, p_indexAddr, p_slice, p_extract, p_not, b_add, b_sub, b_mul, b_eql, b_neq, b_lss, b_leq, b_gtr, b_geq, l_nil, l_slice, l_sliceU, x_load1, ↓reduceIte, Nat.reduceEqDiff, Nat.reduceAdd, Nat.reduceMul, Nat.reduceSub, reduceCtorEq, Nat.zero_add, Nat.add_zero, Nat.mul_one, w64, wu32, wu64, beqT, beqF, bneT, bneF, dT, dF, a_idx, a_idxU, a_hi, a_hiN, a_sl, r_ro0, r_rw0, r_sl0, r_succ, ints_get, toNat_sub1, nat_toNat, Nat.add_sub_cancel, q_tmp, q_then, h0, h1, h2, h8, h9]
  refine ⟨fun m' s' H' => ∃ j, m' = n - j ∧ j ≤ n ∧ s' 0 = mkS κ 0 0 S ∧ s' 1 = mkS κ' 1 0 n ∧ s' 2 = .int .i64 (out : Int) ∧ s' 7 = s 7 ∧ s' 8 = .int .i64 (n : Int) ∧ s' 9 = .int .i64 (i : Int) ∧ s' 10 = .bool (th n f g j i) ∧ s' 11 = .int .i64 (j : Int) ∧ H' = H, n, ⟨0, rfl, by omega, ?_, ?_, ?_, ?_, ?_, ?_, ?_, ?_, rfl⟩, ?_⟩
  · simp only [e_upd, e_putS, e_putN, e_t, e_c, Nat.reduceEqDiff, ↓reduceIte, reduceCtorEq, Nat.reduceAdd, h0]
  · simp only [e_upd, e_putS, e_putN, e_t, e_c, Nat.reduceEqDiff, ↓reduceIte, reduceCtorEq, Nat.reduceAdd, h1]
  · simp only [e_upd, e_putS, e_putN, e_t, e_c, Nat.reduceEqDiff, ↓reduceIte, reduceCtorEq, Nat.reduceAdd, h2]
  · simp only [e_upd, e_putS, e_putN, e_t, e_c, Nat.reduceEqDiff, ↓reduceIte, reduceCtorEq, Nat.reduceAdd]
  · simp only [e_upd, e_putS, e_putN, e_t, e_c, Nat.reduceEqDiff, ↓reduceIte, reduceCtorEq, Nat.reduceAdd, h8]
  · simp only [e_upd, e_putS, e_putN, e_t, e_c, Nat.reduceEqDiff, ↓reduceIte, reduceCtorEq, Nat.reduceAdd, h9]
  · simp only [e_upd, e_putS, e_putN, e_t, e_c, Nat.reduceEqDiff, ↓reduceIte, reduceCtorEq, Nat.reduceAdd]; rfl
  · simp only [e_upd, e_putS, e_putN, e_t, e_c, Nat.reduceEqDiff, ↓reduceIte, reduceCtorEq, Nat.reduceAdd]; rfl
  rintro m' s' H' ⟨j, hm', hj, k0, k1, k2, k7, k8, k9, k10, k11, rfl⟩
  by_cases hlt' : (j : Int) < (n : Int)
  · have hjn : j < n := by omega
    have i1 : aindexAddr 1 (mkS κ' 1 0 n) (.int .i64 (j : Int)) = some (.ptr 1 j) := by
      rw [k_idx hk' (Nat.le_refl n) (by omega) (by omega)]; simp
    have g1 : (bt n f)[j]? = some (.bool (f j)) := bt_get hjn
    have wj : (i : Int) + (n : Int) - 1 - (j : Int) = ((n - 1 - j + i : Nat) : Int) := by omega
    have i0 : aindexAddr 1 (mkS κ 0 0 S) (.int .i64 ((n - 1 - j + i : Nat) : Int)) = some (.ptr 0 (n - 1 - j + i)) := by
      rw [k_idx hk (Nat.le_refl S) (by omega) (by omega)]; simp; omega
    have g0 : (bt S g)[n - 1 - j + i]? = some (.bool (g (n - 1 - j + i))) := bt_get (by omega)
    have hts := th_step n f g j i
    have go : ∀ s2 : St, s2 0 = mkS κ 0 0 S → s2 1 = mkS κ' 1 0 n → s2 2 = .int .i64 (out : Int) → s2 7 = s 7 → s2 8 = .int .i64 (n : Int) → s2 9 = .int .i64 (i : Int) → s2 10 = .bool (th n f g (j + 1) i) → s2 11 = .int .i64 ((j : Int) + 1) →
        loopPost 2 (fun m' s' H'' => ∃ j, m' = n - j ∧ j ≤ n ∧ s' 0 = mkS κ 0 0 S ∧ s' 1 = mkS κ' 1 0 n ∧ s' 2 = .int .i64 (out : Int) ∧ s' 7 = s 7 ∧ s' 8 = .int .i64 (n : Int) ∧ s' 9 = .int .i64 (i : Int) ∧ s' 10 = .bool (th n f g j i) ∧ s' 11 = .int .i64 (j : Int) ∧ H'' = H') m' s2 H' := fun s2 q0 q1 q2 q7 q8 q9 q10 q11 =>
      loop_keep (m := n - (j + 1)) (by omega) ⟨j + 1, rfl, by omega, q0, q1, q2, q7, q8, q9, q10, q11, rfl⟩
    cases hf : f j with
    | false =>
      rw [hf] at g1
      rw [hf, Bool.false_and] at hts
      simp (disch := omega) only [e_skip, e_ops, e_dops, e_seq, e_condI, e_condFb, e_gTF, e_gFT, e_gU, e_unv, e_bTT, e_bFF, e_bTF, e_bFT, e_beq1, e_beq2, Bool.not_true, Bool.not_false, e_block, e_exit, e_ret, e_seqN, e_seqE, e_seqR, e_blockN, e_blockR, e_blockE, e_nil, e_consN, e_consGI, e_nilD, e_consDN, e_consDGI, e_pure, e_eff, e_call, e_pureD, e_effD1, e_effD2, e_effD3, e_callD2, e_callD3, e_thenP, e_thenE, e_thenL, e_putS, e_putN, e_upd, e_t, e_c, e_none, e_some, e_bindS, p_move, p_bin, p_len, p_conv, p_pick, p_indexAddr, p_slice, p_extract, p_not, b_add, b_sub, b_mul, b_eql, b_neq, b_lss, b_leq, b_gtr, b_geq, l_nil, l_slice, l_sliceU, x_load1, ↓reduceIte, Nat.reduceEqDiff, Nat.reduceAdd, Nat.reduceMul, Nat.reduceSub, reduceCtorEq, Nat.zero_add, Nat.add_zero, Nat.mul_one, w64, wu32, wu64, beqT, beqF, bneT, bneF, dT, dF, a_idx, a_idxU, a_hi, a_hiN, a_sl, r_ro0, r_rw0, r_sl0, r_succ, ints_get, toNat_sub1, nat_toNat, Nat.add_sub_cancel, q_tmp, q_then, k0, k1, k2, k7, k8, k9, k10, k11, i1, hr1, g1]
      exact go _ (by simp only [e_upd, e_putS, e_putN, e_t, e_c, Nat.reduceEqDiff, ↓reduceIte, reduceCtorEq, Nat.reduceAdd, k0]) (by simp only [e_upd, e_putS, e_putN, e_t, e_c, Nat.reduceEqDiff, ↓reduceIte, reduceCtorEq, Nat.reduceAdd, k1]) (by simp only [e_upd, e_putS, e_putN, e_t, e_c, Nat.reduceEqDiff, ↓reduceIte, reduceCtorEq, Nat.reduceAdd, k2]) (by simp only [e_upd, e_putS, e_putN, e_t, e_c, Nat.reduceEqDiff, ↓reduceIte, reduceCtorEq, Nat.reduceAdd, k7]) (by simp only [e_upd, e_putS, e_putN, e_t, e_c, Nat.reduceEqDiff, ↓reduceIte, reduceCtorEq, Nat.reduceAdd, k8]) (by simp only [e_upd, e_putS, e_putN, e_t, e_c, Nat.reduceEqDiff, ↓reduceIte, reduceCtorEq, Nat.reduceAdd, k9]) (by simp only [e_upd, e_putS, e_putN, e_t, e_c, Nat.reduceEqDiff, ↓reduceIte, reduceCtorEq, Nat.reduceAdd, k10, hts]) (by simp only [e_upd, e_putS, e_putN, e_t, e_c, Nat.reduceEqDiff, ↓reduceIte, reduceCtorEq, Nat.reduceAdd])
    | true =>
      rw [hf] at g1
      rw [hf, Bool.true_and] at hts
      cases hgg : g (n - 1 - j + i) with
      | false =>
        rw [hgg] at g0 hts
        simp (disch := omega) only [e_skip, e_ops, e_dops, e_seq, e_condI, e_condFb, e_gTF, e_gFT, e_gU, e_unv, e_bTT, e_bFF, e_bTF, e_bFT, e_beq1, e_beq2, Bool.not_true, Bool.not_false, e_block, e_exit, e_ret, e_seqN, e_seqE, e_seqR, e_blockN, e_blockR, e_blockE, e_nil, e_consN, e_consGI, e_nilD, e_consDN, e_consDGI, e_pure, e_eff, e_call, e_pureD, e_effD1, e_effD2, e_effD3, e_callD2, e_callD3, e_thenP, e_thenE, e_thenL, e_putS, e_putN, e_upd, e_t, e_c, e_none, e_some, e_bindS, p_move, p_bin, p_len, p_conv, p_pick, p_indexAddr, p_slice, p_extract, p_not, b_add, b_sub, b_mul, b_eql, b_neq, b_lss, b_leq, b_gtr, b_geq, l_nil, l_slice, l_sliceU, x_load1, ↓reduceIte, Nat.reduceEqDiff, Nat.reduceAdd, Nat.reduceMul, Nat.reduceSub, reduceCtorEq, Nat.zero_add, Nat.add_zero, Nat.mul_one, w64, wu32, wu64, beqT, beqF, bneT, bneF, dT, dF, a_idx, a_idxU, a_hi, a_hiN, a_sl, r_ro0, r_rw0, r_sl0, r_succ, ints_get, toNat_sub1, nat_toNat, Nat.add_sub_cancel, q_tmp, q_then, k0, k1, k2, k7, k8, k9, k10, k11, i1, hr1, g1, wj, i0, hr0, g0]
        exact go _ (by simp only [e_upd, e_putS, e_putN, e_t, e_c, Nat.reduceEqDiff, ↓reduceIte, reduceCtorEq, Nat.reduceAdd, k0]) (by simp only [e_upd, e_putS, e_putN, e_t, e_c, Nat.reduceEqDiff, ↓reduceIte, reduceCtorEq, Nat.reduceAdd, k1]) (by simp only [e_upd, e_putS, e_putN, e_t, e_c, Nat.reduceEqDiff, ↓reduceIte, reduceCtorEq, Nat.reduceAdd, k2]) (by simp only [e_upd, e_putS, e_putN, e_t, e_c, Nat.reduceEqDiff, ↓reduceIte, reduceCtorEq, Nat.reduceAdd, k7]) (by simp only [e_upd, e_putS, e_putN, e_t, e_c, Nat.reduceEqDiff, ↓reduceIte, reduceCtorEq, Nat.reduceAdd, k8]) (by simp only [e_upd, e_putS, e_putN, e_t, e_c, Nat.reduceEqDiff, ↓reduceIte, reduceCtorEq, Nat.reduceAdd, k9]) (by simp only [e_upd, e_putS, e_putN, e_t, e_c, Nat.reduceEqDiff, ↓reduceIte, reduceCtorEq, Nat.reduceAdd, k10, hts]) (by simp only [e_upd, e_putS, e_putN, e_t, e_c, Nat.reduceEqDiff, ↓reduceIte, reduceCtorEq, Nat.reduceAdd])
      | true =>
        rw [hgg] at g0 hts
        simp (disch := omega) only [e_skip, e_ops, e_dops, e_seq, e_condI, e_condFb, e_gTF, e_gFT, e_gU, e_unv, e_bTT, e_bFF, e_bTF, e_bFT, e_beq1, e_beq2, Bool.not_true, Bool.not_false, e_block, e_exit, e_ret, e_seqN, e_seqE, e_seqR, e_blockN, e_blockR, e_blockE, e_nil, e_consN, e_consGI, e_nilD, e_consDN, e_consDGI, e_pure, e_eff, e_call, e_pureD, e_effD1, e_effD2, e_effD3, e_callD2, e_callD3, e_thenP, e_thenE, e_thenL, e_putS, e_putN, e_upd, e_t, e_c, e_none, e_some, e_bindS, p_move, p_bin, p_len, p_conv, p_pick, p_indexAddr, p_slice, p_extract, p_not, b_add, b_sub, b_mul, b_eql, b_neq, b_lss, b_leq, b_gtr, b_geq, l_nil, l_slice, l_sliceU, x_load1, ↓reduceIte, Nat.reduceEqDiff, Nat.reduceAdd, Nat.reduceMul, Nat.reduceSub, reduceCtorEq, Nat.zero_add, Nat.add_zero, Nat.mul_one, w64, wu32, wu64, beqT, beqF, bneT, bneF, dT, dF, a_idx, a_idxU, a_hi, a_hiN, a_sl, r_ro0, r_rw0, r_sl0, r_succ, ints_get, toNat_sub1, nat_toNat, Nat.add_sub_cancel, q_tmp, q_then, k0, k1, k2, k7, k8, k9, k10, k11, i1, hr1, g1, wj, i0, hr0, g0]
        exact go _ (by simp only [e_upd, e_putS, e_putN, e_t, e_c, Nat.reduceEqDiff, ↓reduceIte, reduceCtorEq, Nat.reduceAdd, k0]) (by simp only [e_upd, e_putS, e_putN, e_t, e_c, Nat.reduceEqDiff, ↓reduceIte, reduceCtorEq, Nat.reduceAdd, k1]) (by simp only [e_upd, e_putS, e_putN, e_t, e_c, Nat.reduceEqDiff, ↓reduceIte, reduceCtorEq, Nat.reduceAdd, k2]) (by simp only [e_upd, e_putS, e_putN, e_t, e_c, Nat.reduceEqDiff, ↓reduceIte, reduceCtorEq, Nat.reduceAdd, k7]) (by simp only [e_upd, e_putS, e_putN, e_t, e_c, Nat.reduceEqDiff, ↓reduceIte, reduceCtorEq, Nat.reduceAdd, k8]) (by simp only [e_upd, e_putS, e_putN, e_t, e_c, Nat.reduceEqDiff, ↓reduceIte, reduceCtorEq, Nat.reduceAdd, k9]) (by simp only [e_upd, e_putS, e_putN, e_t, e_c, Nat.reduceEqDiff, ↓reduceIte, reduceCtorEq, Nat.reduceAdd, hts]) (by simp only [e_upd, e_putS, e_putN, e_t, e_c, Nat.reduceEqDiff, ↓reduceIte, reduceCtorEq, Nat.reduceAdd])
  have hjn : j = n := by omega
  subst hjn
  rcases hg with ⟨rfl, h7, rfl⟩ | ⟨hpos, h7, rfl⟩
  · rw [h7] at k7
    simp (disch := omega) only [e_skip, e_ops, e_dops, e_seq, e_condI, e_condFb, e_gTF, e_gFT, e_gU, e_unv, e_bTT, e_bFF, e_bTF, e_bFT, e_beq1, e_beq2, Bool.not_true, Bool.not_false, e_block, e_exit, e_ret, e_seqN, e_seqE, e_seqR, e_blockN, e_blockR, e_blockE, e_nil, e_consN, e_consGI, e_nilD, e_consDN, e_consDGI, e_pure, e_eff, e_call, e_pureD, e_effD1, e_effD2, e_effD3, e_callD2, e_callD3, e_thenP, e_thenE, e_thenL, e_putS, e_putN, e_upd, e_t, e_c, e_none, e_some, e_bindS, p_move, p_bin, p_len, p_conv, p_pick, p_indexAddr, p_slice, p_extract, p_not, b_add, b_sub, b_mul, b_eql, b_neq, b_lss, b_leq, b_gtr, b_geq, l_nil, l_slice, l_sliceU, x_load1, ↓reduceIte, Nat.reduceEqDiff, Nat.reduceAdd, Nat.reduceMul, Nat.reduceSub, reduceCtorEq, Nat.zero_add, Nat.add_zero, Nat.mul_one, w64, wu32, wu64, beqT, beqF, bneT, bneF, dT, dF, a_idx, a_idxU, a_hi, a_hiN, a_sl, r_ro0, r_rw0, r_sl0, r_succ, ints_get, toNat_sub1, nat_toNat, Nat.add_sub_cancel, q_tmp, q_then, k0, k1, k2, k7, k8, k9, k10, k11]
    rw [x_bs1 (v := .bool (th j f g j 0)) (by simp only [e_upd, e_putS, e_putN, e_t, e_c, Nat.reduceEqDiff, ↓reduceIte, reduceCtorEq, Nat.reduceAdd]) rfl]
    simp (disch := omega) only [e_skip, e_ops, e_dops, e_seq, e_condI, e_condFb, e_gTF, e_gFT, e_gU, e_unv, e_bTT, e_bFF, e_bTF, e_bFT, e_beq1, e_beq2, Bool.not_true, Bool.not_false, e_block, e_exit, e_ret, e_seqN, e_seqE, e_seqR, e_blockN, e_blockR, e_blockE, e_nil, e_consN, e_consGI, e_nilD, e_consDN, e_consDGI, e_pure, e_eff, e_call, e_pureD, e_effD1, e_effD2, e_effD3, e_callD2, e_callD3, e_thenP, e_thenE, e_thenL, e_putS, e_putN, e_upd, e_t, e_c, e_none, e_some, e_bindS, p_move, p_bin, p_len, p_conv, p_pick, p_indexAddr, p_slice, p_extract, p_not, b_add, b_sub, b_mul, b_eql, b_neq, b_lss, b_leq, b_gtr, b_geq, l_nil, l_slice, l_sliceU, x_load1, ↓reduceIte, Nat.reduceEqDiff, Nat.reduceAdd, Nat.reduceMul, Nat.reduceSub, reduceCtorEq, Nat.zero_add, Nat.add_zero, Nat.mul_one, w64, wu32, wu64, beqT, beqF, bneT, bneF, dT, dF, a_idx, a_idxU, a_hi, a_hiN, a_sl, r_ro0, r_rw0, r_sl0, r_succ, ints_get, toNat_sub1, nat_toNat, Nat.add_sub_cancel, q_tmp, q_then, k0, k1, k2, k7, k8, k9, k10, k11]
    rw [x_appN (r := 2) (m := 1) (c := 1) (row := ⟨true, false, [.bool (th j f g j 0)]⟩) (xs := [.bool (th j f g j 0)]) (by simp only [e_upd, e_putS, e_putN, e_t, e_c, Nat.reduceEqDiff, ↓reduceIte, reduceCtorEq, Nat.reduceAdd]) (by simp only [e_upd, e_putS, e_putN, e_t, e_c, Nat.reduceEqDiff, ↓reduceIte, reduceCtorEq, Nat.reduceAdd]; rfl) rfl rfl (by simp) (by omega) rfl]
    simp (disch := omega) only [e_skip, e_ops, e_dops, e_seq, e_condI, e_condFb, e_gTF, e_gFT, e_gU, e_unv, e_bTT, e_bFF, e_bTF, e_bFT, e_beq1, e_beq2, Bool.not_true, Bool.not_false, e_block, e_exit, e_ret, e_seqN, e_seqE, e_seqR, e_blockN, e_blockR, e_blockE, e_nil, e_consN, e_consGI, e_nilD, e_consDN, e_consDGI, e_pure, e_eff, e_call, e_pureD, e_effD1, e_effD2, e_effD3, e_callD2, e_callD3, e_thenP, e_thenE, e_thenL, e_putS, e_putN, e_upd, e_t, e_c, e_none, e_some, e_bindS, p_move, p_bin, p_len, p_conv, p_pick, p_indexAddr, p_slice, p_extract, p_not, b_add, b_sub, b_mul, b_eql, b_neq, b_lss, b_leq, b_gtr, b_geq, l_nil, l_slice, l_sliceU, x_load1, ↓reduceIte, Nat.reduceEqDiff, Nat.reduceAdd, Nat.reduceMul, Nat.reduceSub, reduceCtorEq, Nat.zero_add, Nat.add_zero, Nat.mul_one, w64, wu32, wu64, beqT, beqF, bneT, bneF, dT, dF, a_idx, a_idxU, a_hi, a_hiN, a_sl, r_ro0, r_rw0, r_sl0, r_succ, ints_get, toNat_sub1, nat_toNat, Nat.add_sub_cancel, q_tmp, q_then, k0, k1, k2, k8, k9]
    refine loop_gc (m := out - (0 + 1)) [0, 1, 3] rfl ?_ (by omega) ⟨0 + 1, rfl, by omega, ?_, ?_, ?_, ?_, ?_, .inr ⟨by omega, ?_, ?_⟩⟩
    · simp [gcH, Vh.rowAt, ro, rw_, sl, bt_ren, bt_cell, n_lcons, n_lnil, n_bool, AV.cell]
    · exact gc_at (v := mkS κ 0 0 S) (by simp only [e_upd, e_putS, e_putN, e_t, e_c, Nat.reduceEqDiff, ↓reduceIte, reduceCtorEq, Nat.reduceAdd, k0]) (n_mkS0 rfl)
    · exact gc_at (v := mkS κ' 1 0 j) (by simp only [e_upd, e_putS, e_putN, e_t, e_c, Nat.reduceEqDiff, ↓reduceIte, reduceCtorEq, Nat.reduceAdd, k1]) (n_mkS0 rfl)
    · exact gc_at (v := .int .i64 (out : Int)) (by simp only [e_upd, e_putS, e_putN, e_t, e_c, Nat.reduceEqDiff, ↓reduceIte, reduceCtorEq, Nat.reduceAdd, k2]) rfl
    · exact gc_at (v := .int .i64 (j : Int)) (by simp only [e_upd, e_putS, e_putN, e_t, e_c, Nat.reduceEqDiff, ↓reduceIte, reduceCtorEq, Nat.reduceAdd, k8]) rfl
    · exact gc_at (v := .int .i64 (((0 + 1 : Nat)) : Int)) (by simp only [e_upd, e_putS, e_putN, e_t, e_c, Nat.reduceEqDiff, ↓reduceIte, reduceCtorEq, Nat.reduceAdd]; rfl) rfl
    · exact gc_at (v := .sliceU 3 0 1 1) (by simp only [e_upd, e_putS, e_putN, e_t, e_c, Nat.reduceEqDiff, ↓reduceIte, reduceCtorEq, Nat.reduceAdd]; rfl) rfl
    · have hb1 : bt (0 + 1) (th j f g j) = [.bool (th j f g j 0)] := rfl
      rw [hb1]
      simp [gcH, Vh.rowAt, ro, rw_, sl, bt_ren, n_lcons, n_lnil, n_bool]
  · rw [h7] at k7
    simp (disch := omega) only [e_skip, e_ops, e_dops, e_seq, e_condI, e_condFb, e_gTF, e_gFT, e_gU, e_unv, e_bTT, e_bFF, e_bTF, e_bFT, e_beq1, e_beq2, Bool.not_true, Bool.not_false, e_block, e_exit, e_ret, e_seqN, e_seqE, e_seqR, e_blockN, e_blockR, e_blockE, e_nil, e_consN, e_consGI, e_nilD, e_consDN, e_consDGI, e_pure, e_eff, e_call, e_pureD, e_effD1, e_effD2, e_effD3, e_callD2, e_callD3, e_thenP, e_thenE, e_thenL, e_putS, e_putN, e_upd, e_t, e_c, e_none, e_some, e_bindS, p_move, p_bin, p_len, p_conv, p_pick, p_indexAddr, p_slice, p_extract, p_not, b_add, b_sub, b_mul, b_eql, b_neq, b_lss, b_leq, b_gtr, b_geq, l_nil, l_slice, l_sliceU, x_load1, ↓reduceIte, Nat.reduceEqDiff, Nat.reduceAdd, Nat.reduceMul, Nat.reduceSub, reduceCtorEq, Nat.zero_add, Nat.add_zero, Nat.mul_one, w64, wu32, wu64, beqT, beqF, bneT, bneF, dT, dF, a_idx, a_idxU, a_hi, a_hiN, a_sl, r_ro0, r_rw0, r_sl0, r_succ, ints_get, toNat_sub1, nat_toNat, Nat.add_sub_cancel, q_tmp, q_then, k0, k1, k2, k7, k8, k9, k10, k11, List.cons_append, List.nil_append]
    rw [x_bs1 (v := .bool (th j f g j i)) (by simp only [e_upd, e_putS, e_putN, e_t, e_c, Nat.reduceEqDiff, ↓reduceIte, reduceCtorEq, Nat.reduceAdd]) rfl]
    simp (disch := omega) only [e_skip, e_ops, e_dops, e_seq, e_condI, e_condFb, e_gTF, e_gFT, e_gU, e_unv, e_bTT, e_bFF, e_bTF, e_bFT, e_beq1, e_beq2, Bool.not_true, Bool.not_false, e_block, e_exit, e_ret, e_seqN, e_seqE, e_seqR, e_blockN, e_blockR, e_blockE, e_nil, e_consN, e_consGI, e_nilD, e_consDN, e_consDGI, e_pure, e_eff, e_call, e_pureD, e_effD1, e_effD2, e_effD3, e_callD2, e_callD3, e_thenP, e_thenE, e_thenL, e_putS, e_putN, e_upd, e_t, e_c, e_none, e_some, e_bindS, p_move, p_bin, p_len, p_conv, p_pick, p_indexAddr, p_slice, p_extract, p_not, b_add, b_sub, b_mul, b_eql, b_neq, b_lss, b_leq, b_gtr, b_geq, l_nil, l_slice, l_sliceU, x_load1, ↓reduceIte, Nat.reduceEqDiff, Nat.reduceAdd, Nat.reduceMul, Nat.reduceSub, reduceCtorEq, Nat.zero_add, Nat.add_zero, Nat.mul_one, w64, wu32, wu64, beqT, beqF, bneT, bneF, dT, dF, a_idx, a_idxU, a_hi, a_hiN, a_sl, r_ro0, r_rw0, r_sl0, r_succ, ints_get, toNat_sub1, nat_toNat, Nat.add_sub_cancel, q_tmp, q_then, k0, k1, k2, k7, k8, k9, k10, k11, List.cons_append, List.nil_append]
    rw [x_appU (q := 2) (n := i) (r := 3) (m := 1) (c := 1) (row := ⟨true, false, [.bool (th j f g j i)]⟩) (xs := [.bool (th j f g j i)]) (old := bt i (th j f g j)) (by simp only [e_upd, e_putS, e_putN, e_t, e_c, Nat.reduceEqDiff, ↓reduceIte, reduceCtorEq, Nat.reduceAdd]; rfl) (by simp only [e_upd, e_putS, e_putN, e_t, e_c, Nat.reduceEqDiff, ↓reduceIte, reduceCtorEq, Nat.reduceAdd]; rfl) rfl bt_length rfl rfl (by simp) (by omega) rfl]
    simp (disch := omega) only [e_skip, e_ops, e_dops, e_seq, e_condI, e_condFb, e_gTF, e_gFT, e_gU, e_unv, e_bTT, e_bFF, e_bTF, e_bFT, e_beq1, e_beq2, Bool.not_true, Bool.not_false, e_block, e_exit, e_ret, e_seqN, e_seqE, e_seqR, e_blockN, e_blockR, e_blockE, e_nil, e_consN, e_consGI, e_nilD, e_consDN, e_consDGI, e_pure, e_eff, e_call, e_pureD, e_effD1, e_effD2, e_effD3, e_callD2, e_callD3, e_thenP, e_thenE, e_thenL, e_putS, e_putN, e_upd, e_t, e_c, e_none, e_some, e_bindS, p_move, p_bin, p_len, p_conv, p_pick, p_indexAddr, p_slice, p_extract, p_not, b_add, b_sub, b_mul, b_eql, b_neq, b_lss, b_leq, b_gtr, b_geq, l_nil, l_slice, l_sliceU, x_load1, ↓reduceIte, Nat.reduceEqDiff, Nat.reduceAdd, Nat.reduceMul, Nat.reduceSub, reduceCtorEq, Nat.zero_add, Nat.add_zero, Nat.mul_one, w64, wu32, wu64, beqT, beqF, bneT, bneF, dT, dF, a_idx, a_idxU, a_hi, a_hiN, a_sl, r_ro0, r_rw0, r_sl0, r_succ, ints_get, toNat_sub1, nat_toNat, Nat.add_sub_cancel, q_tmp, q_then, k0, k1, k2, k8, k9]
    refine loop_gc (m := out - (i + 1)) [0, 1, 4] rfl ?_ (by omega) ⟨i + 1, rfl, by omega, ?_, ?_, ?_, ?_, ?_, .inr ⟨by omega, ?_, ?_⟩⟩
    · simp [gcH, Vh.rowAt, ro, rw_, sl, bt_ren, bt_cell, bt_app]
    · exact gc_at (v := mkS κ 0 0 S) (by simp only [e_upd, e_putS, e_putN, e_t, e_c, Nat.reduceEqDiff, ↓reduceIte, reduceCtorEq, Nat.reduceAdd, k0]) (n_mkS0 rfl)
    · exact gc_at (v := mkS κ' 1 0 j) (by simp only [e_upd, e_putS, e_putN, e_t, e_c, Nat.reduceEqDiff, ↓reduceIte, reduceCtorEq, Nat.reduceAdd, k1]) (n_mkS0 rfl)
    · exact gc_at (v := .int .i64 (out : Int)) (by simp only [e_upd, e_putS, e_putN, e_t, e_c, Nat.reduceEqDiff, ↓reduceIte, reduceCtorEq, Nat.reduceAdd, k2]) rfl
    · exact gc_at (v := .int .i64 (j : Int)) (by simp only [e_upd, e_putS, e_putN, e_t, e_c, Nat.reduceEqDiff, ↓reduceIte, reduceCtorEq, Nat.reduceAdd, k8]) rfl
    · exact gc_at (v := .int .i64 (((i + 1 : Nat)) : Int)) (by simp only [e_upd, e_putS, e_putN, e_t, e_c, Nat.reduceEqDiff, ↓reduceIte, reduceCtorEq, Nat.reduceAdd]; rfl) rfl
    · exact gc_at (v := .sliceU 4 0 (i + 1) 1) (by simp only [e_upd, e_putS, e_putN, e_t, e_c, Nat.reduceEqDiff, ↓reduceIte, reduceCtorEq, Nat.reduceAdd]; rfl) rfl
    · have : bt (i + 1) (fun k => if k = i then th j f g j i else th j f g j k) = bt (i + 1) (th j f g j) := bt_congr fun k _ => by
        by_cases e : k = i
        · subst e; simp
        · simp [e]
      simp [gcH, Vh.rowAt, ro, rw_, sl, bt_ren, bt_app, this]
end Go.Proofs.Ytfedgjkcbmkjpaa
