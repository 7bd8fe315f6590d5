/- Contracts: counts, sums, what is the same. NEWSET -/
import Derived.Test.YtebijlefkomplabIrP1
import Derived.Test.YtebijlefkomplabW1
set_option linter.unusedSimpArgs false
set_option linter.unusedVariables false
namespace Go.Proofs.Ytebijlefkomplab
open Go Go.Vh

theorem eq0_int (x : Nat) : (((x : Nat) : Int) == 0) = decide (x = 0) := by
  by_cases h : x = 0
  · rw [decide_eq_true h, beq_iff_eq]; omega
  · rw [decide_eq_false h, beq_eq_false_iff_ne]; omega

theorem cast_rem (x : Nat) : (((x : Nat) : Int) % 2 == 1) = decide (x % 2 = 1) := by
  by_cases h : x % 2 = 1
  · rw [decide_eq_true h, beq_iff_eq]; omega
  · rw [decide_eq_false h, beq_eq_false_iff_ne]; omega


def cnt (f : Nat → Bool) : Nat → Nat
  | 0 => 0
  | n + 1 => cnt f n + (if f n then 1 else 0)
theorem cnt_le (f : Nat → Bool) : ∀ n, cnt f n ≤ n
  | 0 => Nat.le_refl _
  | n + 1 => by
    have := cnt_le f n
    simp only [cnt]; split <;> omega
theorem cnt_zero (f : Nat → Bool) : ∀ n, cnt f n = 0 ↔ ∀ i, i < n → f i = false
  | 0 => by simp [cnt]
  | n + 1 => by
    simp only [cnt]
    constructor
    · intro h i hi
      have h1 : cnt f n = 0 := by omega
      have h2 : f n = false := by
        cases e : f n with
        | false => rfl
        | true => rw [e] at h; simp at h
      rcases Nat.eq_or_lt_of_le (Nat.le_of_lt_succ hi) with e | e
      · rw [e]; exact h2
      · exact (cnt_zero f n).1 h1 i e
    · intro h
      rw [h n (by omega), (cnt_zero f n).2 fun i hi => h i (by omega)]
      rfl

theorem rCount_calls (κ : SK) (n : Nat) (f : Nat → Bool) (hk : okS κ n) (hn : n ≤ 1000000) : ACalls Try.prog 60 [mkS κ 0 0 n] [ro (bt n f)] (List.range 1) fun v H => v = .int .i64 ((cnt f n : Nat) : Int) ∧ H = [ro (bt n f)] := by
  refine ACalls.body Try.func60 ent_rCount ir_rCount_ok rs_rCount_ok Try.ntmps60 (by simp) rfl ?_
  unfold ir_rCount
  have e0 : s0 [mkS κ 0 0 n] 0 = mkS κ 0 0 n := rfl
  simp (disch := omega) only [e_skip, e_ops, e_dops, e_seq, e_condI, e_condFb, e_gTF, e_gFT, e_gU, e_unv, e_bTT, e_bFF, e_bTF, e_bFT, e_beq1, e_beq2, Bool.not_true, Bool.not_false, e_block, e_exit, e_ret, e_seqN, e_seqE, e_seqR, e_blockN, e_blockR, e_blockE, e_nil, e_consN, e_consGI, e_nilD, e_consDN, e_consDGI, e_pure, e_eff, e_call, e_pureD, e_effD1, e_effD2, e_effD3, e_callD2, e_callD3, e_thenP, e_thenE, e_thenL, e_putS, e_putN, e_upd, e_t, e_c, e_none, e_some, e_bindS, p_move, p_bin, p_len, p_conv, p_pick, p_indexAddr, p_slice, p_extract, p_not, b_add, b_sub, b_mul, b_eql, b_neq, b_lss, b_leq, b_gtr, b_geq, l_nil, l_slice, l_sliceU, x_load1, ↓reduceIte, Nat.reduceEqDiff, Nat.reduceAdd, Nat.reduceMul, Nat.reduceSub, reduceCtorEq, Nat.zero_add, Nat.add_zero, Nat.mul_one, w64, wu32, wu64, beqT, beqF, bneT, bneF, dT, dF, a_idx, a_idxU, a_hi, a_hiN, a_sl, r_ro0, r_rw0, r_sl0, r_succ, ints_get, toNat_sub1, nat_toNat, Nat.add_sub_cancel, q_tmp, q_then]
  refine ⟨fun m s H => ∃ j, m = n - j ∧ j ≤ n ∧ s 0 = mkS κ 0 0 n ∧ s 3 = .int .i64 ((cnt f j : Nat) : Int) ∧ s 4 = .int .i64 (j : Int) ∧ H = [ro (bt n f)], n, ⟨0, rfl, by omega, ?_, ?_, ?_, rfl⟩, ?_⟩
  · simp only [e_upd, e_putS, e_putN, e_t, e_c, Nat.reduceEqDiff, ↓reduceIte, reduceCtorEq, Nat.reduceAdd, e0]
  · simp only [e_upd, e_putS, e_putN, e_t, e_c, Nat.reduceEqDiff, ↓reduceIte, reduceCtorEq, Nat.reduceAdd]; rfl
  · simp only [e_upd, e_putS, e_putN, e_t, e_c, Nat.reduceEqDiff, ↓reduceIte, reduceCtorEq, Nat.reduceAdd]; rfl
  rintro m s H ⟨j, hm, hj, h0, h3, h4, rfl⟩
  have hc := cnt_le f j
  by_cases hlt : (j : Int) < (n : Int)
  · have hjn : j < n := by omega
    have i0 : aindexAddr 1 (mkS κ 0 0 n) (.int .i64 (j : Int)) = some (.ptr 0 j) := by
      rw [k_idx hk (Nat.le_refl n) (by omega) (by omega)]; simp
    have g0 : (bt n f)[j]? = some (.bool (f j)) := bt_get hjn
    cases hb : f j with
    | true =>
      rw [hb] at g0
      simp (disch := omega) only [e_skip, e_ops, e_dops, e_seq, e_condI, e_condFb, e_gTF, e_gFT, e_gU, e_unv, e_bTT, e_bFF, e_bTF, e_bFT, e_beq1, e_beq2, Bool.not_true, Bool.not_false, e_block, e_exit, e_ret, e_seqN, e_seqE, e_seqR, e_blockN, e_blockR, e_blockE, e_nil, e_consN, e_consGI, e_nilD, e_consDN, e_consDGI, e_pure, e_eff, e_call, e_pureD, e_effD1, e_effD2, e_effD3, e_callD2, e_callD3, e_thenP, e_thenE, e_thenL, e_putS, e_putN, e_upd, e_t, e_c, e_none, e_some, e_bindS, p_move, p_bin, p_len, p_conv, p_pick, p_indexAddr, p_slice, p_extract, p_not, b_add, b_sub, b_mul, b_eql, b_neq, b_lss, b_leq, b_gtr, b_geq, l_nil, l_slice, l_sliceU, x_load1, ↓reduceIte, Nat.reduceEqDiff, Nat.reduceAdd, Nat.reduceMul, Nat.reduceSub, reduceCtorEq, Nat.zero_add, Nat.add_zero, Nat.mul_one, w64, wu32, wu64, beqT, beqF, bneT, bneF, dT, dF, a_idx, a_idxU, a_hi, a_hiN, a_sl, r_ro0, r_rw0, r_sl0, r_succ, ints_get, toNat_sub1, nat_toNat, Nat.add_sub_cancel, q_tmp, q_then, h0, h3, h4, k_len hk, i0, g0]
      refine loop_keep (m := n - (j + 1)) (by omega) ⟨j + 1, rfl, by omega, ?_, ?_, ?_, rfl⟩
      · simp only [e_upd, e_putS, e_putN, e_t, e_c, Nat.reduceEqDiff, ↓reduceIte, reduceCtorEq, Nat.reduceAdd, h0]
      · simp only [e_upd, e_putS, e_putN, e_t, e_c, Nat.reduceEqDiff, ↓reduceIte, reduceCtorEq, Nat.reduceAdd, cnt, hb]; rfl
      · simp only [e_upd, e_putS, e_putN, e_t, e_c, Nat.reduceEqDiff, ↓reduceIte, reduceCtorEq, Nat.reduceAdd]; rfl
    | false =>
      rw [hb] at g0
      simp (disch := omega) only [e_skip, e_ops, e_dops, e_seq, e_condI, e_condFb, e_gTF, e_gFT, e_gU, e_unv, e_bTT, e_bFF, e_bTF, e_bFT, e_beq1, e_beq2, Bool.not_true, Bool.not_false, e_block, e_exit, e_ret, e_seqN, e_seqE, e_seqR, e_blockN, e_blockR, e_blockE, e_nil, e_consN, e_consGI, e_nilD, e_consDN, e_consDGI, e_pure, e_eff, e_call, e_pureD, e_effD1, e_effD2, e_effD3, e_callD2, e_callD3, e_thenP, e_thenE, e_thenL, e_putS, e_putN, e_upd, e_t, e_c, e_none, e_some, e_bindS, p_move, p_bin, p_len, p_conv, p_pick, p_indexAddr, p_slice, p_extract, p_not, b_add, b_sub, b_mul, b_eql, b_neq, b_lss, b_leq, b_gtr, b_geq, l_nil, l_slice, l_sliceU, x_load1, ↓reduceIte, Nat.reduceEqDiff, Nat.reduceAdd, Nat.reduceMul, Nat.reduceSub, reduceCtorEq, Nat.zero_add, Nat.add_zero, Nat.mul_one, w64, wu32, wu64, beqT, beqF, bneT, bneF, dT, dF, a_idx, a_idxU, a_hi, a_hiN, a_sl, r_ro0, r_rw0, r_sl0, r_succ, ints_get, toNat_sub1, nat_toNat, Nat.add_sub_cancel, q_tmp, q_then, h0, h3, h4, k_len hk, i0, g0]
      refine loop_keep (m := n - (j + 1)) (by omega) ⟨j + 1, rfl, by omega, ?_, ?_, ?_, rfl⟩
      · simp only [e_upd, e_putS, e_putN, e_t, e_c, Nat.reduceEqDiff, ↓reduceIte, reduceCtorEq, Nat.reduceAdd, h0]
      · simp only [e_upd, e_putS, e_putN, e_t, e_c, Nat.reduceEqDiff, ↓reduceIte, reduceCtorEq, Nat.reduceAdd, cnt, hb, h3]; rfl
      · simp only [e_upd, e_putS, e_putN, e_t, e_c, Nat.reduceEqDiff, ↓reduceIte, reduceCtorEq, Nat.reduceAdd]; rfl
  · have hjn : j = n := by omega
    subst hjn
    simp (disch := omega) only [e_skip, e_ops, e_dops, e_seq, e_condI, e_condFb, e_gTF, e_gFT, e_gU, e_unv, e_bTT, e_bFF, e_bTF, e_bFT, e_beq1, e_beq2, Bool.not_true, Bool.not_false, e_block, e_exit, e_ret, e_seqN, e_seqE, e_seqR, e_blockN, e_blockR, e_blockE, e_nil, e_consN, e_consGI, e_nilD, e_consDN, e_consDGI, e_pure, e_eff, e_call, e_pureD, e_effD1, e_effD2, e_effD3, e_callD2, e_callD3, e_thenP, e_thenE, e_thenL, e_putS, e_putN, e_upd, e_t, e_c, e_none, e_some, e_bindS, p_move, p_bin, p_len, p_conv, p_pick, p_indexAddr, p_slice, p_extract, p_not, b_add, b_sub, b_mul, b_eql, b_neq, b_lss, b_leq, b_gtr, b_geq, l_nil, l_slice, l_sliceU, x_load1, ↓reduceIte, Nat.reduceEqDiff, Nat.reduceAdd, Nat.reduceMul, Nat.reduceSub, reduceCtorEq, Nat.zero_add, Nat.add_zero, Nat.mul_one, w64, wu32, wu64, beqT, beqF, bneT, bneF, dT, dF, a_idx, a_idxU, a_hi, a_hiN, a_sl, r_ro0, r_rw0, r_sl0, r_succ, ints_get, toNat_sub1, nat_toNat, Nat.add_sub_cancel, q_tmp, q_then, h0, h3, h4, k_len hk]
    refine ret_both (by simp) q_tmp ?_ rfl
    simp only [e_upd, e_putS, e_putN, e_t, e_c, Nat.reduceEqDiff, ↓reduceIte, reduceCtorEq, Nat.reduceAdd, h3]

/-- A list of bools that was appended to, as the row r, where it isn't empty. -/
def grown (base : AHeap) (n : Nat) (h : Nat → Bool) (v : AV) (H : AHeap) : Prop := (n = 0 ∧ v = .nilslice ∧ H = base) ∨ (0 < n ∧ v = .sliceU base.length 0 n 1 ∧ H = base ++ [sl (bt n h)])

theorem rXor_calls (κ κ' : SK) (n : Nat) (f g : Nat → Bool) (hk : okS κ n) (hk' : okS κ' n) (hn : n ≤ 1000000) : ACalls Try.prog 61 [mkS κ 0 0 n, mkS κ' 1 0 n] [ro (bt n f), ro (bt n g)] (List.range 2) fun v H =>
    grown [ro (bt n f), ro (bt n g)] n (fun i => f i != g i) v H := by
  refine ACalls.body Try.func61 ent_rXor ir_rXor_ok rs_rXor_ok Try.ntmps61 (by simp) rfl ?_
  unfold ir_rXor
  have e0 : s0 [mkS κ 0 0 n, mkS κ' 1 0 n] 0 = mkS κ 0 0 n := rfl
  have e1 : s0 [mkS κ 0 0 n, mkS κ' 1 0 n] 1 = mkS κ' 1 0 n := rfl
  simp (disch := omega) only [e_skip, e_ops, e_dops, e_seq, e_condI, e_condFb, e_gTF, e_gFT, e_gU, e_unv, e_bTT, e_bFF, e_bTF, e_bFT, e_beq1, e_beq2, Bool.not_true, Bool.not_false, e_block, e_exit, e_ret, e_seqN, e_seqE, e_seqR, e_blockN, e_blockR, e_blockE, e_nil, e_consN, e_consGI, e_nilD, e_consDN, e_consDGI, e_pure, e_eff, e_call, e_pureD, e_effD1, e_effD2, e_effD3, e_callD2, e_callD3, e_thenP, e_thenE, e_thenL, e_putS, e_putN, e_upd, e_t, e_c, e_none, e_some, e_bindS, p_move, p_bin, p_len, p_conv, p_pick, p_indexAddr, p_slice, p_extract, p_not, b_add, b_sub, b_mul, b_eql, b_neq, b_lss, b_leq, b_gtr, b_geq, l_nil, l_slice, l_sliceU, x_load1, ↓reduceIte, Nat.reduceEqDiff, Nat.reduceAdd, Nat.reduceMul, Nat.reduceSub, reduceCtorEq, Nat.zero_add, Nat.add_zero, Nat.mul_one, w64, wu32, wu64, beqT, beqF, bneT, bneF, dT, dF, a_idx, a_idxU, a_hi, a_hiN, a_sl, r_ro0, r_rw0, r_sl0, r_succ, ints_get, toNat_sub1, nat_toNat, Nat.add_sub_cancel, q_tmp, q_then]
  refine ⟨fun m s H => ∃ j, m = n - j ∧ j ≤ n ∧ s 0 = mkS κ 0 0 n ∧ s 1 = mkS κ' 1 0 n ∧ s 6 = .int .i64 (j : Int) ∧ grown [ro (bt n f), ro (bt n g)] j (fun i => f i != g i) (s 5) H, n, ⟨0, rfl, by omega, ?_, ?_, ?_, .inl ⟨rfl, ?_, rfl⟩⟩, ?_⟩
  · simp only [e_upd, e_putS, e_putN, e_t, e_c, Nat.reduceEqDiff, ↓reduceIte, reduceCtorEq, Nat.reduceAdd, e0]
  · simp only [e_upd, e_putS, e_putN, e_t, e_c, Nat.reduceEqDiff, ↓reduceIte, reduceCtorEq, Nat.reduceAdd, e1]
  · simp only [e_upd, e_putS, e_putN, e_t, e_c, Nat.reduceEqDiff, ↓reduceIte, reduceCtorEq, Nat.reduceAdd]; rfl
  · simp only [e_upd, e_putS, e_putN, e_t, e_c, Nat.reduceEqDiff, ↓reduceIte, reduceCtorEq, Nat.reduceAdd]
  rintro m s H ⟨j, hm, hj, h0, h1, h6, hg⟩
  by_cases hlt : (j : Int) < (n : Int)
  · have hjn : j < n := by omega
    have i0 : aindexAddr 1 (mkS κ 0 0 n) (.int .i64 (j : Int)) = some (.ptr 0 j) := by
      rw [k_idx hk (Nat.le_refl n) (by omega) (by omega)]; simp
    have i1 : aindexAddr 1 (mkS κ' 1 0 n) (.int .i64 (j : Int)) = some (.ptr 1 j) := by
      rw [k_idx hk' (Nat.le_refl n) (by omega) (by omega)]; simp
    have g0 : (bt n f)[j]? = some (.bool (f j)) := bt_get hjn
    have g1 : (bt n g)[j]? = some (.bool (g j)) := bt_get hjn
    rcases hg with ⟨rfl, h5, rfl⟩ | ⟨hpos, h5, rfl⟩
    · simp (disch := omega) only [e_skip, e_ops, e_dops, e_seq, e_condI, e_condFb, e_gTF, e_gFT, e_gU, e_unv, e_bTT, e_bFF, e_bTF, e_bFT, e_beq1, e_beq2, Bool.not_true, Bool.not_false, e_block, e_exit, e_ret, e_seqN, e_seqE, e_seqR, e_blockN, e_blockR, e_blockE, e_nil, e_consN, e_consGI, e_nilD, e_consDN, e_consDGI, e_pure, e_eff, e_call, e_pureD, e_effD1, e_effD2, e_effD3, e_callD2, e_callD3, e_thenP, e_thenE, e_thenL, e_putS, e_putN, e_upd, e_t, e_c, e_none, e_some, e_bindS, p_move, p_bin, p_len, p_conv, p_pick, p_indexAddr, p_slice, p_extract, p_not, b_add, b_sub, b_mul, b_eql, b_neq, b_lss, b_leq, b_gtr, b_geq, l_nil, l_slice, l_sliceU, x_load1, ↓reduceIte, Nat.reduceEqDiff, Nat.reduceAdd, Nat.reduceMul, Nat.reduceSub, reduceCtorEq, Nat.zero_add, Nat.add_zero, Nat.mul_one, w64, wu32, wu64, beqT, beqF, bneT, bneF, dT, dF, a_idx, a_idxU, a_hi, a_hiN, a_sl, r_ro0, r_rw0, r_sl0, r_succ, ints_get, toNat_sub1, nat_toNat, Nat.add_sub_cancel, q_tmp, q_then, h0, h1, h5, h6, k_len hk, i0, i1, g0, g1, p_binB]
      rw [x_bs1 (v := .bool (f 0 != g 0)) (by simp only [e_upd, e_putS, e_putN, e_t, e_c, Nat.reduceEqDiff, ↓reduceIte, reduceCtorEq, Nat.reduceAdd]; rfl) rfl]
      simp (disch := omega) only [e_skip, e_ops, e_dops, e_seq, e_condI, e_condFb, e_gTF, e_gFT, e_gU, e_unv, e_bTT, e_bFF, e_bTF, e_bFT, e_beq1, e_beq2, Bool.not_true, Bool.not_false, e_block, e_exit, e_ret, e_seqN, e_seqE, e_seqR, e_blockN, e_blockR, e_blockE, e_nil, e_consN, e_consGI, e_nilD, e_consDN, e_consDGI, e_pure, e_eff, e_call, e_pureD, e_effD1, e_effD2, e_effD3, e_callD2, e_callD3, e_thenP, e_thenE, e_thenL, e_putS, e_putN, e_upd, e_t, e_c, e_none, e_some, e_bindS, p_move, p_bin, p_len, p_conv, p_pick, p_indexAddr, p_slice, p_extract, p_not, b_add, b_sub, b_mul, b_eql, b_neq, b_lss, b_leq, b_gtr, b_geq, l_nil, l_slice, l_sliceU, x_load1, ↓reduceIte, Nat.reduceEqDiff, Nat.reduceAdd, Nat.reduceMul, Nat.reduceSub, reduceCtorEq, Nat.zero_add, Nat.add_zero, Nat.mul_one, w64, wu32, wu64, beqT, beqF, bneT, bneF, dT, dF, a_idx, a_idxU, a_hi, a_hiN, a_sl, r_ro0, r_rw0, r_sl0, r_succ, ints_get, toNat_sub1, nat_toNat, Nat.add_sub_cancel, q_tmp, q_then, h0, h1, h5, h6]
      rw [x_appN (r := 2) (m := 1) (c := 1) (row := ⟨true, false, [.bool (f 0 != g 0)]⟩) (xs := [.bool (f 0 != g 0)]) (by simp only [e_upd, e_putS, e_putN, e_t, e_c, Nat.reduceEqDiff, ↓reduceIte, reduceCtorEq, Nat.reduceAdd, h5]) (by simp only [e_upd, e_putS, e_putN, e_t, e_c, Nat.reduceEqDiff, ↓reduceIte, reduceCtorEq, Nat.reduceAdd]; rfl) rfl rfl (by simp) (by omega) rfl]
      simp (disch := omega) only [e_skip, e_ops, e_dops, e_seq, e_condI, e_condFb, e_gTF, e_gFT, e_gU, e_unv, e_bTT, e_bFF, e_bTF, e_bFT, e_beq1, e_beq2, Bool.not_true, Bool.not_false, e_block, e_exit, e_ret, e_seqN, e_seqE, e_seqR, e_blockN, e_blockR, e_blockE, e_nil, e_consN, e_consGI, e_nilD, e_consDN, e_consDGI, e_pure, e_eff, e_call, e_pureD, e_effD1, e_effD2, e_effD3, e_callD2, e_callD3, e_thenP, e_thenE, e_thenL, e_putS, e_putN, e_upd, e_t, e_c, e_none, e_some, e_bindS, p_move, p_bin, p_len, p_conv, p_pick, p_indexAddr, p_slice, p_extract, p_not, b_add, b_sub, b_mul, b_eql, b_neq, b_lss, b_leq, b_gtr, b_geq, l_nil, l_slice, l_sliceU, x_load1, ↓reduceIte, Nat.reduceEqDiff, Nat.reduceAdd, Nat.reduceMul, Nat.reduceSub, reduceCtorEq, Nat.zero_add, Nat.add_zero, Nat.mul_one, w64, wu32, wu64, beqT, beqF, bneT, bneF, dT, dF, a_idx, a_idxU, a_hi, a_hiN, a_sl, r_ro0, r_rw0, r_sl0, r_succ, ints_get, toNat_sub1, nat_toNat, Nat.add_sub_cancel, q_tmp, q_then, h0, h1, h6]
      refine loop_gc (m := n - (0 + 1)) [0, 1, 3] rfl ?_ (by omega) ⟨0 + 1, rfl, by omega, ?_, ?_, ?_, .inr ⟨by omega, ?_, ?_⟩⟩
      · simp [gcH, Vh.rowAt, ro, rw_, sl, bt_ren, bt_cell, n_lcons, n_lnil, n_bool, AV.cell]
      · exact gc_at (v := mkS κ 0 0 n) (by simp only [e_upd, e_putS, e_putN, e_t, e_c, Nat.reduceEqDiff, ↓reduceIte, reduceCtorEq, Nat.reduceAdd, h0]) (n_mkS0 rfl)
      · exact gc_at (v := mkS κ' 1 0 n) (by simp only [e_upd, e_putS, e_putN, e_t, e_c, Nat.reduceEqDiff, ↓reduceIte, reduceCtorEq, Nat.reduceAdd, h1]) (n_mkS0 rfl)
      · exact gc_at (v := .int .i64 (((0 + 1 : Nat)) : Int)) (by simp only [e_upd, e_putS, e_putN, e_t, e_c, Nat.reduceEqDiff, ↓reduceIte, reduceCtorEq, Nat.reduceAdd]; rfl) rfl
      · exact gc_at (v := .sliceU 3 0 1 1) (by simp only [e_upd, e_putS, e_putN, e_t, e_c, Nat.reduceEqDiff, ↓reduceIte, reduceCtorEq, Nat.reduceAdd]; rfl) rfl
      · have hb1 : bt (0 + 1) (fun i => f i != g i) = [.bool (f 0 != g 0)] := rfl
        rw [hb1]
        simp [gcH, Vh.rowAt, ro, rw_, sl, bt_ren, n_lcons, n_lnil, n_bool]
    · simp (disch := omega) only [e_skip, e_ops, e_dops, e_seq, e_condI, e_condFb, e_gTF, e_gFT, e_gU, e_unv, e_bTT, e_bFF, e_bTF, e_bFT, e_beq1, e_beq2, Bool.not_true, Bool.not_false, e_block, e_exit, e_ret, e_seqN, e_seqE, e_seqR, e_blockN, e_blockR, e_blockE, e_nil, e_consN, e_consGI, e_nilD, e_consDN, e_consDGI, e_pure, e_eff, e_call, e_pureD, e_effD1, e_effD2, e_effD3, e_callD2, e_callD3, e_thenP, e_thenE, e_thenL, e_putS, e_putN, e_upd, e_t, e_c, e_none, e_some, e_bindS, p_move, p_bin, p_len, p_conv, p_pick, p_indexAddr, p_slice, p_extract, p_not, b_add, b_sub, b_mul, b_eql, b_neq, b_lss, b_leq, b_gtr, b_geq, l_nil, l_slice, l_sliceU, x_load1, ↓reduceIte, Nat.reduceEqDiff, Nat.reduceAdd, Nat.reduceMul, Nat.reduceSub, reduceCtorEq, Nat.zero_add, Nat.add_zero, Nat.mul_one, w64, wu32, wu64, beqT, beqF, bneT, bneF, dT, dF, a_idx, a_idxU, a_hi, a_hiN, a_sl, r_ro0, r_rw0, r_sl0, r_succ, ints_get, toNat_sub1, nat_toNat, Nat.add_sub_cancel, q_tmp, q_then, h0, h1, h5, h6, k_len hk, i0, i1, g0, g1, p_binB, List.cons_append, List.nil_append]
      rw [x_bs1 (v := .bool (f j != g j)) (by simp only [e_upd, e_putS, e_putN, e_t, e_c, Nat.reduceEqDiff, ↓reduceIte, reduceCtorEq, Nat.reduceAdd]; rfl) rfl]
      simp (disch := omega) only [e_skip, e_ops, e_dops, e_seq, e_condI, e_condFb, e_gTF, e_gFT, e_gU, e_unv, e_bTT, e_bFF, e_bTF, e_bFT, e_beq1, e_beq2, Bool.not_true, Bool.not_false, e_block, e_exit, e_ret, e_seqN, e_seqE, e_seqR, e_blockN, e_blockR, e_blockE, e_nil, e_consN, e_consGI, e_nilD, e_consDN, e_consDGI, e_pure, e_eff, e_call, e_pureD, e_effD1, e_effD2, e_effD3, e_callD2, e_callD3, e_thenP, e_thenE, e_thenL, e_putS, e_putN, e_upd, e_t, e_c, e_none, e_some, e_bindS, p_move, p_bin, p_len, p_conv, p_pick, p_indexAddr, p_slice, p_extract, p_not, b_add, b_sub, b_mul, b_eql, b_neq, b_lss, b_leq, b_gtr, b_geq, l_nil, l_slice, l_sliceU, x_load1, ↓reduceIte, Nat.reduceEqDiff, Nat.reduceAdd, Nat.reduceMul, Nat.reduceSub, reduceCtorEq, Nat.zero_add, Nat.add_zero, Nat.mul_one, w64, wu32, wu64, beqT, beqF, bneT, bneF, dT, dF, a_idx, a_idxU, a_hi, a_hiN, a_sl, r_ro0, r_rw0, r_sl0, r_succ, ints_get, toNat_sub1, nat_toNat, Nat.add_sub_cancel, q_tmp, q_then, h0, h1, h5, h6, List.cons_append, List.nil_append]
      rw [x_appU (q := 2) (n := j) (r := 3) (m := 1) (c := 1) (row := ⟨true, false, [.bool (f j != g j)]⟩) (xs := [.bool (f j != g j)]) (old := bt j fun i => f i != g i) (by simp only [e_upd, e_putS, e_putN, e_t, e_c, Nat.reduceEqDiff, ↓reduceIte, reduceCtorEq, Nat.reduceAdd, h5]; rfl) (by simp only [e_upd, e_putS, e_putN, e_t, e_c, Nat.reduceEqDiff, ↓reduceIte, reduceCtorEq, Nat.reduceAdd]; rfl) rfl bt_length rfl rfl (by simp) (by omega) rfl]
      simp (disch := omega) only [e_skip, e_ops, e_dops, e_seq, e_condI, e_condFb, e_gTF, e_gFT, e_gU, e_unv, e_bTT, e_bFF, e_bTF, e_bFT, e_beq1, e_beq2, Bool.not_true, Bool.not_false, e_block, e_exit, e_ret, e_seqN, e_seqE, e_seqR, e_blockN, e_blockR, e_blockE, e_nil, e_consN, e_consGI, e_nilD, e_consDN, e_consDGI, e_pure, e_eff, e_call, e_pureD, e_effD1, e_effD2, e_effD3, e_callD2, e_callD3, e_thenP, e_thenE, e_thenL, e_putS, e_putN, e_upd, e_t, e_c, e_none, e_some, e_bindS, p_move, p_bin, p_len, p_conv, p_pick, p_indexAddr, p_slice, p_extract, p_not, b_add, b_sub, b_mul, b_eql, b_neq, b_lss, b_leq, b_gtr, b_geq, l_nil, l_slice, l_sliceU, x_load1, ↓reduceIte, Nat.reduceEqDiff, Nat.reduceAdd, Nat.reduceMul, Nat.reduceSub, reduceCtorEq, Nat.zero_add, Nat.add_zero, Nat.mul_one, w64, wu32, wu64, beqT, beqF, bneT, bneF, dT, dF, a_idx, a_idxU, a_hi, a_hiN, a_sl, r_ro0, r_rw0, r_sl0, r_succ, ints_get, toNat_sub1, nat_toNat, Nat.add_sub_cancel, q_tmp, q_then, h0, h1, h6]
      refine loop_gc (m := n - (j + 1)) [0, 1, 4] rfl ?_ (by omega) ⟨j + 1, rfl, by omega, ?_, ?_, ?_, .inr ⟨by omega, ?_, ?_⟩⟩
      · simp [gcH, Vh.rowAt, ro, rw_, sl, bt_ren, bt_cell, bt_app]
      · exact gc_at (v := mkS κ 0 0 n) (by simp only [e_upd, e_putS, e_putN, e_t, e_c, Nat.reduceEqDiff, ↓reduceIte, reduceCtorEq, Nat.reduceAdd, h0]) (n_mkS0 rfl)
      · exact gc_at (v := mkS κ' 1 0 n) (by simp only [e_upd, e_putS, e_putN, e_t, e_c, Nat.reduceEqDiff, ↓reduceIte, reduceCtorEq, Nat.reduceAdd, h1]) (n_mkS0 rfl)
      · exact gc_at (v := .int .i64 (((j + 1 : Nat)) : Int)) (by simp only [e_upd, e_putS, e_putN, e_t, e_c, Nat.reduceEqDiff, ↓reduceIte, reduceCtorEq, Nat.reduceAdd]; rfl) rfl
      · exact gc_at (v := .sliceU 4 0 (j + 1) 1) (by simp only [e_upd, e_putS, e_putN, e_t, e_c, Nat.reduceEqDiff, ↓reduceIte, reduceCtorEq, Nat.reduceAdd]; rfl) rfl
      · have : bt (j + 1) (fun i => if i = j then (f j != g j) else (f i != g i)) = bt (j + 1) (fun i => f i != g i) := bt_congr fun i _ => by
          by_cases e : i = j
          · subst e; simp
          · simp [e]
        simp [gcH, Vh.rowAt, ro, rw_, sl, bt_ren, bt_app, this]
  · have hjn : j = n := by omega
    subst hjn
    simp (disch := omega) only [e_skip, e_ops, e_dops, e_seq, e_condI, e_condFb, e_gTF, e_gFT, e_gU, e_unv, e_bTT, e_bFF, e_bTF, e_bFT, e_beq1, e_beq2, Bool.not_true, Bool.not_false, e_block, e_exit, e_ret, e_seqN, e_seqE, e_seqR, e_blockN, e_blockR, e_blockE, e_nil, e_consN, e_consGI, e_nilD, e_consDN, e_consDGI, e_pure, e_eff, e_call, e_pureD, e_effD1, e_effD2, e_effD3, e_callD2, e_callD3, e_thenP, e_thenE, e_thenL, e_putS, e_putN, e_upd, e_t, e_c, e_none, e_some, e_bindS, p_move, p_bin, p_len, p_conv, p_pick, p_indexAddr, p_slice, p_extract, p_not, b_add, b_sub, b_mul, b_eql, b_neq, b_lss, b_leq, b_gtr, b_geq, l_nil, l_slice, l_sliceU, x_load1, ↓reduceIte, Nat.reduceEqDiff, Nat.reduceAdd, Nat.reduceMul, Nat.reduceSub, reduceCtorEq, Nat.zero_add, Nat.add_zero, Nat.mul_one, w64, wu32, wu64, beqT, beqF, bneT, bneF, dT, dF, a_idx, a_idxU, a_hi, a_hiN, a_sl, r_ro0, r_rw0, r_sl0, r_succ, ints_get, toNat_sub1, nat_toNat, Nat.add_sub_cancel, q_tmp, q_then, h0, h1, h6, k_len hk]
    refine ret_keep ?_ ?_
    · rcases hg with ⟨_, _, rfl⟩ | ⟨_, _, rfl⟩ <;> simp
    · unfold rs_rXor; rw [q_tmp, q_then]
      simp only [e_upd, e_putS, e_putN, e_t, e_c, Nat.reduceEqDiff, ↓reduceIte, reduceCtorEq, Nat.reduceAdd]
      exact hg

def sameB (n m : Nat) (f g : Nat → Bool) : Bool := decide (n = m ∧ ∀ i, i < n → f i = g i)

theorem rSame2_calls (κ κ' : SK) (n m : Nat) (f g : Nat → Bool) (hk : okS κ n) (hk' : okS κ' m) (hn : n ≤ 1000000) (hm : m ≤ 1000000) : ACalls Try.prog 20 [mkS κ 0 0 n, mkS κ' 1 0 m] [ro (bt n f), ro (bt m g)] (List.range 2) fun v H =>
    v = .bool (sameB n m f g) ∧ H = [ro (bt n f), ro (bt m g)] := by
  refine ACalls.body Try.func20 ent_rSame ir_rSame_ok rs_rSame_ok Try.ntmps20 (by simp) rfl ?_
  unfold ir_rSame
  have e0 : s0 [mkS κ 0 0 n, mkS κ' 1 0 m] 0 = mkS κ 0 0 n := rfl
  have e1 : s0 [mkS κ 0 0 n, mkS κ' 1 0 m] 1 = mkS κ' 1 0 m := rfl
  by_cases h : n = m
  case neg =>
    have hne : (n : Int) ≠ (m : Int) := by omega
    simp (disch := omega) only [e_skip, e_ops, e_dops, e_seq, e_condI, e_condFb, e_gTF, e_gFT, e_gU, e_unv, e_bTT, e_bFF, e_bTF, e_bFT, e_beq1, e_beq2, Bool.not_true, Bool.not_false, e_block, e_exit, e_ret, e_seqN, e_seqE, e_seqR, e_blockN, e_blockR, e_blockE, e_nil, e_consN, e_consGI, e_nilD, e_consDN, e_consDGI, e_pure, e_eff, e_call, e_pureD, e_effD1, e_effD2, e_effD3, e_callD2, e_callD3, e_thenP, e_thenE, e_thenL, e_putS, e_putN, e_upd, e_t, e_c, e_none, e_some, e_bindS, p_move, p_bin, p_len, p_conv, p_pick, p_indexAddr, p_slice, p_extract, p_not, b_add, b_sub, b_mul, b_eql, b_neq, b_lss, b_leq, b_gtr, b_geq, l_nil, l_slice, l_sliceU, x_load1, ↓reduceIte, Nat.reduceEqDiff, Nat.reduceAdd, Nat.reduceMul, Nat.reduceSub, reduceCtorEq, Nat.zero_add, Nat.add_zero, Nat.mul_one, w64, wu32, wu64, beqT, beqF, bneT, bneF, dT, dF, a_idx, a_idxU, a_hi, a_hiN, a_sl, r_ro0, r_rw0, r_sl0, r_succ, ints_get, toNat_sub1, nat_toNat, Nat.add_sub_cancel, q_tmp, q_then, e0, e1, k_len hk, k_len hk']
    refine ret_both (by simp) q_tmp ?_ rfl
    simp only [e_upd, e_putS, e_putN, e_t, e_c, Nat.reduceEqDiff, ↓reduceIte, reduceCtorEq, Nat.reduceAdd, sameB, h, false_and, decide_false]
  subst h
  have hsame : sameB n n f g = decide (∀ i, i < n → f i = g i) := by simp [sameB]
  rw [hsame]
  simp (disch := omega) only [e_skip, e_ops, e_dops, e_seq, e_condI, e_condFb, e_gTF, e_gFT, e_gU, e_unv, e_bTT, e_bFF, e_bTF, e_bFT, e_beq1, e_beq2, Bool.not_true, Bool.not_false, e_block, e_exit, e_ret, e_seqN, e_seqE, e_seqR, e_blockN, e_blockR, e_blockE, e_nil, e_consN, e_consGI, e_nilD, e_consDN, e_consDGI, e_pure, e_eff, e_call, e_pureD, e_effD1, e_effD2, e_effD3, e_callD2, e_callD3, e_thenP, e_thenE, e_thenL, e_putS, e_putN, e_upd, e_t, e_c, e_none, e_some, e_bindS, p_move, p_bin, p_len, p_conv, p_pick, p_indexAddr, p_slice, p_extract, p_not, b_add, b_sub, b_mul, b_eql, b_neq, b_lss, b_leq, b_gtr, b_geq, l_nil, l_slice, l_sliceU, x_load1, ↓reduceIte, Nat.reduceEqDiff, Nat.reduceAdd, Nat.reduceMul, Nat.reduceSub, reduceCtorEq, Nat.zero_add, Nat.add_zero, Nat.mul_one, w64, wu32, wu64, beqT, beqF, bneT, bneF, dT, dF, a_idx, a_idxU, a_hi, a_hiN, a_sl, r_ro0, r_rw0, r_sl0, r_succ, ints_get, toNat_sub1, nat_toNat, Nat.add_sub_cancel, q_tmp, q_then, e0, e1, k_len hk, k_len hk']
  have fin : (decide ((cnt (fun i => f i != g i) n : Nat) = 0)) = decide (∀ i, i < n → f i = g i) := by
    apply decide_eq_decide.2
    rw [cnt_zero]
    constructor
    · intro h i hi; simpa using h i hi
    · intro h i hi; simpa using h i hi
  have fin2 : (((cnt (fun i => f i != g i) n : Nat) : Int) == 0) = decide (∀ i, i < n → f i = g i) := by rw [eq0_int, fin]
  refine call_bb (a := 0) (b := 1) (da := 0) (db := 0) (rest := []) (rXor_calls κ κ' n f g hk hk' hn) rfl rfl rfl (by simp [bt_length]) (by simp [bt_length]) (by simp [bt_take]) (by simp [bt_take]) rfl ?_
  rintro v0 H0' (⟨hz, rfl, rfl⟩ | ⟨hpos, rfl, rfl⟩)
  · subst hz
    simp (disch := omega) only [e_skip, e_ops, e_dops, e_seq, e_condI, e_condFb, e_gTF, e_gFT, e_gU, e_unv, e_bTT, e_bFF, e_bTF, e_bFT, e_beq1, e_beq2, Bool.not_true, Bool.not_false, e_block, e_exit, e_ret, e_seqN, e_seqE, e_seqR, e_blockN, e_blockR, e_blockE, e_nil, e_consN, e_consGI, e_nilD, e_consDN, e_consDGI, e_pure, e_eff, e_call, e_pureD, e_effD1, e_effD2, e_effD3, e_callD2, e_callD3, e_thenP, e_thenE, e_thenL, e_putS, e_putN, e_upd, e_t, e_c, e_none, e_some, e_bindS, p_move, p_bin, p_len, p_conv, p_pick, p_indexAddr, p_slice, p_extract, p_not, b_add, b_sub, b_mul, b_eql, b_neq, b_lss, b_leq, b_gtr, b_geq, l_nil, l_slice, l_sliceU, x_load1, ↓reduceIte, Nat.reduceEqDiff, Nat.reduceAdd, Nat.reduceMul, Nat.reduceSub, reduceCtorEq, Nat.zero_add, Nat.add_zero, Nat.mul_one, w64, wu32, wu64, beqT, beqF, bneT, bneF, dT, dF, a_idx, a_idxU, a_hi, a_hiN, a_sl, r_ro0, r_rw0, r_sl0, r_succ, ints_get, toNat_sub1, nat_toNat, Nat.add_sub_cancel, q_tmp, q_then]
    refine call_b (κ := .nil) (n := 0) (m := 0) (a := 0) (da := 0) (g := fun i => f i != g i) (rest := []) (rCount_calls .nil 0 _ rfl (by omega)) rfl rfl (by simp) (by simp [bt]) rfl ?_
    rintro v0 H0' ⟨rfl, rfl⟩
    simp (disch := omega) only [e_skip, e_ops, e_dops, e_seq, e_condI, e_condFb, e_gTF, e_gFT, e_gU, e_unv, e_bTT, e_bFF, e_bTF, e_bFT, e_beq1, e_beq2, Bool.not_true, Bool.not_false, e_block, e_exit, e_ret, e_seqN, e_seqE, e_seqR, e_blockN, e_blockR, e_blockE, e_nil, e_consN, e_consGI, e_nilD, e_consDN, e_consDGI, e_pure, e_eff, e_call, e_pureD, e_effD1, e_effD2, e_effD3, e_callD2, e_callD3, e_thenP, e_thenE, e_thenL, e_putS, e_putN, e_upd, e_t, e_c, e_none, e_some, e_bindS, p_move, p_bin, p_len, p_conv, p_pick, p_indexAddr, p_slice, p_extract, p_not, b_add, b_sub, b_mul, b_eql, b_neq, b_lss, b_leq, b_gtr, b_geq, l_nil, l_slice, l_sliceU, x_load1, ↓reduceIte, Nat.reduceEqDiff, Nat.reduceAdd, Nat.reduceMul, Nat.reduceSub, reduceCtorEq, Nat.zero_add, Nat.add_zero, Nat.mul_one, w64, wu32, wu64, beqT, beqF, bneT, bneF, dT, dF, a_idx, a_idxU, a_hi, a_hiN, a_sl, r_ro0, r_rw0, r_sl0, r_succ, ints_get, toNat_sub1, nat_toNat, Nat.add_sub_cancel, q_tmp, q_then, fin2]
    exact ret_both (by simp) q_tmp (by simp only [e_upd, e_putS, e_putN, e_t, e_c, Nat.reduceEqDiff, ↓reduceIte, reduceCtorEq, Nat.reduceAdd]; rfl) (by simp)
  · simp (disch := omega) only [e_skip, e_ops, e_dops, e_seq, e_condI, e_condFb, e_gTF, e_gFT, e_gU, e_unv, e_bTT, e_bFF, e_bTF, e_bFT, e_beq1, e_beq2, Bool.not_true, Bool.not_false, e_block, e_exit, e_ret, e_seqN, e_seqE, e_seqR, e_blockN, e_blockR, e_blockE, e_nil, e_consN, e_consGI, e_nilD, e_consDN, e_consDGI, e_pure, e_eff, e_call, e_pureD, e_effD1, e_effD2, e_effD3, e_callD2, e_callD3, e_thenP, e_thenE, e_thenL, e_putS, e_putN, e_upd, e_t, e_c, e_none, e_some, e_bindS, p_move, p_bin, p_len, p_conv, p_pick, p_indexAddr, p_slice, p_extract, p_not, b_add, b_sub, b_mul, b_eql, b_neq, b_lss, b_leq, b_gtr, b_geq, l_nil, l_slice, l_sliceU, x_load1, ↓reduceIte, Nat.reduceEqDiff, Nat.reduceAdd, Nat.reduceMul, Nat.reduceSub, reduceCtorEq, Nat.zero_add, Nat.add_zero, Nat.mul_one, w64, wu32, wu64, beqT, beqF, bneT, bneF, dT, dF, a_idx, a_idxU, a_hi, a_hiN, a_sl, r_ro0, r_rw0, r_sl0, r_succ, ints_get, toNat_sub1, nat_toNat, Nat.add_sub_cancel, q_tmp, q_then]
    refine call_b (κ := .u) (n := n) (m := n) (a := 2) (da := 0) (g := fun i => f i != g i) (rest := []) (rCount_calls .u n _ trivial hn) rfl rfl ?_ ?_ rfl ?_
    · simp [bt_length, sl, renRow, bt_ren]
    · simp [bt_ren, bt_take]
    rintro v0 H0' ⟨rfl, rfl⟩
    rw [n_int]
    simp (disch := omega) only [e_skip, e_ops, e_dops, e_seq, e_condI, e_condFb, e_gTF, e_gFT, e_gU, e_unv, e_bTT, e_bFF, e_bTF, e_bFT, e_beq1, e_beq2, Bool.not_true, Bool.not_false, e_block, e_exit, e_ret, e_seqN, e_seqE, e_seqR, e_blockN, e_blockR, e_blockE, e_nil, e_consN, e_consGI, e_nilD, e_consDN, e_consDGI, e_pure, e_eff, e_call, e_pureD, e_effD1, e_effD2, e_effD3, e_callD2, e_callD3, e_thenP, e_thenE, e_thenL, e_putS, e_putN, e_upd, e_t, e_c, e_none, e_some, e_bindS, p_move, p_bin, p_len, p_conv, p_pick, p_indexAddr, p_slice, p_extract, p_not, b_add, b_sub, b_mul, b_eql, b_neq, b_lss, b_leq, b_gtr, b_geq, l_nil, l_slice, l_sliceU, x_load1, ↓reduceIte, Nat.reduceEqDiff, Nat.reduceAdd, Nat.reduceMul, Nat.reduceSub, reduceCtorEq, Nat.zero_add, Nat.add_zero, Nat.mul_one, w64, wu32, wu64, beqT, beqF, bneT, bneF, dT, dF, a_idx, a_idxU, a_hi, a_hiN, a_sl, r_ro0, r_rw0, r_sl0, r_succ, ints_get, toNat_sub1, nat_toNat, Nat.add_sub_cancel, q_tmp, q_then, fin2]
    refine ret_gc [0, 1] rfl ?_ (by simp) ?_
    · simp [gcH, Vh.rowAt, ro, bt_ren, bt_cell]
    · unfold rs_rSame; rw [q_tmp, q_then]
      refine ⟨gc_at (v := .bool (decide (∀ i, i < n → f i = g i))) (by simp only [e_upd, e_putS, e_putN, e_t, e_c, Nat.reduceEqDiff, ↓reduceIte, reduceCtorEq, Nat.reduceAdd]) rfl, ?_⟩
      simp [gcH, Vh.rowAt, ro, bt_ren]

theorem aCount_calls (κ : SK) (n : Nat) (f : Nat → Bool) (hk : okS κ n) (hn : n ≤ 1000000) : ACalls Try.prog 57 [mkS κ 0 0 n] [ro (bt n f)] (List.range 1) fun v H => v = .int .i64 ((cnt f n : Nat) : Int) ∧ H = [ro (bt n f)] := by
  refine ACalls.body Try.func57 ent_aCount ir_aCount_ok rs_aCount_ok Try.ntmps57 (by simp) rfl ?_
  unfold ir_aCount
  have e0 : s0 [mkS κ 0 0 n] 0 = mkS κ 0 0 n := rfl
  simp (disch := omega) only [e_skip, e_ops, e_dops, e_seq, e_condI, e_condFb, e_gTF, e_gFT, e_gU, e_unv, e_bTT, e_bFF, e_bTF, e_bFT, e_beq1, e_beq2, Bool.not_true, Bool.not_false, e_block, e_exit, e_ret, e_seqN, e_seqE, e_seqR, e_blockN, e_blockR, e_blockE, e_nil, e_consN, e_consGI, e_nilD, e_consDN, e_consDGI, e_pure, e_eff, e_call, e_pureD, e_effD1, e_effD2, e_effD3, e_callD2, e_callD3, e_thenP, e_thenE, e_thenL, e_putS, e_putN, e_upd, e_t, e_c, e_none, e_some, e_bindS, p_move, p_bin, p_len, p_conv, p_pick, p_indexAddr, p_slice, p_extract, p_not, b_add, b_sub, b_mul, b_eql, b_neq, b_lss, b_leq, b_gtr, b_geq, l_nil, l_slice, l_sliceU, x_load1, ↓reduceIte, Nat.reduceEqDiff, Nat.reduceAdd, Nat.reduceMul, Nat.reduceSub, reduceCtorEq, Nat.zero_add, Nat.add_zero, Nat.mul_one, w64, wu32, wu64, beqT, beqF, bneT, bneF, dT, dF, a_idx, a_idxU, a_hi, a_hiN, a_sl, r_ro0, r_rw0, r_sl0, r_succ, ints_get, toNat_sub1, nat_toNat, Nat.add_sub_cancel, q_tmp, q_then, e0, k_len hk]
  refine ⟨fun m s H => ∃ j, m = n - j ∧ j ≤ n ∧ s 6 = mkS κ 0 0 n ∧ s 7 = .int .i64 (n : Int) ∧ s 3 = .int .i64 ((cnt f j : Nat) : Int) ∧ s 8 = .int .i64 (j : Int) ∧ H = [ro (bt n f)], n, ⟨0, rfl, by omega, ?_, ?_, ?_, ?_, rfl⟩, ?_⟩
  · simp only [e_upd, e_putS, e_putN, e_t, e_c, Nat.reduceEqDiff, ↓reduceIte, reduceCtorEq, Nat.reduceAdd]
  · simp only [e_upd, e_putS, e_putN, e_t, e_c, Nat.reduceEqDiff, ↓reduceIte, reduceCtorEq, Nat.reduceAdd]
  · simp only [e_upd, e_putS, e_putN, e_t, e_c, Nat.reduceEqDiff, ↓reduceIte, reduceCtorEq, Nat.reduceAdd]; rfl
  · simp only [e_upd, e_putS, e_putN, e_t, e_c, Nat.reduceEqDiff, ↓reduceIte, reduceCtorEq, Nat.reduceAdd]; rfl
  rintro m s H ⟨j, hm, hj, h6, h7, h3, h8, rfl⟩
  have hc := cnt_le f j
  by_cases hlt : (j : Int) < (n : Int)
  · have hjn : j < n := by omega
    have i0 : aindexAddr 1 (mkS κ 0 0 n) (.int .i64 (j : Int)) = some (.ptr 0 j) := by
      rw [k_idx hk (Nat.le_refl n) (by omega) (by omega)]; simp
    have g0 : (bt n f)[j]? = some (.bool (f j)) := bt_get hjn
    cases hb : f j with
    | true =>
      rw [hb] at g0
      simp (disch := omega) only [e_skip, e_ops, e_dops, e_seq, e_condI, e_condFb, e_gTF, e_gFT, e_gU, e_unv, e_bTT, e_bFF, e_bTF, e_bFT, e_beq1, e_beq2, Bool.not_true, Bool.not_false, e_block, e_exit, e_ret, e_seqN, e_seqE, e_seqR, e_blockN, e_blockR, e_blockE, e_nil, e_consN, e_consGI, e_nilD, e_consDN, e_consDGI, e_pure, e_eff, e_call, e_pureD, e_effD1, e_effD2, e_effD3, e_callD2, e_callD3, e_thenP, e_thenE, e_thenL, e_putS, e_putN, e_upd, e_t, e_c, e_none, e_some, e_bindS, p_move, p_bin, p_len, p_conv, p_pick, p_indexAddr, p_slice, p_extract, p_not, b_add, b_sub, b_mul, b_eql, b_neq, b_lss, b_leq, b_gtr, b_geq, l_nil, l_slice, l_sliceU, x_load1, ↓reduceIte, Nat.reduceEqDiff, Nat.reduceAdd, Nat.reduceMul, Nat.reduceSub, reduceCtorEq, Nat.zero_add, Nat.add_zero, Nat.mul_one, w64, wu32, wu64, beqT, beqF, bneT, bneF, dT, dF, a_idx, a_idxU, a_hi, a_hiN, a_sl, r_ro0, r_rw0, r_sl0, r_succ, ints_get, toNat_sub1, nat_toNat, Nat.add_sub_cancel, q_tmp, q_then, h6, h7, h3, h8, i0, g0]
      refine loop_keep (m := n - (j + 1)) (by omega) ⟨j + 1, rfl, by omega, ?_, ?_, ?_, ?_, rfl⟩
      · simp only [e_upd, e_putS, e_putN, e_t, e_c, Nat.reduceEqDiff, ↓reduceIte, reduceCtorEq, Nat.reduceAdd, h6]
      · simp only [e_upd, e_putS, e_putN, e_t, e_c, Nat.reduceEqDiff, ↓reduceIte, reduceCtorEq, Nat.reduceAdd, h7]
      · simp only [e_upd, e_putS, e_putN, e_t, e_c, Nat.reduceEqDiff, ↓reduceIte, reduceCtorEq, Nat.reduceAdd, cnt, hb]; rfl
      · simp only [e_upd, e_putS, e_putN, e_t, e_c, Nat.reduceEqDiff, ↓reduceIte, reduceCtorEq, Nat.reduceAdd]; rfl
    | false =>
      rw [hb] at g0
      simp (disch := omega) only [e_skip, e_ops, e_dops, e_seq, e_condI, e_condFb, e_gTF, e_gFT, e_gU, e_unv, e_bTT, e_bFF, e_bTF, e_bFT, e_beq1, e_beq2, Bool.not_true, Bool.not_false, e_block, e_exit, e_ret, e_seqN, e_seqE, e_seqR, e_blockN, e_blockR, e_blockE, e_nil, e_consN, e_consGI, e_nilD, e_consDN, e_consDGI, e_pure, e_eff, e_call, e_pureD, e_effD1, e_effD2, e_effD3, e_callD2, e_callD3, e_thenP, e_thenE, e_thenL, e_putS, e_putN, e_upd, e_t, e_c, e_none, e_some, e_bindS, p_move, p_bin, p_len, p_conv, p_pick, p_indexAddr, p_slice, p_extract, p_not, b_add, b_sub, b_mul, b_eql, b_neq, b_lss, b_leq, b_gtr, b_geq, l_nil, l_slice, l_sliceU, x_load1, ↓reduceIte, Nat.reduceEqDiff, Nat.reduceAdd, Nat.reduceMul, Nat.reduceSub, reduceCtorEq, Nat.zero_add, Nat.add_zero, Nat.mul_one, w64, wu32, wu64, beqT, beqF, bneT, bneF, dT, dF, a_idx, a_idxU, a_hi, a_hiN, a_sl, r_ro0, r_rw0, r_sl0, r_succ, ints_get, toNat_sub1, nat_toNat, Nat.add_sub_cancel, q_tmp, q_then, h6, h7, h3, h8, i0, g0]
      refine loop_keep (m := n - (j + 1)) (by omega) ⟨j + 1, rfl, by omega, ?_, ?_, ?_, ?_, rfl⟩
      · simp only [e_upd, e_putS, e_putN, e_t, e_c, Nat.reduceEqDiff, ↓reduceIte, reduceCtorEq, Nat.reduceAdd, h6]
      · simp only [e_upd, e_putS, e_putN, e_t, e_c, Nat.reduceEqDiff, ↓reduceIte, reduceCtorEq, Nat.reduceAdd, h7]
      · simp only [e_upd, e_putS, e_putN, e_t, e_c, Nat.reduceEqDiff, ↓reduceIte, reduceCtorEq, Nat.reduceAdd, cnt, hb, h3]; rfl
      · simp only [e_upd, e_putS, e_putN, e_t, e_c, Nat.reduceEqDiff, ↓reduceIte, reduceCtorEq, Nat.reduceAdd]; rfl
  · have hjn : j = n := by omega
    subst hjn
    simp (disch := omega) only [e_skip, e_ops, e_dops, e_seq, e_condI, e_condFb, e_gTF, e_gFT, e_gU, e_unv, e_bTT, e_bFF, e_bTF, e_bFT, e_beq1, e_beq2, Bool.not_true, Bool.not_false, e_block, e_exit, e_ret, e_seqN, e_seqE, e_seqR, e_blockN, e_blockR, e_blockE, e_nil, e_consN, e_consGI, e_nilD, e_consDN, e_consDGI, e_pure, e_eff, e_call, e_pureD, e_effD1, e_effD2, e_effD3, e_callD2, e_callD3, e_thenP, e_thenE, e_thenL, e_putS, e_putN, e_upd, e_t, e_c, e_none, e_some, e_bindS, p_move, p_bin, p_len, p_conv, p_pick, p_indexAddr, p_slice, p_extract, p_not, b_add, b_sub, b_mul, b_eql, b_neq, b_lss, b_leq, b_gtr, b_geq, l_nil, l_slice, l_sliceU, x_load1, ↓reduceIte, Nat.reduceEqDiff, Nat.reduceAdd, Nat.reduceMul, Nat.reduceSub, reduceCtorEq, Nat.zero_add, Nat.add_zero, Nat.mul_one, w64, wu32, wu64, beqT, beqF, bneT, bneF, dT, dF, a_idx, a_idxU, a_hi, a_hiN, a_sl, r_ro0, r_rw0, r_sl0, r_succ, ints_get, toNat_sub1, nat_toNat, Nat.add_sub_cancel, q_tmp, q_then, h6, h7, h3, h8]
    refine ret_both (by simp) q_tmp ?_ rfl
    simp only [e_upd, e_putS, e_putN, e_t, e_c, Nat.reduceEqDiff, ↓reduceIte, reduceCtorEq, Nat.reduceAdd, h3]

end Go.Proofs.Ytebijlefkomplab
