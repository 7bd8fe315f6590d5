/- Contracts of the reference: bytes of bit strings, and back. NEWSET -/
import Derived.Test.YtebijlefkomplabP11
set_option linter.unusedSimpArgs false
set_option linter.unusedVariables false
namespace Go.Proofs.Ytebijlefkomplab
open Go Go.Vh Go.Wd

theorem rPack_calls (κ : SK) (n : Nat) (f : Nat → Bool) (hk : okS κ n) (hn : n ≤ 100000) : ACalls Try.prog 19 [mkS κ 0 0 n] [ro (bt n f)] (List.range 1) fun v H =>
    v = .slice 1 0 ((n + 7) / 8) ((n + 7) / 8) ∧ H = [ro (bt n f), rw_ (ut ((n + 7) / 8) (pk n f))] := by
  refine ACalls.body Try.func19 ent_rPack ir_rPack_ok rs_rPack_ok Try.ntmps19 (by simp) rfl ?_
  unfold ir_rPack
  have e0 : s0 [mkS κ 0 0 n] 0 = mkS κ 0 0 n := rfl
  have a0 : abin .quo (.int .i64 ((n : Int) + 7)) (.int .i64 8) = some (.int .i64 (((n + 7) / 8 : Nat) : Int)) := by
    rw [b_quo (by omega) (by decide), w64 (by omega) (by omega)]; rfl
  have hM : ∀ j, j < n → j / 8 < (n + 7) / 8 := fun j h => by omega
  have hl : (n + 7) / 8 ≤ 100000 := by omega
  generalize (n + 7) / 8 = M at hM hl a0 ⊢
  simp (disch := omega) only [e_skip, e_ops, e_dops, e_seq, e_condI, e_condFb, e_gTF, e_gFT, e_gU, e_unv, e_bTT, e_bFF, e_bTF, e_bFT, e_beq1, e_beq2, Bool.not_true, Bool.not_false, e_block, e_exit, e_ret, e_seqN, e_seqE, e_seqR, e_blockN, e_blockR, e_blockE, e_nil, e_consN, e_consGI, e_nilD, e_consDN, e_consDGI, e_pure, e_eff, e_call, e_pureD, e_effD1, e_effD2, e_effD3, e_callD2, e_callD3, e_thenP, e_thenE, e_thenL, e_putS, e_putN, e_upd, e_t, e_c, e_none, e_some, e_bindS, p_move, p_bin, p_len, p_conv, p_pick, p_indexAddr, p_slice, p_extract, p_not, b_add, b_sub, b_mul, b_eql, b_neq, b_lss, b_leq, b_gtr, b_geq, l_nil, l_slice, l_sliceU, x_load1, ↓reduceIte, Nat.reduceEqDiff, Nat.reduceAdd, Nat.reduceMul, Nat.reduceSub, reduceCtorEq, Nat.zero_add, Nat.add_zero, Nat.mul_one, w64, wu32, wu64, beqT, beqF, bneT, bneF, dT, dF, a_idx, a_idxU, a_hi, a_hiN, a_sl, r_ro0, r_rw0, r_sl0, r_succ, ints_get, toNat_sub1, nat_toNat, Nat.add_sub_cancel, q_tmp, q_then, e0, k_len hk, a0]
  rw [x_makeU (n := M) (by simp only [e_upd, e_putS, e_putN, e_t, e_c, Nat.reduceEqDiff, ↓reduceIte, reduceCtorEq, Nat.reduceAdd]) (by omega) (by omega)]
  simp (disch := omega) only [e_skip, e_ops, e_dops, e_seq, e_condI, e_condFb, e_gTF, e_gFT, e_gU, e_unv, e_bTT, e_bFF, e_bTF, e_bFT, e_beq1, e_beq2, Bool.not_true, Bool.not_false, e_block, e_exit, e_ret, e_seqN, e_seqE, e_seqR, e_blockN, e_blockR, e_blockE, e_nil, e_consN, e_consGI, e_nilD, e_consDN, e_consDGI, e_pure, e_eff, e_call, e_pureD, e_effD1, e_effD2, e_effD3, e_callD2, e_callD3, e_thenP, e_thenE, e_thenL, e_putS, e_putN, e_upd, e_t, e_c, e_none, e_some, e_bindS, p_move, p_bin, p_len, p_conv, p_pick, p_indexAddr, p_slice, p_extract, p_not, b_add, b_sub, b_mul, b_eql, b_neq, b_lss, b_leq, b_gtr, b_geq, l_nil, l_slice, l_sliceU, x_load1, ↓reduceIte, Nat.reduceEqDiff, Nat.reduceAdd, Nat.reduceMul, Nat.reduceSub, reduceCtorEq, Nat.zero_add, Nat.add_zero, Nat.mul_one, w64, wu32, wu64, beqT, beqF, bneT, bneF, dT, dF, a_idx, a_idxU, a_hi, a_hiN, a_sl, r_ro0, r_rw0, r_sl0, r_succ, ints_get, toNat_sub1, nat_toNat, Nat.add_sub_cancel, q_tmp, q_then, e0]
  refine ⟨fun m s H => ∃ j, m = n - j ∧ j ≤ n ∧ s 0 = mkS κ 0 0 n ∧ s 3 = .slice 1 0 M M ∧ s 4 = .int .i64 (j : Int) ∧ H = [ro (bt n f), rw_ (ut M (pk j f))], n, ⟨0, rfl, by omega, ?_, ?_, ?_, ?_⟩, ?_⟩
  · simp only [e_upd, e_putS, e_putN, e_t, e_c, Nat.reduceEqDiff, ↓reduceIte, reduceCtorEq, Nat.reduceAdd, e0]
  · simp only [e_upd, e_putS, e_putN, e_t, e_c, Nat.reduceEqDiff, ↓reduceIte, reduceCtorEq, Nat.reduceAdd]; rfl
  · simp only [e_upd, e_putS, e_putN, e_t, e_c, Nat.reduceEqDiff, ↓reduceIte, reduceCtorEq, Nat.reduceAdd]; rfl
  · have : ut M (pk 0 f) = ut M (fun _ => 0) := ut_congr fun i _ => by
      unfold pk
      rw [wd_congr (h' := fun _ => false) fun t _ => by unfold cut; rw [decide_eq_false (by omega)]; rfl]
      rfl
    rw [this]; rfl
  rintro m s H ⟨j, hm, hj, h0, h3, h4, rfl⟩
  by_cases hlt : (j : Int) < (n : Int)
  · have hjn : j < n := by omega
    have i0 : aindexAddr 1 (mkS κ 0 0 n) (.int .i64 (j : Int)) = some (.ptr 0 j) := by
      rw [k_idx hk (Nat.le_refl n) (by omega) (by omega)]; simp
    have g0 : (bt n f)[j]? = some (.bool (f j)) := bt_get hjn
    have hjM := hM j hjn
    cases hb : f j with
    | false =>
      rw [hb] at g0
      simp (disch := omega) only [e_skip, e_ops, e_dops, e_seq, e_condI, e_condFb, e_gTF, e_gFT, e_gU, e_unv, e_bTT, e_bFF, e_bTF, e_bFT, e_beq1, e_beq2, Bool.not_true, Bool.not_false, e_block, e_exit, e_ret, e_seqN, e_seqE, e_seqR, e_blockN, e_blockR, e_blockE, e_nil, e_consN, e_consGI, e_nilD, e_consDN, e_consDGI, e_pure, e_eff, e_call, e_pureD, e_effD1, e_effD2, e_effD3, e_callD2, e_callD3, e_thenP, e_thenE, e_thenL, e_putS, e_putN, e_upd, e_t, e_c, e_none, e_some, e_bindS, p_move, p_bin, p_len, p_conv, p_pick, p_indexAddr, p_slice, p_extract, p_not, b_add, b_sub, b_mul, b_eql, b_neq, b_lss, b_leq, b_gtr, b_geq, l_nil, l_slice, l_sliceU, x_load1, ↓reduceIte, Nat.reduceEqDiff, Nat.reduceAdd, Nat.reduceMul, Nat.reduceSub, reduceCtorEq, Nat.zero_add, Nat.add_zero, Nat.mul_one, w64, wu32, wu64, beqT, beqF, bneT, bneF, dT, dF, a_idx, a_idxU, a_hi, a_hiN, a_sl, r_ro0, r_rw0, r_sl0, r_succ, ints_get, toNat_sub1, nat_toNat, Nat.add_sub_cancel, q_tmp, q_then, h0, h3, h4, k_len hk, i0, g0]
      refine loop_keep (m := n - (j + 1)) (by omega) ⟨j + 1, rfl, by omega, ?_, ?_, ?_, ?_⟩
      · simp only [e_upd, e_putS, e_putN, e_t, e_c, Nat.reduceEqDiff, ↓reduceIte, reduceCtorEq, Nat.reduceAdd, h0]
      · simp only [e_upd, e_putS, e_putN, e_t, e_c, Nat.reduceEqDiff, ↓reduceIte, reduceCtorEq, Nat.reduceAdd, h3]
      · simp only [e_upd, e_putS, e_putN, e_t, e_c, Nat.reduceEqDiff, ↓reduceIte, reduceCtorEq, Nat.reduceAdd]; rfl
      · have : ut M (pk (j + 1) f) = ut M (pk j f) := ut_congr fun i _ => by rw [pk_step, hb]; simp
        rw [this]
    | true =>
      rw [hb] at g0
      have a1 : abin .quo (.int .i64 (j : Int)) (.int .i64 8) = some (.int .i64 ((j / 8 : Nat) : Int)) := by
        rw [b_quo (Int.natCast_nonneg _) (by decide), w64 (by omega) (by omega)]; rfl
      have a2 : abin .rem (.int .i64 (j : Int)) (.int .i64 8) = some (.int .i64 ((j % 8 : Nat) : Int)) := by
        rw [b_rem (Int.natCast_nonneg _) (by decide)]; rfl
      have a3 : (7 : Int) - ((j % 8 : Nat) : Int) = ((7 - j % 8 : Nat) : Int) := by omega
      have hst : pk (j + 1) f (j / 8) = pk j f (j / 8) + 2 ^ (7 - j % 8) := by rw [pk_step, if_pos ⟨rfl, hb⟩]
      have hlt1 : pk (j + 1) f (j / 8) < 256 := wd_lt _ 8
      have hp : 2 ^ (7 - j % 8) ≤ 2 ^ 7 := Nat.pow_le_pow_right (by decide) (by omega)
      have a4 : abin .shl (.int .u8 1) (.int .i64 ((7 - j % 8 : Nat) : Int)) = some (.int .u8 ((2 ^ (7 - j % 8) : Nat) : Int)) := by
        rw [b_shl (k := .u8) (by simp [IntKind.bits]; omega), Int.one_mul, show ((2 : Int) ^ (7 - j % 8)) = ((2 ^ (7 - j % 8) : Nat) : Int) by simp]
        generalize 2 ^ (7 - j % 8) = z at hp ⊢
        rw [wu8 (by omega) (by omega)]
      generalize 2 ^ (7 - j % 8) = z at hst hp a4
      have i1 : aindexAddr 1 (.slice 1 0 M M) (.int .i64 ((j / 8 : Nat) : Int)) = some (.ptr 1 (j / 8)) := by
        rw [a_idx (by omega) (by omega), Int.toNat_natCast, Nat.zero_add, Nat.mul_one]
      have g1 : (ut M (pk j f))[j / 8]? = some (.int .u8 ((pk j f (j / 8) : Nat) : Int)) := ut_get hjM
      have a5 : IntKind.u8.wrap (((pk j f (j / 8) : Nat) : Int) + (z : Int)) = ((pk (j + 1) f (j / 8) : Nat) : Int) := by
        rw [wu8 (by omega) (by omega), hst]; simp
      simp (disch := omega) only [e_skip, e_ops, e_dops, e_seq, e_condI, e_condFb, e_gTF, e_gFT, e_gU, e_unv, e_bTT, e_bFF, e_bTF, e_bFT, e_beq1, e_beq2, Bool.not_true, Bool.not_false, e_block, e_exit, e_ret, e_seqN, e_seqE, e_seqR, e_blockN, e_blockR, e_blockE, e_nil, e_consN, e_consGI, e_nilD, e_consDN, e_consDGI, e_pure, e_eff, e_call, e_pureD, e_effD1, e_effD2, e_effD3, e_callD2, e_callD3, e_thenP, e_thenE, e_thenL, e_putS, e_putN, e_upd, e_t, e_c, e_none, e_some, e_bindS, p_move, p_bin, p_len, p_conv, p_pick, p_indexAddr, p_slice, p_extract, p_not, b_add, b_sub, b_mul, b_eql, b_neq, b_lss, b_leq, b_gtr, b_geq, l_nil, l_slice, l_sliceU, x_load1, ↓reduceIte, Nat.reduceEqDiff, Nat.reduceAdd, Nat.reduceMul, Nat.reduceSub, reduceCtorEq, Nat.zero_add, Nat.add_zero, Nat.mul_one, w64, wu32, wu64, beqT, beqF, bneT, bneF, dT, dF, a_idx, a_idxU, a_hi, a_hiN, a_sl, r_ro0, r_rw0, r_sl0, r_succ, ints_get, toNat_sub1, nat_toNat, Nat.add_sub_cancel, q_tmp, q_then, h0, h3, h4, k_len hk, i0, g0, a1, a2, a3, a4, i1, g1, a5]
      rw [x_putU (r := 1) (off := j / 8) (b := pk (j + 1) f (j / 8)) (n := M) (q := pk j f) (by simp only [e_upd, e_putS, e_putN, e_t, e_c, Nat.reduceEqDiff, ↓reduceIte, reduceCtorEq, Nat.reduceAdd]) (by simp only [e_upd, e_putS, e_putN, e_t, e_c, Nat.reduceEqDiff, ↓reduceIte, reduceCtorEq, Nat.reduceAdd]) rfl hjM]
      simp (disch := omega) only [e_skip, e_ops, e_dops, e_seq, e_condI, e_condFb, e_gTF, e_gFT, e_gU, e_unv, e_bTT, e_bFF, e_bTF, e_bFT, e_beq1, e_beq2, Bool.not_true, Bool.not_false, e_block, e_exit, e_ret, e_seqN, e_seqE, e_seqR, e_blockN, e_blockR, e_blockE, e_nil, e_consN, e_consGI, e_nilD, e_consDN, e_consDGI, e_pure, e_eff, e_call, e_pureD, e_effD1, e_effD2, e_effD3, e_callD2, e_callD3, e_thenP, e_thenE, e_thenL, e_putS, e_putN, e_upd, e_t, e_c, e_none, e_some, e_bindS, p_move, p_bin, p_len, p_conv, p_pick, p_indexAddr, p_slice, p_extract, p_not, b_add, b_sub, b_mul, b_eql, b_neq, b_lss, b_leq, b_gtr, b_geq, l_nil, l_slice, l_sliceU, x_load1, ↓reduceIte, Nat.reduceEqDiff, Nat.reduceAdd, Nat.reduceMul, Nat.reduceSub, reduceCtorEq, Nat.zero_add, Nat.add_zero, Nat.mul_one, w64, wu32, wu64, beqT, beqF, bneT, bneF, dT, dF, a_idx, a_idxU, a_hi, a_hiN, a_sl, r_ro0, r_rw0, r_sl0, r_succ, ints_get, toNat_sub1, nat_toNat, Nat.add_sub_cancel, q_tmp, q_then, h0, h3, h4]
      refine loop_keep (m := n - (j + 1)) (by omega) ⟨j + 1, rfl, by omega, ?_, ?_, ?_, ?_⟩
      · simp only [e_upd, e_putS, e_putN, e_t, e_c, Nat.reduceEqDiff, ↓reduceIte, reduceCtorEq, Nat.reduceAdd, h0]
      · simp only [e_upd, e_putS, e_putN, e_t, e_c, Nat.reduceEqDiff, ↓reduceIte, reduceCtorEq, Nat.reduceAdd, h3]
      · simp only [e_upd, e_putS, e_putN, e_t, e_c, Nat.reduceEqDiff, ↓reduceIte, reduceCtorEq, Nat.reduceAdd]; rfl
      · have : ut M (fun i => if i = j / 8 then pk (j + 1) f (j / 8) else pk j f i) = ut M (pk (j + 1) f) := ut_congr fun i _ => by
          by_cases e : i = j / 8
          · rw [if_pos e, e]
          · rw [if_neg e, pk_step, if_neg (fun h => e h.1), Nat.add_zero]
        rw [this]; rfl
  · have hjn : j = n := by omega
    subst hjn
    simp (disch := omega) only [e_skip, e_ops, e_dops, e_seq, e_condI, e_condFb, e_gTF, e_gFT, e_gU, e_unv, e_bTT, e_bFF, e_bTF, e_bFT, e_beq1, e_beq2, Bool.not_true, Bool.not_false, e_block, e_exit, e_ret, e_seqN, e_seqE, e_seqR, e_blockN, e_blockR, e_blockE, e_nil, e_consN, e_consGI, e_nilD, e_consDN, e_consDGI, e_pure, e_eff, e_call, e_pureD, e_effD1, e_effD2, e_effD3, e_callD2, e_callD3, e_thenP, e_thenE, e_thenL, e_putS, e_putN, e_upd, e_t, e_c, e_none, e_some, e_bindS, p_move, p_bin, p_len, p_conv, p_pick, p_indexAddr, p_slice, p_extract, p_not, b_add, b_sub, b_mul, b_eql, b_neq, b_lss, b_leq, b_gtr, b_geq, l_nil, l_slice, l_sliceU, x_load1, ↓reduceIte, Nat.reduceEqDiff, Nat.reduceAdd, Nat.reduceMul, Nat.reduceSub, reduceCtorEq, Nat.zero_add, Nat.add_zero, Nat.mul_one, w64, wu32, wu64, beqT, beqF, bneT, bneF, dT, dF, a_idx, a_idxU, a_hi, a_hiN, a_sl, r_ro0, r_rw0, r_sl0, r_succ, ints_get, toNat_sub1, nat_toNat, Nat.add_sub_cancel, q_tmp, q_then, h0, h3, h4, k_len hk]
    exact ret_both (by simp) q_tmp (by simp only [e_upd, e_putS, e_putN, e_t, e_c, Nat.reduceEqDiff, ↓reduceIte, reduceCtorEq, Nat.reduceAdd, h3]) rfl

/-- Behind a place all bits are false. -/
def zb (q : Nat → Nat) (n j : Nat) : Bool := decide (∀ i, i < j → n ≤ i → ub q i = false)
theorem zb_low {q : Nat → Nat} {n j : Nat} (h : j ≤ n) : zb q n j = true := decide_eq_true fun i h1 h2 => by omega
theorem zb_step {q : Nat → Nat} {n j : Nat} (h : n ≤ j) : zb q n (j + 1) = (zb q n j && !ub q j) := by
  cases hu : ub q j with
  | true =>
    have : zb q n (j + 1) = false := decide_eq_false fun H => by
      have := H j (by omega) h
      rw [hu] at this; cases this
    rw [this]; simp
  | false =>
    simp only [Bool.not_false, Bool.and_true]
    apply decide_eq_decide.2
    constructor
    · intro H i h1 h2; exact H i (by omega) h2
    · intro H i h1 h2
      rcases Nat.eq_or_lt_of_le (Nat.le_of_lt_succ h1) with e | e
      · rw [e]; exact hu
      · exact H i e h2

theorem rUnpack_calls (κ : SK) (n M : Nat) (q : Nat → Nat) (hk : okS κ M) (hM : M ≤ 10000) (hn : n ≤ 8 * M) (hq : ∀ i, i < M → q i < 256) :
    ACalls Try.prog 27 [mkS κ 0 0 M, .int .i64 n] [ro (ut M q)] (List.range 1) fun v H => ∃ v', v = .tuple [v', .bool (zb q n (8 * M))] ∧ grown [ro (ut M q)] n (ub q) v' H := by
  refine ACalls.body Try.func27 ent_rUnpack ir_rUnpack_ok rs_rUnpack_ok Try.ntmps27 (by simp) rfl ?_
  unfold ir_rUnpack
  have e0 : s0 [mkS κ 0 0 M, .int .i64 (n : Int)] 0 = mkS κ 0 0 M := rfl
  have e1 : s0 [mkS κ 0 0 M, .int .i64 (n : Int)] 1 = .int .i64 (n : Int) := rfl
  simp (disch := omega) only [e_skip, e_ops, e_dops, e_seq, e_condI, e_condFb, e_gTF, e_gFT, e_gU, e_unv, e_bTT, e_bFF, e_bTF, e_bFT, e_beq1, e_beq2, Bool.not_true, Bool.not_false, e_block, e_exit, e_ret, e_seqN, e_seqE, e_seqR, e_blockN, e_blockR, e_blockE, e_nil, e_consN, e_consGI, e_nilD, e_consDN, e_consDGI, e_pure, e_eff, e_call, e_pureD, e_effD1, e_effD2, e_effD3, e_callD2, e_callD3, e_thenP, e_thenE, e_thenL, e_putS, e_putN, e_upd, e_t, e_c, e_none, e_some, e_bindS, p_move, p_bin, p_len, p_conv, p_pick, p_indexAddr, p_slice, p_extract, p_not, b_add, b_sub, b_mul, b_eql, b_neq, b_lss, b_leq, b_gtr, b_geq, l_nil, l_slice, l_sliceU, x_load1, ↓reduceIte, Nat.reduceEqDiff, Nat.reduceAdd, Nat.reduceMul, Nat.reduceSub, reduceCtorEq, Nat.zero_add, Nat.add_zero, Nat.mul_one, w64, wu32, wu64, beqT, beqF, bneT, bneF, dT, dF, a_idx, a_idxU, a_hi, a_hiN, a_sl, r_ro0, r_rw0, r_sl0, r_succ, ints_get, toNat_sub1, nat_toNat, Nat.add_sub_cancel, q_tmp, q_then, e0, e1, k_len hk]
  refine ⟨fun m s H => ∃ j, m = 8 * M - j ∧ j ≤ 8 * M ∧ s 0 = mkS κ 0 0 M ∧ s 1 = .int .i64 (n : Int) ∧ s 8 = .int .i64 (j : Int) ∧ s 7 = .bool (zb q n j) ∧ grown [ro (ut M q)] (min j n) (ub q) (s 6) H, 8 * M, ⟨0, rfl, by omega, ?_, ?_, ?_, ?_, .inl ⟨by omega, ?_, rfl⟩⟩, ?_⟩
  · simp only [e_upd, e_putS, e_putN, e_t, e_c, Nat.reduceEqDiff, ↓reduceIte, reduceCtorEq, Nat.reduceAdd, e0]
  · simp only [e_upd, e_putS, e_putN, e_t, e_c, Nat.reduceEqDiff, ↓reduceIte, reduceCtorEq, Nat.reduceAdd, e1]
  · simp only [e_upd, e_putS, e_putN, e_t, e_c, Nat.reduceEqDiff, ↓reduceIte, reduceCtorEq, Nat.reduceAdd]; rfl
  · simp only [e_upd, e_putS, e_putN, e_t, e_c, Nat.reduceEqDiff, ↓reduceIte, reduceCtorEq, Nat.reduceAdd]; rw [zb_low (Nat.zero_le n)]
  · simp only [e_upd, e_putS, e_putN, e_t, e_c, Nat.reduceEqDiff, ↓reduceIte, reduceCtorEq, Nat.reduceAdd]
  rintro m s H ⟨j, hm, hj, h0, h1, h8, h7, hg⟩
  have a0 : (8 : Int) * (M : Int) = ((8 * M : Nat) : Int) := by omega
  by_cases hlt : (j : Int) < ((8 * M : Nat) : Int)
  · have hj8 : j / 8 < M := by omega
    have hb := hq (j / 8) hj8
    have i1 : aindexAddr 1 (mkS κ 0 0 M) (.int .i64 ((j / 8 : Nat) : Int)) = some (.ptr 0 (j / 8)) := by
      rw [k_idx hk (Nat.le_refl M) (by omega) (by omega), Int.toNat_natCast, Nat.zero_add]
    have g1 : (ut M q)[j / 8]? = some (.int .u8 ((q (j / 8) : Nat) : Int)) := ut_get hj8
    have a1 : abin .quo (.int .i64 (j : Int)) (.int .i64 8) = some (.int .i64 ((j / 8 : Nat) : Int)) := by
      rw [b_quo (Int.natCast_nonneg _) (by decide), w64 (by omega) (by omega)]; rfl
    have a2 : abin .rem (.int .i64 (j : Int)) (.int .i64 8) = some (.int .i64 ((j % 8 : Nat) : Int)) := by
      rw [b_rem (Int.natCast_nonneg _) (by decide)]; rfl
    have a3 : (7 : Int) - ((j % 8 : Nat) : Int) = ((7 - j % 8 : Nat) : Int) := by omega
    have a4 : abin .shr (.int .u8 ((q (j / 8) : Nat) : Int)) (.int .i64 ((7 - j % 8 : Nat) : Int)) = some (.int .u8 ((q (j / 8) / 2 ^ (7 - j % 8) : Nat) : Int)) := by
      rw [b_shr (k := .u8) (by simp [IntKind.bits]; omega)]; simp
    have hub : decide ((q (j / 8) / 2 ^ (7 - j % 8)) % 2 = 1) = ub q j := rfl
    generalize q (j / 8) / 2 ^ (7 - j % 8) = z at a4 hub
    have a5 : abin .rem (.int .u8 ((z : Nat) : Int)) (.int .u8 2) = some (.int .u8 ((z % 2 : Nat) : Int)) := by
      rw [b_rem (Int.natCast_nonneg _) (by decide)]; rfl
    have a6 : (((z % 2 : Nat) : Int) == 1) = ub q j := by
      rw [← hub]
      by_cases h : z % 2 = 1
      · rw [decide_eq_true h, beq_iff_eq]; omega
      · rw [decide_eq_false h, beq_eq_false_iff_ne]; omega
    by_cases hin : (j : Int) < (n : Int)
    · have hz : zb q n j = true := zb_low (by omega)
      have hz' : zb q n (j + 1) = true := zb_low (by omega)
      have hmj : min j n = j := by omega
      have hmj' : min (j + 1) n = j + 1 := by omega
      rw [hz] at h7
      rw [hmj] at hg
      rcases hg with ⟨rfl, h6, rfl⟩ | ⟨hpos, h6, rfl⟩
      · simp (disch := omega) only [e_skip, e_ops, e_dops, e_seq, e_condI, e_condFb, e_gTF, e_gFT, e_gU, e_unv, e_bTT, e_bFF, e_bTF, e_bFT, e_beq1, e_beq2, Bool.not_true, Bool.not_false, e_block, e_exit, e_ret, e_seqN, e_seqE, e_seqR, e_blockN, e_blockR, e_blockE, e_nil, e_consN, e_consGI, e_nilD, e_consDN, e_consDGI, e_pure, e_eff, e_call, e_pureD, e_effD1, e_effD2, e_effD3, e_callD2, e_callD3, e_thenP, e_thenE, e_thenL, e_putS, e_putN, e_upd, e_t, e_c, e_none, e_some, e_bindS, p_move, p_bin, p_len, p_conv, p_pick, p_indexAddr, p_slice, p_extract, p_not, b_add, b_sub, b_mul, b_eql, b_neq, b_lss, b_leq, b_gtr, b_geq, l_nil, l_slice, l_sliceU, x_load1, ↓reduceIte, Nat.reduceEqDiff, Nat.reduceAdd, Nat.reduceMul, Nat.reduceSub, reduceCtorEq, Nat.zero_add, Nat.add_zero, Nat.mul_one, w64, wu32, wu64, beqT, beqF, bneT, bneF, dT, dF, a_idx, a_idxU, a_hi, a_hiN, a_sl, r_ro0, r_rw0, r_sl0, r_succ, ints_get, toNat_sub1, nat_toNat, Nat.add_sub_cancel, q_tmp, q_then, h0, h1, h6, h7, h8, k_len hk, a0, a1, a2, a3, i1, g1, a4, a5, a6]
        rw [x_bs1 (v := .bool (ub q 0)) (by simp only [e_upd, e_putS, e_putN, e_t, e_c, Nat.reduceEqDiff, ↓reduceIte, reduceCtorEq, Nat.reduceAdd]) rfl]
        simp (disch := omega) only [e_skip, e_ops, e_dops, e_seq, e_condI, e_condFb, e_gTF, e_gFT, e_gU, e_unv, e_bTT, e_bFF, e_bTF, e_bFT, e_beq1, e_beq2, Bool.not_true, Bool.not_false, e_block, e_exit, e_ret, e_seqN, e_seqE, e_seqR, e_blockN, e_blockR, e_blockE, e_nil, e_consN, e_consGI, e_nilD, e_consDN, e_consDGI, e_pure, e_eff, e_call, e_pureD, e_effD1, e_effD2, e_effD3, e_callD2, e_callD3, e_thenP, e_thenE, e_thenL, e_putS, e_putN, e_upd, e_t, e_c, e_none, e_some, e_bindS, p_move, p_bin, p_len, p_conv, p_pick, p_indexAddr, p_slice, p_extract, p_not, b_add, b_sub, b_mul, b_eql, b_neq, b_lss, b_leq, b_gtr, b_geq, l_nil, l_slice, l_sliceU, x_load1, ↓reduceIte, Nat.reduceEqDiff, Nat.reduceAdd, Nat.reduceMul, Nat.reduceSub, reduceCtorEq, Nat.zero_add, Nat.add_zero, Nat.mul_one, w64, wu32, wu64, beqT, beqF, bneT, bneF, dT, dF, a_idx, a_idxU, a_hi, a_hiN, a_sl, r_ro0, r_rw0, r_sl0, r_succ, ints_get, toNat_sub1, nat_toNat, Nat.add_sub_cancel, q_tmp, q_then, h0, h1, h6, h7, h8]
        rw [x_appN (r := 1) (m := 1) (c := 1) (row := ⟨true, false, [.bool (ub q 0)]⟩) (xs := [.bool (ub q 0)]) (by simp only [e_upd, e_putS, e_putN, e_t, e_c, Nat.reduceEqDiff, ↓reduceIte, reduceCtorEq, Nat.reduceAdd, h6]) (by simp only [e_upd, e_putS, e_putN, e_t, e_c, Nat.reduceEqDiff, ↓reduceIte, reduceCtorEq, Nat.reduceAdd]; rfl) rfl rfl (by simp) (by omega) rfl]
        simp (disch := omega) only [e_skip, e_ops, e_dops, e_seq, e_condI, e_condFb, e_gTF, e_gFT, e_gU, e_unv, e_bTT, e_bFF, e_bTF, e_bFT, e_beq1, e_beq2, Bool.not_true, Bool.not_false, e_block, e_exit, e_ret, e_seqN, e_seqE, e_seqR, e_blockN, e_blockR, e_blockE, e_nil, e_consN, e_consGI, e_nilD, e_consDN, e_consDGI, e_pure, e_eff, e_call, e_pureD, e_effD1, e_effD2, e_effD3, e_callD2, e_callD3, e_thenP, e_thenE, e_thenL, e_putS, e_putN, e_upd, e_t, e_c, e_none, e_some, e_bindS, p_move, p_bin, p_len, p_conv, p_pick, p_indexAddr, p_slice, p_extract, p_not, b_add, b_sub, b_mul, b_eql, b_neq, b_lss, b_leq, b_gtr, b_geq, l_nil, l_slice, l_sliceU, x_load1, ↓reduceIte, Nat.reduceEqDiff, Nat.reduceAdd, Nat.reduceMul, Nat.reduceSub, reduceCtorEq, Nat.zero_add, Nat.add_zero, Nat.mul_one, w64, wu32, wu64, beqT, beqF, bneT, bneF, dT, dF, a_idx, a_idxU, a_hi, a_hiN, a_sl, r_ro0, r_rw0, r_sl0, r_succ, ints_get, toNat_sub1, nat_toNat, Nat.add_sub_cancel, q_tmp, q_then, h0, h1, h6, h7, h8]
        refine loop_gc (m := 8 * M - (0 + 1)) [0, 2] rfl ?_ (by omega) ⟨0 + 1, rfl, by omega, ?_, ?_, ?_, ?_, ?_⟩
        · simp [gcH, Vh.rowAt, ro, rw_, sl, ut_ren, ut_cell, bt_ren, bt_cell, n_lcons, n_lnil, n_bool, AV.cell]
        · exact gc_at (v := mkS κ 0 0 M) (by simp only [e_upd, e_putS, e_putN, e_t, e_c, Nat.reduceEqDiff, ↓reduceIte, reduceCtorEq, Nat.reduceAdd, h0]) (n_mkS0 rfl)
        · exact gc_at (v := .int .i64 (n : Int)) (by simp only [e_upd, e_putS, e_putN, e_t, e_c, Nat.reduceEqDiff, ↓reduceIte, reduceCtorEq, Nat.reduceAdd, h1]) rfl
        · exact gc_at (v := .int .i64 (((0 + 1 : Nat)) : Int)) (by simp only [e_upd, e_putS, e_putN, e_t, e_c, Nat.reduceEqDiff, ↓reduceIte, reduceCtorEq, Nat.reduceAdd]; rfl) rfl
        · rw [hz']; exact gc_at (v := .bool true) (by simp only [e_upd, e_putS, e_putN, e_t, e_c, Nat.reduceEqDiff, ↓reduceIte, reduceCtorEq, Nat.reduceAdd, h7]) rfl
        rw [hmj']
        refine .inr ⟨by omega, ?_, ?_⟩
        · exact gc_at (v := .sliceU 2 0 1 1) (by simp only [e_upd, e_putS, e_putN, e_t, e_c, Nat.reduceEqDiff, ↓reduceIte, reduceCtorEq, Nat.reduceAdd]; rfl) rfl
        · have hb1 : bt (0 + 1) (ub q) = [.bool (ub q 0)] := rfl
          rw [hb1]
          simp [gcH, Vh.rowAt, ro, rw_, sl, ut_ren, bt_ren, n_lcons, n_lnil, n_bool]
      · simp (disch := omega) only [e_skip, e_ops, e_dops, e_seq, e_condI, e_condFb, e_gTF, e_gFT, e_gU, e_unv, e_bTT, e_bFF, e_bTF, e_bFT, e_beq1, e_beq2, Bool.not_true, Bool.not_false, e_block, e_exit, e_ret, e_seqN, e_seqE, e_seqR, e_blockN, e_blockR, e_blockE, e_nil, e_consN, e_consGI, e_nilD, e_consDN, e_consDGI, e_pure, e_eff, e_call, e_pureD, e_effD1, e_effD2, e_effD3, e_callD2, e_callD3, e_thenP, e_thenE, e_thenL, e_putS, e_putN, e_upd, e_t, e_c, e_none, e_some, e_bindS, p_move, p_bin, p_len, p_conv, p_pick, p_indexAddr, p_slice, p_extract, p_not, b_add, b_sub, b_mul, b_eql, b_neq, b_lss, b_leq, b_gtr, b_geq, l_nil, l_slice, l_sliceU, x_load1, ↓reduceIte, Nat.reduceEqDiff, Nat.reduceAdd, Nat.reduceMul, Nat.reduceSub, reduceCtorEq, Nat.zero_add, Nat.add_zero, Nat.mul_one, w64, wu32, wu64, beqT, beqF, bneT, bneF, dT, dF, a_idx, a_idxU, a_hi, a_hiN, a_sl, r_ro0, r_rw0, r_sl0, r_succ, ints_get, toNat_sub1, nat_toNat, Nat.add_sub_cancel, q_tmp, q_then, h0, h1, h6, h7, h8, k_len hk, a0, a1, a2, a3, i1, g1, a4, a5, a6, List.cons_append, List.nil_append]
        rw [x_bs1 (v := .bool (ub q j)) (by simp only [e_upd, e_putS, e_putN, e_t, e_c, Nat.reduceEqDiff, ↓reduceIte, reduceCtorEq, Nat.reduceAdd]) rfl]
        simp (disch := omega) only [e_skip, e_ops, e_dops, e_seq, e_condI, e_condFb, e_gTF, e_gFT, e_gU, e_unv, e_bTT, e_bFF, e_bTF, e_bFT, e_beq1, e_beq2, Bool.not_true, Bool.not_false, e_block, e_exit, e_ret, e_seqN, e_seqE, e_seqR, e_blockN, e_blockR, e_blockE, e_nil, e_consN, e_consGI, e_nilD, e_consDN, e_consDGI, e_pure, e_eff, e_call, e_pureD, e_effD1, e_effD2, e_effD3, e_callD2, e_callD3, e_thenP, e_thenE, e_thenL, e_putS, e_putN, e_upd, e_t, e_c, e_none, e_some, e_bindS, p_move, p_bin, p_len, p_conv, p_pick, p_indexAddr, p_slice, p_extract, p_not, b_add, b_sub, b_mul, b_eql, b_neq, b_lss, b_leq, b_gtr, b_geq, l_nil, l_slice, l_sliceU, x_load1, ↓reduceIte, Nat.reduceEqDiff, Nat.reduceAdd, Nat.reduceMul, Nat.reduceSub, reduceCtorEq, Nat.zero_add, Nat.add_zero, Nat.mul_one, w64, wu32, wu64, beqT, beqF, bneT, bneF, dT, dF, a_idx, a_idxU, a_hi, a_hiN, a_sl, r_ro0, r_rw0, r_sl0, r_succ, ints_get, toNat_sub1, nat_toNat, Nat.add_sub_cancel, q_tmp, q_then, h0, h1, h6, h7, h8, List.cons_append, List.nil_append]
        rw [x_appU (q := 1) (n := j) (r := 2) (m := 1) (c := 1) (row := ⟨true, false, [.bool (ub q j)]⟩) (xs := [.bool (ub q j)]) (old := bt j (ub q)) (by simp only [e_upd, e_putS, e_putN, e_t, e_c, Nat.reduceEqDiff, ↓reduceIte, reduceCtorEq, Nat.reduceAdd, h6]; rfl) (by simp only [e_upd, e_putS, e_putN, e_t, e_c, Nat.reduceEqDiff, ↓reduceIte, reduceCtorEq, Nat.reduceAdd]; rfl) rfl bt_length rfl rfl (by simp) (by omega) rfl]
        simp (disch := omega) only [e_skip, e_ops, e_dops, e_seq, e_condI, e_condFb, e_gTF, e_gFT, e_gU, e_unv, e_bTT, e_bFF, e_bTF, e_bFT, e_beq1, e_beq2, Bool.not_true, Bool.not_false, e_block, e_exit, e_ret, e_seqN, e_seqE, e_seqR, e_blockN, e_blockR, e_blockE, e_nil, e_consN, e_consGI, e_nilD, e_consDN, e_consDGI, e_pure, e_eff, e_call, e_pureD, e_effD1, e_effD2, e_effD3, e_callD2, e_callD3, e_thenP, e_thenE, e_thenL, e_putS, e_putN, e_upd, e_t, e_c, e_none, e_some, e_bindS, p_move, p_bin, p_len, p_conv, p_pick, p_indexAddr, p_slice, p_extract, p_not, b_add, b_sub, b_mul, b_eql, b_neq, b_lss, b_leq, b_gtr, b_geq, l_nil, l_slice, l_sliceU, x_load1, ↓reduceIte, Nat.reduceEqDiff, Nat.reduceAdd, Nat.reduceMul, Nat.reduceSub, reduceCtorEq, Nat.zero_add, Nat.add_zero, Nat.mul_one, w64, wu32, wu64, beqT, beqF, bneT, bneF, dT, dF, a_idx, a_idxU, a_hi, a_hiN, a_sl, r_ro0, r_rw0, r_sl0, r_succ, ints_get, toNat_sub1, nat_toNat, Nat.add_sub_cancel, q_tmp, q_then, h0, h1, h6, h7, h8]
        refine loop_gc (m := 8 * M - (j + 1)) [0, 3] rfl ?_ (by omega) ⟨j + 1, rfl, by omega, ?_, ?_, ?_, ?_, ?_⟩
        · simp [gcH, Vh.rowAt, ro, rw_, sl, ut_ren, ut_cell, bt_ren, bt_cell, bt_app]
        · exact gc_at (v := mkS κ 0 0 M) (by simp only [e_upd, e_putS, e_putN, e_t, e_c, Nat.reduceEqDiff, ↓reduceIte, reduceCtorEq, Nat.reduceAdd, h0]) (n_mkS0 rfl)
        · exact gc_at (v := .int .i64 (n : Int)) (by simp only [e_upd, e_putS, e_putN, e_t, e_c, Nat.reduceEqDiff, ↓reduceIte, reduceCtorEq, Nat.reduceAdd, h1]) rfl
        · exact gc_at (v := .int .i64 (((j + 1 : Nat)) : Int)) (by simp only [e_upd, e_putS, e_putN, e_t, e_c, Nat.reduceEqDiff, ↓reduceIte, reduceCtorEq, Nat.reduceAdd]; rfl) rfl
        · rw [hz']; exact gc_at (v := .bool true) (by simp only [e_upd, e_putS, e_putN, e_t, e_c, Nat.reduceEqDiff, ↓reduceIte, reduceCtorEq, Nat.reduceAdd, h7]) rfl
        rw [hmj']
        refine .inr ⟨by omega, ?_, ?_⟩
        · exact gc_at (v := .sliceU 3 0 (j + 1) 1) (by simp only [e_upd, e_putS, e_putN, e_t, e_c, Nat.reduceEqDiff, ↓reduceIte, reduceCtorEq, Nat.reduceAdd]; rfl) rfl
        · have : bt (j + 1) (fun i => if i = j then ub q j else ub q i) = bt (j + 1) (ub q) := bt_congr fun i _ => by
            by_cases e : i = j
            · subst e; simp
            · simp [e]
          simp [gcH, Vh.rowAt, ro, rw_, sl, ut_ren, bt_ren, bt_app, this]
    · have hmj : min j n = min (j + 1) n := by omega
      have hst := zb_step (q := q) (show n ≤ j by omega)
      rw [hmj] at hg
      have h7' : s 7 = .bool (zb q n j) := h7
      have r0 : Vh.rowAt H 0 = some ⟨false, false, ut M q⟩ := by
        rcases hg with ⟨_, _, rfl⟩ | ⟨_, _, rfl⟩ <;> rfl
      cases hu : ub q j with
      | true =>
        rw [hu] at a6 hst
        simp only [Bool.not_true, Bool.and_false] at hst
        simp (disch := omega) only [e_skip, e_ops, e_dops, e_seq, e_condI, e_condFb, e_gTF, e_gFT, e_gU, e_unv, e_bTT, e_bFF, e_bTF, e_bFT, e_beq1, e_beq2, Bool.not_true, Bool.not_false, e_block, e_exit, e_ret, e_seqN, e_seqE, e_seqR, e_blockN, e_blockR, e_blockE, e_nil, e_consN, e_consGI, e_nilD, e_consDN, e_consDGI, e_pure, e_eff, e_call, e_pureD, e_effD1, e_effD2, e_effD3, e_callD2, e_callD3, e_thenP, e_thenE, e_thenL, e_putS, e_putN, e_upd, e_t, e_c, e_none, e_some, e_bindS, p_move, p_bin, p_len, p_conv, p_pick, p_indexAddr, p_slice, p_extract, p_not, b_add, b_sub, b_mul, b_eql, b_neq, b_lss, b_leq, b_gtr, b_geq, l_nil, l_slice, l_sliceU, x_load1, ↓reduceIte, Nat.reduceEqDiff, Nat.reduceAdd, Nat.reduceMul, Nat.reduceSub, reduceCtorEq, Nat.zero_add, Nat.add_zero, Nat.mul_one, w64, wu32, wu64, beqT, beqF, bneT, bneF, dT, dF, a_idx, a_idxU, a_hi, a_hiN, a_sl, r_ro0, r_rw0, r_sl0, r_succ, ints_get, toNat_sub1, nat_toNat, Nat.add_sub_cancel, q_tmp, q_then, h0, h1, h7, h8, k_len hk, a0, a1, a2, a3, i1, r0, g1, a4, a5, a6]
        refine loop_keep (m := 8 * M - (j + 1)) (by omega) ⟨j + 1, rfl, by omega, ?_, ?_, ?_, ?_, ?_⟩
        · simp only [e_upd, e_putS, e_putN, e_t, e_c, Nat.reduceEqDiff, ↓reduceIte, reduceCtorEq, Nat.reduceAdd, h0]
        · simp only [e_upd, e_putS, e_putN, e_t, e_c, Nat.reduceEqDiff, ↓reduceIte, reduceCtorEq, Nat.reduceAdd, h1]
        · simp only [e_upd, e_putS, e_putN, e_t, e_c, Nat.reduceEqDiff, ↓reduceIte, reduceCtorEq, Nat.reduceAdd]; rfl
        · simp only [e_upd, e_putS, e_putN, e_t, e_c, Nat.reduceEqDiff, ↓reduceIte, reduceCtorEq, Nat.reduceAdd, hst]
        · simp only [e_upd, e_putS, e_putN, e_t, e_c, Nat.reduceEqDiff, ↓reduceIte, reduceCtorEq, Nat.reduceAdd]; exact hg
      | false =>
        rw [hu] at a6 hst
        simp only [Bool.not_false, Bool.and_true] at hst
        simp (disch := omega) only [e_skip, e_ops, e_dops, e_seq, e_condI, e_condFb, e_gTF, e_gFT, e_gU, e_unv, e_bTT, e_bFF, e_bTF, e_bFT, e_beq1, e_beq2, Bool.not_true, Bool.not_false, e_block, e_exit, e_ret, e_seqN, e_seqE, e_seqR, e_blockN, e_blockR, e_blockE, e_nil, e_consN, e_consGI, e_nilD, e_consDN, e_consDGI, e_pure, e_eff, e_call, e_pureD, e_effD1, e_effD2, e_effD3, e_callD2, e_callD3, e_thenP, e_thenE, e_thenL, e_putS, e_putN, e_upd, e_t, e_c, e_none, e_some, e_bindS, p_move, p_bin, p_len, p_conv, p_pick, p_indexAddr, p_slice, p_extract, p_not, b_add, b_sub, b_mul, b_eql, b_neq, b_lss, b_leq, b_gtr, b_geq, l_nil, l_slice, l_sliceU, x_load1, ↓reduceIte, Nat.reduceEqDiff, Nat.reduceAdd, Nat.reduceMul, Nat.reduceSub, reduceCtorEq, Nat.zero_add, Nat.add_zero, Nat.mul_one, w64, wu32, wu64, beqT, beqF, bneT, bneF, dT, dF, a_idx, a_idxU, a_hi, a_hiN, a_sl, r_ro0, r_rw0, r_sl0, r_succ, ints_get, toNat_sub1, nat_toNat, Nat.add_sub_cancel, q_tmp, q_then, h0, h1, h7, h8, k_len hk, a0, a1, a2, a3, i1, r0, g1, a4, a5, a6]
        refine loop_keep (m := 8 * M - (j + 1)) (by omega) ⟨j + 1, rfl, by omega, ?_, ?_, ?_, ?_, ?_⟩
        · simp only [e_upd, e_putS, e_putN, e_t, e_c, Nat.reduceEqDiff, ↓reduceIte, reduceCtorEq, Nat.reduceAdd, h0]
        · simp only [e_upd, e_putS, e_putN, e_t, e_c, Nat.reduceEqDiff, ↓reduceIte, reduceCtorEq, Nat.reduceAdd, h1]
        · simp only [e_upd, e_putS, e_putN, e_t, e_c, Nat.reduceEqDiff, ↓reduceIte, reduceCtorEq, Nat.reduceAdd]; rfl
        · simp only [e_upd, e_putS, e_putN, e_t, e_c, Nat.reduceEqDiff, ↓reduceIte, reduceCtorEq, Nat.reduceAdd, hst, h7]
        · simp only [e_upd, e_putS, e_putN, e_t, e_c, Nat.reduceEqDiff, ↓reduceIte, reduceCtorEq, Nat.reduceAdd]; exact hg
  · have hjn : j = 8 * M := by omega
    subst hjn
    rw [show min (8 * M) n = n by omega] at hg
    simp (disch := omega) only [e_skip, e_ops, e_dops, e_seq, e_condI, e_condFb, e_gTF, e_gFT, e_gU, e_unv, e_bTT, e_bFF, e_bTF, e_bFT, e_beq1, e_beq2, Bool.not_true, Bool.not_false, e_block, e_exit, e_ret, e_seqN, e_seqE, e_seqR, e_blockN, e_blockR, e_blockE, e_nil, e_consN, e_consGI, e_nilD, e_consDN, e_consDGI, e_pure, e_eff, e_call, e_pureD, e_effD1, e_effD2, e_effD3, e_callD2, e_callD3, e_thenP, e_thenE, e_thenL, e_putS, e_putN, e_upd, e_t, e_c, e_none, e_some, e_bindS, p_move, p_bin, p_len, p_conv, p_pick, p_indexAddr, p_slice, p_extract, p_not, b_add, b_sub, b_mul, b_eql, b_neq, b_lss, b_leq, b_gtr, b_geq, l_nil, l_slice, l_sliceU, x_load1, ↓reduceIte, Nat.reduceEqDiff, Nat.reduceAdd, Nat.reduceMul, Nat.reduceSub, reduceCtorEq, Nat.zero_add, Nat.add_zero, Nat.mul_one, w64, wu32, wu64, beqT, beqF, bneT, bneF, dT, dF, a_idx, a_idxU, a_hi, a_hiN, a_sl, r_ro0, r_rw0, r_sl0, r_succ, ints_get, toNat_sub1, nat_toNat, Nat.add_sub_cancel, q_tmp, q_then, h0, h1, h7, h8, k_len hk, a0]
    refine ret_keep ?_ ?_
    · rcases hg with ⟨_, _, rfl⟩ | ⟨_, _, rfl⟩ <;> simp
    · unfold rs_rUnpack; rw [q_tmp2, q_then]
      refine ⟨s 6, ?_, hg⟩
      simp only [e_upd, e_putS, e_putN, e_t, e_c, Nat.reduceEqDiff, ↓reduceIte, reduceCtorEq, Nat.reduceAdd, h7]
end Go.Proofs.Ytebijlefkomplab
