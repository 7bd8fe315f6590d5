/- Facts on orders; two lists of numbers compared. -/
import Derived.Test.YtfedgjkcbmkjpaaO3
set_option linter.unusedSimpArgs false
set_option linter.unusedVariables false
-- NEWSET
namespace Go.Proofs.Ytfedgjkcbmkjpaa
open Go Go.Vh

theorem swapL_perm {l : List Int} {i j : Nat} (hi : i < l.length) (hj : j < l.length) : (swapL l i j).Perm l := by
  have := List.set_set_perm hi hj
  unfold swapL
  simp only [List.getD_eq_getElem?_getD, List.getElem?_eq_getElem hi, List.getElem?_eq_getElem hj, Option.getD_some]
  exact this
theorem fy_perm : ∀ (i st : Nat) (l : List Int), i < l.length ∨ i = 0 → (fy i st l).2.Perm l
  | 0, _, _, _ => List.Perm.refl _
  | i + 1, st, l, h => by
    rw [fy]
    have hj : Gf.draw st % (i + 2) < i + 2 := Nat.mod_lt _ (by omega)
    refine (fy_perm i _ _ ?_).trans (swapL_perm (by omega) (by omega))
    rw [swapL_length]; omega
theorem io_map (n : Nat) : io n n = (List.range n).map fun (j : Nat) => (j : Int) := by
  apply List.map_congr_left
  intro j hj
  rw [List.mem_range] at hj
  rw [if_pos hj]
theorem pml_perm (n st : Nat) : (pml n st).Perm ((List.range n).map fun (j : Nat) => (j : Int)) := by
  rw [← io_map]
  exact fy_perm _ _ _ (by rw [io_length]; omega)
theorem range_nodup (n : Nat) : ((List.range n).map fun (j : Nat) => (j : Int)).Nodup := by
  refine List.Pairwise.map _ (fun a b h => ?_) (List.nodup_range (n := n))
  intro e; exact h (by omega)
theorem pml_nodup (n st : Nat) : (pml n st).Nodup := (pml_perm n st).symm.nodup (range_nodup n)
theorem pml_mem {n st : Nat} {x : Int} : x ∈ pml n st ↔ 0 ≤ x ∧ x < n := by
  rw [(pml_perm n st).mem_iff]
  simp only [List.mem_map, List.mem_range]
  constructor
  · rintro ⟨j, h, rfl⟩; omega
  · intro h; exact ⟨x.toNat, by omega, by omega⟩
theorem pml_get {n st i : Nat} (h : i < n) : 0 ≤ (pml n st).getD i 0 ∧ (pml n st).getD i 0 < n := by
  have hl := pml_length n st
  have : (pml n st).getD i 0 ∈ pml n st := by
    simp only [List.getD_eq_getElem?_getD]
    rw [List.getElem?_eq_getElem (by omega)]
    exact List.getElem_mem _
  exact pml_mem.1 this
/-- a sample in order -/
abbrev smp (n k st : Nat) : List Int := srt ((pml n st).take k)
theorem smp_length {n k st : Nat} (h : k ≤ n) : (smp n k st).length = k := by
  rw [smp, srt, List.length_mergeSort, List.length_take, pml_length]; omega
theorem smp_get {n k st i : Nat} (hk : k ≤ n) (h : i < k) : 0 ≤ (smp n k st).getD i 0 ∧ (smp n k st).getD i 0 < n := by
  have hl := smp_length (st := st) hk
  have : (smp n k st).getD i 0 ∈ pml n st := by
    simp only [List.getD_eq_getElem?_getD]
    rw [List.getElem?_eq_getElem (by omega)]
    have h1 : (smp n k st)[i] ∈ smp n k st := List.getElem_mem _
    exact List.mem_of_mem_take ((List.mergeSort_perm _ _).mem_iff.1 h1)
  exact pml_mem.1 this
theorem smp_lt {n k st i : Nat} (hk : k ≤ n) (h : i + 1 < k) : (smp n k st).getD i 0 < (smp n k st).getD (i + 1) 0 := by
  have hl := smp_length (st := st) hk
  have hs : List.Pairwise (fun a b : Int => decide (a ≤ b) = true) (smp n k st) := List.pairwise_mergeSort (fun a b c h1 h2 => by simp only [decide_eq_true_eq] at *; omega) (fun a b => by simp only [Bool.or_eq_true, decide_eq_true_eq]; omega) _
  have hn : (smp n k st).Nodup := (List.mergeSort_perm _ _).symm.nodup (List.Nodup.sublist (List.take_sublist _ _) (pml_nodup n st))
  have h1 := List.pairwise_iff_getElem.1 hs i (i + 1) (by omega) (by omega) (by omega)
  have h2 := List.pairwise_iff_getElem.1 hn i (i + 1) (by omega) (by omega) (by omega)
  simp only [List.getD_eq_getElem?_getD]
  rw [List.getElem?_eq_getElem (by omega), List.getElem?_eq_getElem (by omega)]
  simp only [decide_eq_true_eq, Option.getD_some] at *
  omega

/-- how often each number has come -/
def seenL (n st i : Nat) : List Int := (List.range n).map fun (v : Nat) => ((((pml n st).take i).count (v : Int) : Nat) : Int)
theorem seenL_length (n st i : Nat) : (seenL n st i).length = n := by simp [seenL]
theorem seenL_zero (n st : Nat) : seenL n st 0 = List.replicate n 0 := by
  apply List.ext_getElem <;> simp [seenL]
theorem seenL_get {n st i v : Nat} (h : v < n) : (seenL n st i).getD v 0 = ((((pml n st).take i).count (v : Int) : Nat) : Int) := by simp [seenL, h]
theorem seenL_all {n st v : Nat} (h : v < n) : (seenL n st n).getD v 0 = 1 := by
  rw [seenL_get h, List.take_of_length_le (by rw [pml_length]; omega), (pml_nodup n st).count, if_pos (pml_mem.2 ⟨by omega, by omega⟩)]
  rfl
theorem seenL_step {n st i v : Nat} (hi : i < n) (hv : (pml n st).getD i 0 = (v : Int)) : (seenL n st i).set v ((seenL n st i).getD v 0 + 1) = seenL n st (i + 1) := by
  have hl := pml_length n st
  have hvn : v < n := by have := pml_get (st := st) hi; omega
  have ht : (pml n st).take (i + 1) = (pml n st).take i ++ [(v : Int)] := by
    rw [List.take_add_one, List.getElem?_eq_getElem (by omega)]
    simp only [List.getD_eq_getElem?_getD, List.getElem?_eq_getElem (show i < (pml n st).length by omega), Option.getD_some] at hv
    rw [hv]; rfl
  rw [seenL_get hvn]
  apply List.ext_getElem
  · simp [seenL]
  · intro j h1 h2
    rw [List.getElem_set]
    simp only [seenL, List.getElem_map, List.getElem_range, ht, List.count_append, List.count_singleton]
    by_cases hj : v = j
    · subst hj; simp
    · rw [if_neg hj]
      have : ((v : Int) == (j : Int)) = false := by rw [beq_eq_false_iff_ne]; omega
      simp [this]

theorem sameInts_calls (κ κ' : SK) (l l' : List Int) (hk : okS κ l.length) (hk' : okS κ' l'.length) (hn : l.length ≤ 1000000) (hn' : l'.length ≤ 1000000) :
    ACalls Try.prog 44 [mkS κ 0 0 l.length, mkS κ' 1 0 l'.length] [ro (ints .i64 l), ro (ints .i64 l')] (List.range 2) fun v H => v = .bool (decide (l = l')) ∧ H = [ro (ints .i64 l), ro (ints .i64 l')] := by
  refine ACalls.body Try.func44 ent_sameInts ir_sameInts_ok rs_sameInts_ok Try.ntmps44 (by simp) rfl ?_
  unfold ir_sameInts
  have e0 : s0 [mkS κ 0 0 l.length, mkS κ' 1 0 l'.length] 0 = mkS κ 0 0 l.length := rfl
  have e1 : s0 [mkS κ 0 0 l.length, mkS κ' 1 0 l'.length] 1 = mkS κ' 1 0 l'.length := rfl
  by_cases hl : l.length = l'.length
  case neg =>
    simp -implicitDefEqProofs (disch := omega) only [e_skip, e_ops, e_dops, e_seq, e_condI, e_condFb, e_gTF, e_gFT, e_gU, e_unv, e_bTT, e_bFF, e_bTF, e_bFT, e_beq1, e_beq2, Bool.not_true, Bool.not_false, e_block, e_exit, e_ret, e_seqN, e_seqE, e_seqR, e_blockN, e_blockR, e_blockE, e_nil, e_consN, e_consGI, e_nilD, e_consDN, e_consDGI, e_pure, e_eff, e_call, e_pureD, e_effD1, e_effD2, e_effD3, e_callD2, e_callD3, e_thenP, e_thenE, e_thenL, e_putS, e_putN, e_upd, e_t, e_c, e_none, e_some, e_bindS, p_move, p_bin, p_len, p_conv, p_pick, p_indexAddr, p_slice, p_extract, p_not, b_add, b_sub, b_mul, b_eql, b_neq, b_lss, b_leq, b_gtr, b_geq, l_nil, l_slice, l_sliceU, x_load1, ↓reduceIte, Nat.reduceEqDiff, Nat.reduceAdd, Nat.reduceMul, Nat.reduceSub, reduceCtorEq, Nat.zero_add, Nat.add_zero, Nat.mul_one, w64, wu32, wu64, beqT, beqF, bneT, bneF, dT, dF, a_idx, a_idxU, a_hi, a_hiN, a_sl, r_ro0, r_rw0, r_sl0, r_succ, ints_get, toNat_sub1, nat_toNat, Nat.add_sub_cancel, q_tmp, q_then, e0, e1, k_len hk, k_len hk']
    refine ret_keep (by simp) ⟨?_, rfl⟩
    simp only [e_upd, e_putS, e_putN, e_t, e_c, Nat.reduceEqDiff, ↓reduceIte, reduceCtorEq, Nat.reduceAdd]
    rw [show decide (l = l') = false by rw [decide_eq_false_iff_not]; intro e; exact hl (by rw [e])]
  simp -implicitDefEqProofs (disch := omega) only [e_skip, e_ops, e_dops, e_seq, e_condI, e_condFb, e_gTF, e_gFT, e_gU, e_unv, e_bTT, e_bFF, e_bTF, e_bFT, e_beq1, e_beq2, Bool.not_true, Bool.not_false, e_block, e_exit, e_ret, e_seqN, e_seqE, e_seqR, e_blockN, e_blockR, e_blockE, e_nil, e_consN, e_consGI, e_nilD, e_consDN, e_consDGI, e_pure, e_eff, e_call, e_pureD, e_effD1, e_effD2, e_effD3, e_callD2, e_callD3, e_thenP, e_thenE, e_thenL, e_putS, e_putN, e_upd, e_t, e_c, e_none, e_some, e_bindS, p_move, p_bin, p_len, p_conv, p_pick, p_indexAddr, p_slice, p_extract, p_not, b_add, b_sub, b_mul, b_eql, b_neq, b_lss, b_leq, b_gtr, b_geq, l_nil, l_slice, l_sliceU, x_load1, ↓reduceIte, Nat.reduceEqDiff, Nat.reduceAdd, Nat.reduceMul, Nat.reduceSub, reduceCtorEq, Nat.zero_add, Nat.add_zero, Nat.mul_one, w64, wu32, wu64, beqT, beqF, bneT, bneF, dT, dF, a_idx, a_idxU, a_hi, a_hiN, a_sl, r_ro0, r_rw0, r_sl0, r_succ, ints_get, toNat_sub1, nat_toNat, Nat.add_sub_cancel, q_tmp, q_then, e0, e1, k_len hk, k_len hk']
  refine ⟨fun t s H => ∃ i : Nat, i ≤ l.length ∧ t = l.length - i ∧ (∀ j, j < i → l.getD j 0 = l'.getD j 0) ∧ s 0 = mkS κ 0 0 l.length ∧ s 1 = mkS κ' 1 0 l'.length ∧ s 5 = .int .i64 i ∧ H = [ro (ints .i64 l), ro (ints .i64 l')], l.length, ⟨0, by omega, rfl, fun j hj => by omega, ?_, ?_, ?_, rfl⟩, ?_⟩
  · simp only [e_upd, e_putS, e_putN, e_t, e_c, Nat.reduceEqDiff, ↓reduceIte, reduceCtorEq, Nat.reduceAdd, e0]
  · simp only [e_upd, e_putS, e_putN, e_t, e_c, Nat.reduceEqDiff, ↓reduceIte, reduceCtorEq, Nat.reduceAdd, e1]
  · simp only [e_upd, e_putS, e_putN, e_t, e_c, Nat.reduceEqDiff, ↓reduceIte, reduceCtorEq, Nat.reduceAdd]; rfl
  rintro t s H ⟨i, hi, rfl, hall, h0, h1, h5, rfl⟩
  by_cases hlt : i < l.length
  · by_cases he : l.getD i 0 = l'.getD i 0
    · simp -implicitDefEqProofs (disch := omega) only [e_skip, e_ops, e_dops, e_seq, e_condI, e_condFb, e_gTF, e_gFT, e_gU, e_unv, e_bTT, e_bFF, e_bTF, e_bFT, e_beq1, e_beq2, Bool.not_true, Bool.not_false, e_block, e_exit, e_ret, e_seqN, e_seqE, e_seqR, e_blockN, e_blockR, e_blockE, e_nil, e_consN, e_consGI, e_nilD, e_consDN, e_consDGI, e_pure, e_eff, e_call, e_pureD, e_effD1, e_effD2, e_effD3, e_callD2, e_callD3, e_thenP, e_thenE, e_thenL, e_putS, e_putN, e_upd, e_t, e_c, e_none, e_some, e_bindS, p_move, p_bin, p_len, p_conv, p_pick, p_indexAddr, p_slice, p_extract, p_not, b_add, b_sub, b_mul, b_eql, b_neq, b_lss, b_leq, b_gtr, b_geq, l_nil, l_slice, l_sliceU, x_load1, ↓reduceIte, Nat.reduceEqDiff, Nat.reduceAdd, Nat.reduceMul, Nat.reduceSub, reduceCtorEq, Nat.zero_add, Nat.add_zero, Nat.mul_one, w64, wu32, wu64, beqT, beqF, bneT, bneF, dT, dF, a_idx, a_idxU, a_hi, a_hiN, a_sl, r_ro0, r_rw0, r_sl0, r_succ, ints_get, toNat_sub1, nat_toNat, Nat.add_sub_cancel, q_tmp, q_then, h0, h1, h5, k_len hk, k_len hk', k_idx hk, k_idx hk']
      refine loop_keep (m := l.length - (i + 1)) (by omega) ⟨i + 1, by omega, rfl, fun j hj => ?_, ?_, ?_, ?_, rfl⟩
      · by_cases hj' : j = i
        · subst hj'; exact he
        · exact hall j (by omega)
      · simp only [e_upd, e_putS, e_putN, e_t, e_c, Nat.reduceEqDiff, ↓reduceIte, reduceCtorEq, Nat.reduceAdd, h0]
      · simp only [e_upd, e_putS, e_putN, e_t, e_c, Nat.reduceEqDiff, ↓reduceIte, reduceCtorEq, Nat.reduceAdd, h1]
      · simp only [e_upd, e_putS, e_putN, e_t, e_c, Nat.reduceEqDiff, ↓reduceIte, reduceCtorEq, Nat.reduceAdd]; rfl
    · simp -implicitDefEqProofs (disch := omega) only [e_skip, e_ops, e_dops, e_seq, e_condI, e_condFb, e_gTF, e_gFT, e_gU, e_unv, e_bTT, e_bFF, e_bTF, e_bFT, e_beq1, e_beq2, Bool.not_true, Bool.not_false, e_block, e_exit, e_ret, e_seqN, e_seqE, e_seqR, e_blockN, e_blockR, e_blockE, e_nil, e_consN, e_consGI, e_nilD, e_consDN, e_consDGI, e_pure, e_eff, e_call, e_pureD, e_effD1, e_effD2, e_effD3, e_callD2, e_callD3, e_thenP, e_thenE, e_thenL, e_putS, e_putN, e_upd, e_t, e_c, e_none, e_some, e_bindS, p_move, p_bin, p_len, p_conv, p_pick, p_indexAddr, p_slice, p_extract, p_not, b_add, b_sub, b_mul, b_eql, b_neq, b_lss, b_leq, b_gtr, b_geq, l_nil, l_slice, l_sliceU, x_load1, ↓reduceIte, Nat.reduceEqDiff, Nat.reduceAdd, Nat.reduceMul, Nat.reduceSub, reduceCtorEq, Nat.zero_add, Nat.add_zero, Nat.mul_one, w64, wu32, wu64, beqT, beqF, bneT, bneF, dT, dF, a_idx, a_idxU, a_hi, a_hiN, a_sl, r_ro0, r_rw0, r_sl0, r_succ, ints_get, toNat_sub1, nat_toNat, Nat.add_sub_cancel, q_tmp, q_then, h0, h1, h5, k_len hk, k_len hk', k_idx hk, k_idx hk']
      refine ret_keep (by simp) ⟨?_, rfl⟩
      simp only [e_upd, e_putS, e_putN, e_t, e_c, Nat.reduceEqDiff, ↓reduceIte, reduceCtorEq, Nat.reduceAdd]
      rw [show decide (l = l') = false by rw [decide_eq_false_iff_not]; intro e; exact he (by rw [e])]
  · simp -implicitDefEqProofs (disch := omega) only [e_skip, e_ops, e_dops, e_seq, e_condI, e_condFb, e_gTF, e_gFT, e_gU, e_unv, e_bTT, e_bFF, e_bTF, e_bFT, e_beq1, e_beq2, Bool.not_true, Bool.not_false, e_block, e_exit, e_ret, e_seqN, e_seqE, e_seqR, e_blockN, e_blockR, e_blockE, e_nil, e_consN, e_consGI, e_nilD, e_consDN, e_consDGI, e_pure, e_eff, e_call, e_pureD, e_effD1, e_effD2, e_effD3, e_callD2, e_callD3, e_thenP, e_thenE, e_thenL, e_putS, e_putN, e_upd, e_t, e_c, e_none, e_some, e_bindS, p_move, p_bin, p_len, p_conv, p_pick, p_indexAddr, p_slice, p_extract, p_not, b_add, b_sub, b_mul, b_eql, b_neq, b_lss, b_leq, b_gtr, b_geq, l_nil, l_slice, l_sliceU, x_load1, ↓reduceIte, Nat.reduceEqDiff, Nat.reduceAdd, Nat.reduceMul, Nat.reduceSub, reduceCtorEq, Nat.zero_add, Nat.add_zero, Nat.mul_one, w64, wu32, wu64, beqT, beqF, bneT, bneF, dT, dF, a_idx, a_idxU, a_hi, a_hiN, a_sl, r_ro0, r_rw0, r_sl0, r_succ, ints_get, toNat_sub1, nat_toNat, Nat.add_sub_cancel, q_tmp, q_then, h0, h1, h5, k_len hk, k_len hk']
    refine ret_keep (by simp) ⟨?_, rfl⟩
    simp only [e_upd, e_putS, e_putN, e_t, e_c, Nat.reduceEqDiff, ↓reduceIte, reduceCtorEq, Nat.reduceAdd]
    rw [show decide (l = l') = true by
      rw [decide_eq_true_eq]
      apply List.ext_getElem hl
      intro j h1 h2
      have := hall j (by omega)
      simpa [List.getD_eq_getElem?_getD, h1, h2] using this]
end Go.Proofs.Ytfedgjkcbmkjpaa
