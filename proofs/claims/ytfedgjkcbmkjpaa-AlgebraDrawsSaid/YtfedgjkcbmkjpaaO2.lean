/- Contracts: below, permutation. -/
import Derived.Test.YtfedgjkcbmkjpaaO1
set_option linter.unusedSimpArgs false
set_option linter.unusedVariables false
-- NEWSET
namespace Go.Proofs.Ytfedgjkcbmkjpaa
open Go Go.Vh

section
variable {P : Program} {f : FuncId} {W0 : List Nat} {K : St → AHeap → Prop} {d : Option Nat} {s : St} {H : AHeap} {args caps args0 : List AV} {st st' r : Nat}
theorem seen_dr (hr : Vh.rowAt H r = dr r st) : seenAll H (sig [(r, 0)] H.length) 1 [dr 0 st] [(r, 0)] := by
  have hs : sig [(r, 0)] H.length 0 = some (r, 0) := rfl
  refine ⟨⟨⟨true, false, [.ptr r 0, .int .u64 st]⟩, hr, ?_, ?_, rfl, ?_⟩, trivial⟩
  · simp
  · simp [n_lcons, n_lnil, n_ptr hs, n_int]
  · intro _; exact ⟨rfl, rfl, rfl, rfl⟩
theorem ren_dr {m : Nat} : renRow (sig [(r, 0)] m) (dr 0 st) = dr r st := by
  have hs : sig [(r, 0)] m 0 = some (r, 0) := rfl
  simp [renRow, dr, n_lcons, n_lnil, n_ptr hs, n_int]
/-- A call that reaches the draws in the row r. -/
theorem call_drG {R0 : AV → AHeap → Prop} (h : ACalls P f args0 [dr 0 st] W0 R0) (hu : underL 1 args0 = true) (hr : Vh.rowAt H r = dr r st)
    (hargs : args ++ caps = renL (sig [(r, 0)] H.length) args0) (hK : ∀ v st' new, R0 v (dr 0 st' :: new) → K (putI d s (v.ren (sig [(r, 0)] H.length))) (H.set r (dr r st') ++ new.map (renRow (sig [(r, 0)] H.length)))) (hR : ∀ v H', R0 v H' → ∃ st' new, H' = dr 0 st' :: new) : thenC P K d s H args (.func f caps) := by
  refine call_do h [(r, 0)] rfl hu rfl hargs (seen_dr hr) fun v0 H0' h0 => ?_
  obtain ⟨st', new, rfl⟩ := hR _ _ h0
  have := hK _ _ _ h0
  rw [m_merge]
  have e : mergeGo (sig [(r, 0)] H.length) (dr 0 st' :: new) [dr 0 st] [(r, 0)] 0 H = H.set r (dr r st') := by
    show H.set r (renRow (sig [(r, 0)] H.length) (Vh.rowAt (dr 0 st' :: new) 0)) = _
    rw [show Vh.rowAt (dr 0 st' :: new) 0 = dr 0 st' from rfl, ren_dr]
  rw [e]
  exact this
end

theorem below_calls (st n : Nat) (hn : 0 < n) (hn' : n ≤ 65536) : ACalls Try.prog 87 [.int .i64 n, .bound 40 [.ptr 0 0] []] [dr 0 st] [0] fun v H => v = .int .i64 ((Gf.draw st % n : Nat) : Int) ∧ H = [dr 0 (Gf.nextS st)] := by
  refine ACalls.body Try.func87 ent_below ir_below_ok rs_below_ok Try.ntmps87 (by simp) rfl ?_
  unfold ir_below
  have e0 : s0 [.int .i64 (n : Int), .bound 40 [.ptr 0 0] []] 0 = .int .i64 n := rfl
  have e1 : s0 [.int .i64 (n : Int), .bound 40 [.ptr 0 0] []] 1 = .bound 40 [.ptr 0 0] [] := rfl
  have hm := Nat.mod_lt (Gf.draw st) hn
  have hb : abin .rem (.int .u64 ((Gf.draw st : Nat) : Int)) (.int .u64 (n : Int)) = some (.int .u64 ((Gf.draw st % n : Nat) : Int)) := by
    rw [b_rem (by omega) (by omega), Int.natCast_emod]
  simp -implicitDefEqProofs (disch := omega) only [e_skip, e_ops, e_dops, e_seq, e_condI, e_condFb, e_gTF, e_gFT, e_gU, e_unv, e_bTT, e_bFF, e_bTF, e_bFT, e_beq1, e_beq2, Bool.not_true, Bool.not_false, e_block, e_exit, e_ret, e_seqN, e_seqE, e_seqR, e_blockN, e_blockR, e_blockE, e_nil, e_consN, e_consGI, e_nilD, e_consDN, e_consDGI, e_pure, e_eff, e_call, e_pureD, e_effD1, e_effD2, e_effD3, e_callD2, e_callD3, e_thenP, e_thenE, e_thenL, e_putS, e_putN, e_upd, e_t, e_c, e_none, e_some, e_bindS, p_move, p_bin, p_len, p_conv, p_pick, p_indexAddr, p_slice, p_extract, p_not, b_add, b_sub, b_mul, b_eql, b_neq, b_lss, b_leq, b_gtr, b_geq, l_nil, l_slice, l_sliceU, x_load1, ↓reduceIte, Nat.reduceEqDiff, Nat.reduceAdd, Nat.reduceMul, Nat.reduceSub, reduceCtorEq, Nat.zero_add, Nat.add_zero, Nat.mul_one, w64, wu32, wu64, beqT, beqF, bneT, bneF, dT, dF, a_idx, a_idxU, a_hi, a_hiN, a_sl, r_ro0, r_rw0, r_sl0, r_succ, ints_get, toNat_sub1, nat_toNat, Nat.add_sub_cancel, q_tmp, q_then, p_makeFunc, p_makeBound, p_field, p_fieldAddr, p_nilCheck, p_build, p_eqPtr, p_binB, p_lenStr, x_alloc, x_box, x_loadN, x_put, anew, aput, cellsAt, Vh.rowAt, afill, aparts, AV.cell, splice, aptr, List.all_cons, List.all_nil, Bool.and_self, Bool.and_true, Bool.true_and, List.length_cons, List.length_nil, List.nil_append, List.cons_append, List.map_cons, List.map_nil, List.take_succ_cons, List.take_zero, List.drop_succ_cons, List.drop_zero, List.take_nil, List.drop_nil, List.getElem?_cons_zero, List.getElem?_cons_succ, List.getElem?_nil, Option.getD_some, Option.getD_none, Option.bind_some, Option.map_some, List.set_cons_zero, List.set_cons_succ, List.set_nil, List.append_nil, Nat.le_refl, Nat.reduceLeDiff, and_self, and_true, true_and, Bool.false_eq_true, Bool.not_true, Bool.not_false, e0, e1]
  refine call_bound ?_
  refine call_dr (st := st) (st' := Gf.nextS st) (r := 0) (rest := []) (dNext_calls st) rfl rfl rfl rfl ?_
  simp -implicitDefEqProofs (disch := omega) only [e_skip, e_ops, e_dops, e_seq, e_condI, e_condFb, e_gTF, e_gFT, e_gU, e_unv, e_bTT, e_bFF, e_bTF, e_bFT, e_beq1, e_beq2, Bool.not_true, Bool.not_false, e_block, e_exit, e_ret, e_seqN, e_seqE, e_seqR, e_blockN, e_blockR, e_blockE, e_nil, e_consN, e_consGI, e_nilD, e_consDN, e_consDGI, e_pure, e_eff, e_call, e_pureD, e_effD1, e_effD2, e_effD3, e_callD2, e_callD3, e_thenP, e_thenE, e_thenL, e_putS, e_putN, e_upd, e_t, e_c, e_none, e_some, e_bindS, p_move, p_bin, p_len, p_conv, p_pick, p_indexAddr, p_slice, p_extract, p_not, b_add, b_sub, b_mul, b_eql, b_neq, b_lss, b_leq, b_gtr, b_geq, l_nil, l_slice, l_sliceU, x_load1, ↓reduceIte, Nat.reduceEqDiff, Nat.reduceAdd, Nat.reduceMul, Nat.reduceSub, reduceCtorEq, Nat.zero_add, Nat.add_zero, Nat.mul_one, w64, wu32, wu64, beqT, beqF, bneT, bneF, dT, dF, a_idx, a_idxU, a_hi, a_hiN, a_sl, r_ro0, r_rw0, r_sl0, r_succ, ints_get, toNat_sub1, nat_toNat, Nat.add_sub_cancel, q_tmp, q_then, p_makeFunc, p_makeBound, p_field, p_fieldAddr, p_nilCheck, p_build, p_eqPtr, p_binB, p_lenStr, x_alloc, x_box, x_loadN, x_put, anew, aput, cellsAt, Vh.rowAt, afill, aparts, AV.cell, splice, aptr, List.all_cons, List.all_nil, Bool.and_self, Bool.and_true, Bool.true_and, List.length_cons, List.length_nil, List.nil_append, List.cons_append, List.map_cons, List.map_nil, List.take_succ_cons, List.take_zero, List.drop_succ_cons, List.drop_zero, List.take_nil, List.drop_nil, List.getElem?_cons_zero, List.getElem?_cons_succ, List.getElem?_nil, Option.getD_some, Option.getD_none, Option.bind_some, Option.map_some, List.set_cons_zero, List.set_cons_succ, List.set_nil, List.append_nil, Nat.le_refl, Nat.reduceLeDiff, and_self, and_true, true_and, Bool.false_eq_true, Bool.not_true, Bool.not_false, e0, hb]
  exact ret_keep (by simp) ⟨by simp only [e_upd, e_putS, e_putN, e_t, e_c, Nat.reduceEqDiff, ↓reduceIte, reduceCtorEq, Nat.reduceAdd], rfl⟩

/-- two elements exchanged -/
def swapL (l : List Int) (i j : Nat) : List Int := (l.set i (l.getD j 0)).set j (l.getD i 0)
/-- the exchanges from i down to 1 -/
def fy : Nat → Nat → List Int → Nat × List Int
  | 0, st, l => (st, l)
  | i + 1, st, l => fy i (Gf.nextS st) (swapL l (i + 1) (Gf.draw st % (i + 2)))
def io (n i : Nat) : List Int := (List.range n).map fun j => if j < i then (j : Int) else 0
theorem io_length (n i : Nat) : (io n i).length = n := by simp [io]
theorem io_zero (n : Nat) : io n 0 = List.replicate n 0 := by
  apply List.ext_getElem <;> simp [io]
theorem io_step {n i : Nat} (h : i < n) : (io n i).set i (i : Int) = io n (i + 1) := by
  apply List.ext_getElem
  · simp [io]
  · intro j h1 h2
    simp only [io, List.length_map, List.length_range] at h2
    rw [List.getElem_set]
    simp only [io, List.getElem_map, List.getElem_range]
    by_cases hj : i = j
    · subst hj; simp
    · rw [if_neg hj]
      by_cases h3 : j < i
      · rw [if_pos h3, if_pos (by omega)]
      · rw [if_neg h3, if_neg (by omega)]
theorem swapL_length (l : List Int) (i j : Nat) : (swapL l i j).length = l.length := by simp [swapL]
theorem fy_length : ∀ (i st : Nat) (l : List Int), (fy i st l).2.length = l.length
  | 0, _, _ => rfl
  | i + 1, st, l => by rw [fy, fy_length i, swapL_length]

/-- the state, and the order -/
def pst (n st : Nat) : Nat := (fy (n - 1) st (io n n)).1
def pml (n st : Nat) : List Int := (fy (n - 1) st (io n n)).2
theorem pml_length (n st : Nat) : (pml n st).length = n := by rw [pml, fy_length, io_length]

theorem perm_calls (st n : Nat) (hn : n ≤ 65536) : ACalls Try.prog 75 [.int .i64 n, .bound 40 [.ptr 0 0] []] [dr 0 st] [0] fun v H => v = .slice 1 0 n n ∧ H = [dr 0 (pst n st), rw_ (ints .i64 (pml n st))] := by
  refine ACalls.body Try.func75 ent_perm ir_perm_ok rs_perm_ok Try.ntmps75 (by simp) rfl ?_
  unfold ir_perm
  have e0 : s0 [.int .i64 (n : Int), .bound 40 [.ptr 0 0] []] 0 = .int .i64 n := rfl
  have e1 : s0 [.int .i64 (n : Int), .bound 40 [.ptr 0 0] []] 1 = .bound 40 [.ptr 0 0] [] := rfl
  simp -implicitDefEqProofs (disch := omega) only [e_skip, e_ops, e_dops, e_seq, e_condI, e_condFb, e_gTF, e_gFT, e_gU, e_unv, e_bTT, e_bFF, e_bTF, e_bFT, e_beq1, e_beq2, Bool.not_true, Bool.not_false, e_block, e_exit, e_ret, e_seqN, e_seqE, e_seqR, e_blockN, e_blockR, e_blockE, e_nil, e_consN, e_consGI, e_nilD, e_consDN, e_consDGI, e_pure, e_eff, e_call, e_pureD, e_effD1, e_effD2, e_effD3, e_callD2, e_callD3, e_thenP, e_thenE, e_thenL, e_putS, e_putN, e_upd, e_t, e_c, e_none, e_some, e_bindS, p_move, p_bin, p_len, p_conv, p_pick, p_indexAddr, p_slice, p_extract, p_not, b_add, b_sub, b_mul, b_eql, b_neq, b_lss, b_leq, b_gtr, b_geq, l_nil, l_slice, l_sliceU, x_load1, ↓reduceIte, Nat.reduceEqDiff, Nat.reduceAdd, Nat.reduceMul, Nat.reduceSub, reduceCtorEq, Nat.zero_add, Nat.add_zero, Nat.mul_one, w64, wu32, wu64, beqT, beqF, bneT, bneF, dT, dF, a_idx, a_idxU, a_hi, a_hiN, a_sl, r_ro0, r_rw0, r_sl0, r_succ, ints_get, toNat_sub1, nat_toNat, Nat.add_sub_cancel, q_tmp, q_then, e0, e1]
  rw [x_make (n := (n : Int)) (by simp only [e_upd, e_putS, e_putN, e_t, e_c, Nat.reduceEqDiff, ↓reduceIte, reduceCtorEq, Nat.reduceAdd, e0]) (by omega) (by omega) (by omega)]
  simp -implicitDefEqProofs (disch := omega) only [e_skip, e_ops, e_dops, e_seq, e_condI, e_condFb, e_gTF, e_gFT, e_gU, e_unv, e_bTT, e_bFF, e_bTF, e_bFT, e_beq1, e_beq2, Bool.not_true, Bool.not_false, e_block, e_exit, e_ret, e_seqN, e_seqE, e_seqR, e_blockN, e_blockR, e_blockE, e_nil, e_consN, e_consGI, e_nilD, e_consDN, e_consDGI, e_pure, e_eff, e_call, e_pureD, e_effD1, e_effD2, e_effD3, e_callD2, e_callD3, e_thenP, e_thenE, e_thenL, e_putS, e_putN, e_upd, e_t, e_c, e_none, e_some, e_bindS, p_move, p_bin, p_len, p_conv, p_pick, p_indexAddr, p_slice, p_extract, p_not, b_add, b_sub, b_mul, b_eql, b_neq, b_lss, b_leq, b_gtr, b_geq, l_nil, l_slice, l_sliceU, x_load1, ↓reduceIte, Nat.reduceEqDiff, Nat.reduceAdd, Nat.reduceMul, Nat.reduceSub, reduceCtorEq, Nat.zero_add, Nat.add_zero, Nat.mul_one, w64, wu32, wu64, beqT, beqF, bneT, bneF, dT, dF, a_idx, a_idxU, a_hi, a_hiN, a_sl, r_ro0, r_rw0, r_sl0, r_succ, ints_get, toNat_sub1, nat_toNat, Nat.add_sub_cancel, q_tmp, q_then, e0, e1]
  refine ⟨fun t s H => ∃ i : Nat, i ≤ n ∧ t = n - i ∧ s 0 = .int .i64 n ∧ s 1 = .bound 40 [.ptr 0 0] [] ∧ s 5 = .slice 1 0 n n ∧ s 12 = .int .i64 n ∧ s 13 = .int .i64 i ∧ H = [dr 0 st, rw_ (ints .i64 (io n i))], n, ⟨0, by omega, rfl, ?_, ?_, ?_, ?_, ?_, ?_⟩, ?_⟩
  · simp only [e_upd, e_putS, e_putN, e_t, e_c, Nat.reduceEqDiff, ↓reduceIte, reduceCtorEq, Nat.reduceAdd, e0]
  · simp only [e_upd, e_putS, e_putN, e_t, e_c, Nat.reduceEqDiff, ↓reduceIte, reduceCtorEq, Nat.reduceAdd, e1]
  · simp only [e_upd, e_putS, e_putN, e_t, e_c, Nat.reduceEqDiff, ↓reduceIte, reduceCtorEq, Nat.reduceAdd]; rfl
  · simp only [e_upd, e_putS, e_putN, e_t, e_c, Nat.reduceEqDiff, ↓reduceIte, reduceCtorEq, Nat.reduceAdd, nat_toNat]
  · simp only [e_upd, e_putS, e_putN, e_t, e_c, Nat.reduceEqDiff, ↓reduceIte, reduceCtorEq, Nat.reduceAdd]; rfl
  · rw [io_zero]; rfl
  rintro t s H ⟨i, hi, rfl, h0, h1, h5, h12, h13, rfl⟩
  by_cases hlt : i < n
  · simp -implicitDefEqProofs (disch := omega) only [e_skip, e_ops, e_dops, e_seq, e_condI, e_condFb, e_gTF, e_gFT, e_gU, e_unv, e_bTT, e_bFF, e_bTF, e_bFT, e_beq1, e_beq2, Bool.not_true, Bool.not_false, e_block, e_exit, e_ret, e_seqN, e_seqE, e_seqR, e_blockN, e_blockR, e_blockE, e_nil, e_consN, e_consGI, e_nilD, e_consDN, e_consDGI, e_pure, e_eff, e_call, e_pureD, e_effD1, e_effD2, e_effD3, e_callD2, e_callD3, e_thenP, e_thenE, e_thenL, e_putS, e_putN, e_upd, e_t, e_c, e_none, e_some, e_bindS, p_move, p_bin, p_len, p_conv, p_pick, p_indexAddr, p_slice, p_extract, p_not, b_add, b_sub, b_mul, b_eql, b_neq, b_lss, b_leq, b_gtr, b_geq, l_nil, l_slice, l_sliceU, x_load1, ↓reduceIte, Nat.reduceEqDiff, Nat.reduceAdd, Nat.reduceMul, Nat.reduceSub, reduceCtorEq, Nat.zero_add, Nat.add_zero, Nat.mul_one, w64, wu32, wu64, beqT, beqF, bneT, bneF, dT, dF, a_idx, a_idxU, a_hi, a_hiN, a_sl, r_ro0, r_rw0, r_sl0, r_succ, ints_get, toNat_sub1, nat_toNat, Nat.add_sub_cancel, q_tmp, q_then, h0, h1, h5, h12, h13]
    rw [x_store (r := 1) (off := i) (k := .i64) (b := (i : Int)) (l := io n i) (by simp only [e_upd, e_putS, e_putN, e_t, e_c, Nat.reduceEqDiff, ↓reduceIte, reduceCtorEq, Nat.reduceAdd]) (by simp only [e_upd, e_putS, e_putN, e_t, e_c, Nat.reduceEqDiff, ↓reduceIte, reduceCtorEq, Nat.reduceAdd]) rfl (by rw [io_length]; exact hlt), io_step hlt]
    simp -implicitDefEqProofs (disch := omega) only [e_skip, e_ops, e_dops, e_seq, e_condI, e_condFb, e_gTF, e_gFT, e_gU, e_unv, e_bTT, e_bFF, e_bTF, e_bFT, e_beq1, e_beq2, Bool.not_true, Bool.not_false, e_block, e_exit, e_ret, e_seqN, e_seqE, e_seqR, e_blockN, e_blockR, e_blockE, e_nil, e_consN, e_consGI, e_nilD, e_consDN, e_consDGI, e_pure, e_eff, e_call, e_pureD, e_effD1, e_effD2, e_effD3, e_callD2, e_callD3, e_thenP, e_thenE, e_thenL, e_putS, e_putN, e_upd, e_t, e_c, e_none, e_some, e_bindS, p_move, p_bin, p_len, p_conv, p_pick, p_indexAddr, p_slice, p_extract, p_not, b_add, b_sub, b_mul, b_eql, b_neq, b_lss, b_leq, b_gtr, b_geq, l_nil, l_slice, l_sliceU, x_load1, ↓reduceIte, Nat.reduceEqDiff, Nat.reduceAdd, Nat.reduceMul, Nat.reduceSub, reduceCtorEq, Nat.zero_add, Nat.add_zero, Nat.mul_one, w64, wu32, wu64, beqT, beqF, bneT, bneF, dT, dF, a_idx, a_idxU, a_hi, a_hiN, a_sl, r_ro0, r_rw0, r_sl0, r_succ, ints_get, toNat_sub1, nat_toNat, Nat.add_sub_cancel, q_tmp, q_then, h0, h1, h5, h12, h13]
    refine loop_keep (m := n - (i + 1)) (by omega) ⟨i + 1, by omega, rfl, ?_, ?_, ?_, ?_, ?_, rfl⟩
    · simp only [e_upd, e_putS, e_putN, e_t, e_c, Nat.reduceEqDiff, ↓reduceIte, reduceCtorEq, Nat.reduceAdd, h0]
    · simp only [e_upd, e_putS, e_putN, e_t, e_c, Nat.reduceEqDiff, ↓reduceIte, reduceCtorEq, Nat.reduceAdd, h1]
    · simp only [e_upd, e_putS, e_putN, e_t, e_c, Nat.reduceEqDiff, ↓reduceIte, reduceCtorEq, Nat.reduceAdd, h5]
    · simp only [e_upd, e_putS, e_putN, e_t, e_c, Nat.reduceEqDiff, ↓reduceIte, reduceCtorEq, Nat.reduceAdd, h12]
    · simp only [e_upd, e_putS, e_putN, e_t, e_c, Nat.reduceEqDiff, ↓reduceIte, reduceCtorEq, Nat.reduceAdd]; rfl
  obtain rfl : i = n := by omega
  simp -implicitDefEqProofs (disch := omega) only [e_skip, e_ops, e_dops, e_seq, e_condI, e_condFb, e_gTF, e_gFT, e_gU, e_unv, e_bTT, e_bFF, e_bTF, e_bFT, e_beq1, e_beq2, Bool.not_true, Bool.not_false, e_block, e_exit, e_ret, e_seqN, e_seqE, e_seqR, e_blockN, e_blockR, e_blockE, e_nil, e_consN, e_consGI, e_nilD, e_consDN, e_consDGI, e_pure, e_eff, e_call, e_pureD, e_effD1, e_effD2, e_effD3, e_callD2, e_callD3, e_thenP, e_thenE, e_thenL, e_putS, e_putN, e_upd, e_t, e_c, e_none, e_some, e_bindS, p_move, p_bin, p_len, p_conv, p_pick, p_indexAddr, p_slice, p_extract, p_not, b_add, b_sub, b_mul, b_eql, b_neq, b_lss, b_leq, b_gtr, b_geq, l_nil, l_slice, l_sliceU, x_load1, ↓reduceIte, Nat.reduceEqDiff, Nat.reduceAdd, Nat.reduceMul, Nat.reduceSub, reduceCtorEq, Nat.zero_add, Nat.add_zero, Nat.mul_one, w64, wu32, wu64, beqT, beqF, bneT, bneF, dT, dF, a_idx, a_idxU, a_hi, a_hiN, a_sl, r_ro0, r_rw0, r_sl0, r_succ, ints_get, toNat_sub1, nat_toNat, Nat.add_sub_cancel, q_tmp, q_then, h0, h1, h5, h12, h13]
  refine ⟨fun t s H => ∃ (k : Nat) (st' : Nat) (l : List Int), t = k ∧ k ≤ i - 1 ∧ l.length = i ∧ fy k st' l = fy (i - 1) st (io i i) ∧ s 1 = .bound 40 [.ptr 0 0] [] ∧ s 5 = .slice 1 0 i i ∧ s 7 = .int .i64 (if i = 0 then -1 else (k : Int)) ∧ H = [dr 0 st', rw_ (ints .i64 l)], i - 1, ⟨i - 1, st, io i i, rfl, by omega, io_length _ _, rfl, ?_, ?_, ?_, rfl⟩, ?_⟩
  · simp only [e_upd, e_putS, e_putN, e_t, e_c, Nat.reduceEqDiff, ↓reduceIte, reduceCtorEq, Nat.reduceAdd, h1]
  · simp only [e_upd, e_putS, e_putN, e_t, e_c, Nat.reduceEqDiff, ↓reduceIte, reduceCtorEq, Nat.reduceAdd, h5]
  · simp only [e_upd, e_putS, e_putN, e_t, e_c, Nat.reduceEqDiff, ↓reduceIte, reduceCtorEq, Nat.reduceAdd]
    congr 1
    split <;> omega
  rintro t s H ⟨k, st', l, rfl, hk, hl, hfy, h1, h5, h7, rfl⟩
  cases t with
  | succ k =>
    have hi0 : i ≠ 0 := by omega
    rw [if_neg hi0] at h7
    have hcast : (((k + 1 : Nat) : Int)) = (k : Int) + 1 := by omega
    rw [hcast] at h7
    simp -implicitDefEqProofs (disch := omega) only [e_skip, e_ops, e_dops, e_seq, e_condI, e_condFb, e_gTF, e_gFT, e_gU, e_unv, e_bTT, e_bFF, e_bTF, e_bFT, e_beq1, e_beq2, Bool.not_true, Bool.not_false, e_block, e_exit, e_ret, e_seqN, e_seqE, e_seqR, e_blockN, e_blockR, e_blockE, e_nil, e_consN, e_consGI, e_nilD, e_consDN, e_consDGI, e_pure, e_eff, e_call, e_pureD, e_effD1, e_effD2, e_effD3, e_callD2, e_callD3, e_thenP, e_thenE, e_thenL, e_putS, e_putN, e_upd, e_t, e_c, e_none, e_some, e_bindS, p_move, p_bin, p_len, p_conv, p_pick, p_indexAddr, p_slice, p_extract, p_not, b_add, b_sub, b_mul, b_eql, b_neq, b_lss, b_leq, b_gtr, b_geq, l_nil, l_slice, l_sliceU, x_load1, ↓reduceIte, Nat.reduceEqDiff, Nat.reduceAdd, Nat.reduceMul, Nat.reduceSub, reduceCtorEq, Nat.zero_add, Nat.add_zero, Nat.mul_one, w64, wu32, wu64, beqT, beqF, bneT, bneF, dT, dF, a_idx, a_idxU, a_hi, a_hiN, a_sl, r_ro0, r_rw0, r_sl0, r_succ, ints_get, toNat_sub1, nat_toNat, Nat.add_sub_cancel, q_tmp, q_then, h1, h5, h7]
    have hb := below_calls st' (k + 2) (by omega) (by omega)
    rw [show (((k + 2 : Nat)) : Int) = (k : Int) + 1 + 1 by omega] at hb
    refine call_drG (r := 0) (st := st') hb rfl rfl rfl ?_ (fun v H' h => ⟨_, _, h.2⟩)
    rintro v0 st2 new ⟨rfl, h2⟩
    obtain ⟨rfl, rfl⟩ : Gf.nextS st' = st2 ∧ new = [] := by
      simp only [dr, List.cons.injEq, Option.some.injEq, ARow.mk.injEq, AV.int.injEq, true_and, and_true] at h2
      exact ⟨by omega, h2.2⟩
    rw [n_int]
    rw [show [dr 0 st', rw_ (ints .i64 l)].set 0 (dr 0 (Gf.nextS st')) ++ List.map (renRow (sig [(0, 0)] [dr 0 st', rw_ (ints .i64 l)].length)) [] = [dr 0 (Gf.nextS st'), rw_ (ints .i64 l)] from rfl]
    obtain ⟨j, hj⟩ : ∃ j, Gf.draw st' % (k + 2) = j := ⟨_, rfl⟩
    have hjlt : j < k + 2 := by rw [← hj]; exact Nat.mod_lt _ (by omega)
    rw [hj]
    have hk1 : ((k : Int) + 1).toNat = k + 1 := by omega
    simp -implicitDefEqProofs (disch := omega) only [e_skip, e_ops, e_dops, e_seq, e_condI, e_condFb, e_gTF, e_gFT, e_gU, e_unv, e_bTT, e_bFF, e_bTF, e_bFT, e_beq1, e_beq2, Bool.not_true, Bool.not_false, e_block, e_exit, e_ret, e_seqN, e_seqE, e_seqR, e_blockN, e_blockR, e_blockE, e_nil, e_consN, e_consGI, e_nilD, e_consDN, e_consDGI, e_pure, e_eff, e_call, e_pureD, e_effD1, e_effD2, e_effD3, e_callD2, e_callD3, e_thenP, e_thenE, e_thenL, e_putS, e_putN, e_upd, e_t, e_c, e_none, e_some, e_bindS, p_move, p_bin, p_len, p_conv, p_pick, p_indexAddr, p_slice, p_extract, p_not, b_add, b_sub, b_mul, b_eql, b_neq, b_lss, b_leq, b_gtr, b_geq, l_nil, l_slice, l_sliceU, x_load1, ↓reduceIte, Nat.reduceEqDiff, Nat.reduceAdd, Nat.reduceMul, Nat.reduceSub, reduceCtorEq, Nat.zero_add, Nat.add_zero, Nat.mul_one, w64, wu32, wu64, beqT, beqF, bneT, bneF, dT, dF, a_idx, a_idxU, a_hi, a_hiN, a_sl, r_ro0, r_rw0, r_sl0, r_succ, ints_get, toNat_sub1, nat_toNat, Nat.add_sub_cancel, q_tmp, q_then, h1, h5, h7, ints_get, hl, hk1]
    rw [x_store (r := 1) (off := k + 1) (k := .i64) (b := l.getD j 0) (l := l) (by simp only [e_upd, e_putS, e_putN, e_t, e_c, Nat.reduceEqDiff, ↓reduceIte, reduceCtorEq, Nat.reduceAdd]) (by simp only [e_upd, e_putS, e_putN, e_t, e_c, Nat.reduceEqDiff, ↓reduceIte, reduceCtorEq, Nat.reduceAdd]) rfl (by omega)]
    simp -implicitDefEqProofs (disch := omega) only [e_skip, e_ops, e_dops, e_seq, e_condI, e_condFb, e_gTF, e_gFT, e_gU, e_unv, e_bTT, e_bFF, e_bTF, e_bFT, e_beq1, e_beq2, Bool.not_true, Bool.not_false, e_block, e_exit, e_ret, e_seqN, e_seqE, e_seqR, e_blockN, e_blockR, e_blockE, e_nil, e_consN, e_consGI, e_nilD, e_consDN, e_consDGI, e_pure, e_eff, e_call, e_pureD, e_effD1, e_effD2, e_effD3, e_callD2, e_callD3, e_thenP, e_thenE, e_thenL, e_putS, e_putN, e_upd, e_t, e_c, e_none, e_some, e_bindS, p_move, p_bin, p_len, p_conv, p_pick, p_indexAddr, p_slice, p_extract, p_not, b_add, b_sub, b_mul, b_eql, b_neq, b_lss, b_leq, b_gtr, b_geq, l_nil, l_slice, l_sliceU, x_load1, ↓reduceIte, Nat.reduceEqDiff, Nat.reduceAdd, Nat.reduceMul, Nat.reduceSub, reduceCtorEq, Nat.zero_add, Nat.add_zero, Nat.mul_one, w64, wu32, wu64, beqT, beqF, bneT, bneF, dT, dF, a_idx, a_idxU, a_hi, a_hiN, a_sl, r_ro0, r_rw0, r_sl0, r_succ, ints_get, toNat_sub1, nat_toNat, Nat.add_sub_cancel, q_tmp, q_then, h1, h5, h7, hl, hk1]
    rw [x_store (r := 1) (off := j) (k := .i64) (b := l.getD (k + 1) 0) (l := l.set (k + 1) (l.getD j 0)) (by simp only [e_upd, e_putS, e_putN, e_t, e_c, Nat.reduceEqDiff, ↓reduceIte, reduceCtorEq, Nat.reduceAdd]) (by simp only [e_upd, e_putS, e_putN, e_t, e_c, Nat.reduceEqDiff, ↓reduceIte, reduceCtorEq, Nat.reduceAdd]) rfl (by rw [List.length_set]; omega)]
    simp -implicitDefEqProofs (disch := omega) only [e_skip, e_ops, e_dops, e_seq, e_condI, e_condFb, e_gTF, e_gFT, e_gU, e_unv, e_bTT, e_bFF, e_bTF, e_bFT, e_beq1, e_beq2, Bool.not_true, Bool.not_false, e_block, e_exit, e_ret, e_seqN, e_seqE, e_seqR, e_blockN, e_blockR, e_blockE, e_nil, e_consN, e_consGI, e_nilD, e_consDN, e_consDGI, e_pure, e_eff, e_call, e_pureD, e_effD1, e_effD2, e_effD3, e_callD2, e_callD3, e_thenP, e_thenE, e_thenL, e_putS, e_putN, e_upd, e_t, e_c, e_none, e_some, e_bindS, p_move, p_bin, p_len, p_conv, p_pick, p_indexAddr, p_slice, p_extract, p_not, b_add, b_sub, b_mul, b_eql, b_neq, b_lss, b_leq, b_gtr, b_geq, l_nil, l_slice, l_sliceU, x_load1, ↓reduceIte, Nat.reduceEqDiff, Nat.reduceAdd, Nat.reduceMul, Nat.reduceSub, reduceCtorEq, Nat.zero_add, Nat.add_zero, Nat.mul_one, w64, wu32, wu64, beqT, beqF, bneT, bneF, dT, dF, a_idx, a_idxU, a_hi, a_hiN, a_sl, r_ro0, r_rw0, r_sl0, r_succ, ints_get, toNat_sub1, nat_toNat, Nat.add_sub_cancel, q_tmp, q_then, h1, h5, h7, hl, hk1]
    refine loop_keep (m := k) (by omega) ⟨k, Gf.nextS st', swapL l (k + 1) j, rfl, by omega, by rw [swapL_length, hl], ?_, ?_, ?_, ?_, rfl⟩
    · rw [← hfy, fy, hj]
    · simp only [e_upd, e_putS, e_putN, e_t, e_c, Nat.reduceEqDiff, ↓reduceIte, reduceCtorEq, Nat.reduceAdd, h1]
    · simp only [e_upd, e_putS, e_putN, e_t, e_c, Nat.reduceEqDiff, ↓reduceIte, reduceCtorEq, Nat.reduceAdd, h5]
    · simp only [e_upd, e_putS, e_putN, e_t, e_c, Nat.reduceEqDiff, ↓reduceIte, reduceCtorEq, Nat.reduceAdd, if_neg hi0]
      congr 1; omega
  | zero =>
    simp only [fy] at hfy
    have h7' : s 7 = .int .i64 (if i = 0 then -1 else 0) := h7
    have hd : decide ((1 : Int) ≤ (if i = 0 then -1 else 0)) = false := by
      rw [decide_eq_false_iff_not]; split <;> omega
    simp -implicitDefEqProofs (disch := omega) only [e_skip, e_ops, e_dops, e_seq, e_condI, e_condFb, e_gTF, e_gFT, e_gU, e_unv, e_bTT, e_bFF, e_bTF, e_bFT, e_beq1, e_beq2, Bool.not_true, Bool.not_false, e_block, e_exit, e_ret, e_seqN, e_seqE, e_seqR, e_blockN, e_blockR, e_blockE, e_nil, e_consN, e_consGI, e_nilD, e_consDN, e_consDGI, e_pure, e_eff, e_call, e_pureD, e_effD1, e_effD2, e_effD3, e_callD2, e_callD3, e_thenP, e_thenE, e_thenL, e_putS, e_putN, e_upd, e_t, e_c, e_none, e_some, e_bindS, p_move, p_bin, p_len, p_conv, p_pick, p_indexAddr, p_slice, p_extract, p_not, b_add, b_sub, b_mul, b_eql, b_neq, b_lss, b_leq, b_gtr, b_geq, l_nil, l_slice, l_sliceU, x_load1, ↓reduceIte, Nat.reduceEqDiff, Nat.reduceAdd, Nat.reduceMul, Nat.reduceSub, reduceCtorEq, Nat.zero_add, Nat.add_zero, Nat.mul_one, w64, wu32, wu64, beqT, beqF, bneT, bneF, dT, dF, a_idx, a_idxU, a_hi, a_hiN, a_sl, r_ro0, r_rw0, r_sl0, r_succ, ints_get, toNat_sub1, nat_toNat, Nat.add_sub_cancel, q_tmp, q_then, h1, h5, h7', hd]
    refine ret_keep (by simp) ⟨?_, ?_⟩
    · simp only [e_upd, e_putS, e_putN, e_t, e_c, Nat.reduceEqDiff, ↓reduceIte, reduceCtorEq, Nat.reduceAdd]
    · rw [pst, pml, ← hfy]
end Go.Proofs.Ytfedgjkcbmkjpaa
