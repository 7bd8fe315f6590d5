/- Contracts: exact's gcd. -/
import Derived.Test.YtpkeneadkiabiaaDoorF12
set_option linter.unusedSimpArgs false
set_option linter.unusedVariables false
-- NEWSET
namespace Go.Proofs.YtpkeneadkiabiaaDoor
open Go Go.Vh

section
variable {P : Program} {f : FuncId} {args0 : List AV} {H0 : AHeap} {W0 : List Nat} {x y : Int} {K : St → AHeap → Prop} {d : Option Nat} {s : St} {H : AHeap} {args caps : List AV}
theorem fresh2_merge {σ : List (Nat × Nat)} {κ κ' : SK} {l l' : List Int} {row row' : ARow} (hro : allRo H0 = true) (hl : σ.length = H0.length) (hn : NewNum x κ l row) (hn' : NewNum y κ' l' row') :
    (AV.tuple [mkS κ H0.length 0 l.length, mkS κ' (H0.length + 1) 0 l'.length]).ren (sig σ H.length) = .tuple [mkS κ H.length 0 l.length, mkS κ' (H.length + 1) 0 l'.length] ∧ merge H σ H0 (H0 ++ [some row, some row']) = H ++ [some row, some row'] := by
  have hs : sig σ H.length H0.length = some (H.length, 0) := by rw [sig_ge (by omega)]; simp [hl]
  have hs' : sig σ H.length (H0.length + 1) = some (H.length + 1, 0) := by rw [sig_ge (by omega)]; simp [hl]
  refine ⟨by rw [n_tuple, n_lcons, n_lcons, n_lnil, n_mkS0 hs, n_mkS0 hs'], ?_⟩
  rw [m_merge, mergeGo_ro hro]
  simp [renRow, hn.own, hn.ren, hn'.own, hn'.ren]
theorem call_fresh2 (h : ACalls P f args0 H0 W0 (Fresh2 H0 x y)) (σ : List (Nat × Nat)) (hro : allRo H0 = true) (hl : σ.length = H0.length) (hu : underL H0.length args0 = true) (hargs : args ++ caps = renL (sig σ H.length) args0)
    (hseen : seenAll H (sig σ H.length) H0.length H0 σ) (hK : ∀ κ l row κ' l' row', NewNum x κ l row → NewNum y κ' l' row' → K (putI d s (.tuple [mkS κ H.length 0 l.length, mkS κ' (H.length + 1) 0 l'.length])) (H ++ [some row, some row'])) : thenC P K d s H args (.func f caps) :=
  call_do h σ (allRo_some hro) hu (allRo_once hro σ) hargs hseen fun v0 H0' ⟨κ, l, row, κ', l', row', e1, e2, hn, hn'⟩ => by
    subst e1; subst e2
    obtain ⟨k1, k2⟩ := fresh2_merge (H := H) hro hl hn hn'
    rw [k1, k2]
    exact hK _ _ _ _ _ _ hn hn'
end

/-- A number in limbs somewhere in a heap. -/
def AtK (H : AHeap) (v : AV) (x : Int) (r k : Nat) : Prop := ∃ κ l row, okS κ l.length ∧ v = mkS κ r 0 l.length ∧ Vh.rowAt H r = some row ∧ row.cells.take l.length = ints .u32 l ∧ Limbs l ∧ num l = x ∧ l.length ≤ k
abbrev AtL (H : AHeap) (v : AV) (x : Int) (r : Nat) : Prop := AtK H v x r 100000
theorem AtK.mono {H : AHeap} {v : AV} {x : Int} {r k k' : Nat} (h : AtK H v x r k) (hk : k ≤ k') : AtK H v x r k' := by
  obtain ⟨κ, l, row, h1, h2, h3, h4, h5, h6, h7⟩ := h
  exact ⟨κ, l, row, h1, h2, h3, h4, h5, h6, Nat.le_trans h7 hk⟩
theorem AtK.lt {H : AHeap} {v : AV} {x : Int} {r k : Nat} (h : AtK H v x r k) : r < H.length := by
  obtain ⟨_, _, _, _, _, h1, _⟩ := h
  exact rowAt_lt h1
theorem AtK.keep {H H' : AHeap} {v : AV} {x : Int} {r k : Nat} (h : AtK H v x r k) (he : Vh.rowAt H' r = Vh.rowAt H r) : AtK H' v x r k := by
  obtain ⟨κ, l, row, h1, h2, h3, h4⟩ := h
  exact ⟨κ, l, row, h1, h2, by rw [he, h3], h4⟩
theorem AtK.app {H R : AHeap} {v : AV} {x : Int} {r k : Nat} (h : AtK H v x r k) : AtK (H ++ R) v x r k := h.keep (rowAt_append_left h.lt)
theorem AtK.nonneg {H : AHeap} {v : AV} {x : Int} {r k : Nat} (h : AtK H v x r k) : 0 ≤ x := by
  obtain ⟨κ, l, row, _, _, _, _, hl, rfl, _⟩ := h
  exact num_nonneg hl
theorem NewNum.at {H : AHeap} {x : Int} {κ : SK} {l : List Int} {row : ARow} {r : Nat} (h : NewNum x κ l row) (hr : Vh.rowAt H r = some row) (hl : l.length ≤ 100000) : AtL H (mkS κ r 0 l.length) x r :=
  ⟨κ, l, row, h.ok, rfl, hr, h.cells, h.limbs, h.num, hl⟩
theorem NewNum.short {x : Int} {κ : SK} {l : List Int} {row : ARow} {k : Nat} (h : NewNum x κ l row) (hx : x < BB ^ k) : l.length ≤ k := norm_len h.limbs h.norm (by rw [h.num]; exact hx)

section
variable {K : St → AHeap → Prop} {d : Option Nat} {s : St} {H : AHeap}
theorem seen_limbs {σ : Sig} {n : Nat} {r : Nat} {row : ARow} {l : List Int} (hr : Vh.rowAt H r = some row) (hc : row.cells.take l.length = ints .u32 l) : Vh.seen H σ n (ro (ints .u32 l)) (r, 0) := by
  have h := congrArg List.length hc
  simp only [List.length_take, ints_length] at h
  exact seen_ro hr (by simp only [ints_length]; omega) (by rw [ints_ren, ints_length, List.drop_zero, hc]) (flatL_under ints_flat)
/-- A call that reads two numbers and answers a new one. -/
theorem call_num2 {P : Program} {f : FuncId} {x y z : Int} {a b : Nat} {u v : AV} {W0 : List Nat} (hu : AtL H u x a) (hv : AtL H v y b)
    (h : ∀ (κ κ' : SK) (l l' : List Int), okS κ l.length → okS κ' l'.length → l.length ≤ 100000 → l'.length ≤ 100000 → Limbs l → Limbs l' → num l = x → num l' = y → ACalls P f [mkS κ 0 0 l.length, mkS κ' 1 0 l'.length] [ro (ints .u32 l), ro (ints .u32 l')] W0 (Fresh [ro (ints .u32 l), ro (ints .u32 l')] z))
    (hK : ∀ κ l row, NewNum z κ l row → K (putI d s (mkS κ H.length 0 l.length)) (H ++ [some row])) : thenC P K d s H [u, v] (.func f []) := by
  obtain ⟨κ, l, row, h1, rfl, h3, h4, h5, h6, h7⟩ := hu
  obtain ⟨κ', l', row', k1, rfl, k3, k4, k5, k6, k7⟩ := hv
  refine call_fresh (h κ κ' l l' h1 k1 h7 k7 h5 k5 h6 k6) [(a, 0), (b, 0)] rfl rfl (by simp [underL, mkS_under]) ?_ ⟨seen_limbs h3 h4, seen_limbs k3 k4, trivial⟩ hK
  rw [n_lcons, n_lcons, n_lnil, n_mkS0 (r' := a) rfl, n_mkS0 (r' := b) rfl]; rfl
theorem call_num2_2 {P : Program} {f : FuncId} {x y z z' : Int} {a b : Nat} {u v : AV} {W0 : List Nat} (hu : AtL H u x a) (hv : AtL H v y b)
    (h : ∀ (κ κ' : SK) (l l' : List Int), okS κ l.length → okS κ' l'.length → l.length ≤ 100000 → l'.length ≤ 100000 → Limbs l → Limbs l' → num l = x → num l' = y → ACalls P f [mkS κ 0 0 l.length, mkS κ' 1 0 l'.length] [ro (ints .u32 l), ro (ints .u32 l')] W0 (Fresh2 [ro (ints .u32 l), ro (ints .u32 l')] z z'))
    (hK : ∀ κ l row κ' l' row', NewNum z κ l row → NewNum z' κ' l' row' → K (putI d s (.tuple [mkS κ H.length 0 l.length, mkS κ' (H.length + 1) 0 l'.length])) (H ++ [some row, some row'])) : thenC P K d s H [u, v] (.func f []) := by
  obtain ⟨κ, l, row, h1, rfl, h3, h4, h5, h6, h7⟩ := hu
  obtain ⟨κ', l', row', k1, rfl, k3, k4, k5, k6, k7⟩ := hv
  refine call_fresh2 (h κ κ' l l' h1 k1 h7 k7 h5 k5 h6 k6) [(a, 0), (b, 0)] rfl rfl (by simp [underL, mkS_under]) ?_ ⟨seen_limbs h3 h4, seen_limbs k3 k4, trivial⟩ hK
  rw [n_lcons, n_lcons, n_lnil, n_mkS0 (r' := a) rfl, n_mkS0 (r' := b) rfl]; rfl
/-- exact's quotient and remainder, somewhere. -/
theorem call_xdivide {x y : Int} {a b : Nat} {u v : AV} (hu : AtL H u x a) (hv : AtL H v y b) (hy : y ≠ 0)
    (hK : ∀ κ l row κ' l' row', NewNum (x / y) κ l row → NewNum (x % y) κ' l' row' → K (putI d s (.tuple [mkS κ H.length 0 l.length, mkS κ' (H.length + 1) 0 l'.length])) (H ++ [some row, some row'])) : thenC Tryd.prog K d s H [u, v] (.func 107 []) :=
  call_num2_2 hu hv (fun κ κ' l l' h1 h2 h3 h4 h5 h6 h7 h8 => by
    have := xdivide_fresh κ κ' l l' h1 h2 h3 h4 h5 h6 (by rw [h8]; exact hy)
    rw [h7, h8] at this
    exact this) hK
end

/-- A number copied, somewhere. -/
theorem call_own' {K : St → AHeap → Prop} {d : Option Nat} {s : St} {H : AHeap} {x : Int} {a : Nat} {u : AV} (hu : AtL H u x a)
    (hK : ∀ κ l row, NewNum x κ l row → l.length ≤ 100000 → K (putI d s (mkS κ H.length 0 l.length)) (H ++ [some row])) : thenC Tryd.prog K d s H [u] (.func 105 []) := by
  obtain ⟨κ, l, row, h1, rfl, h3, h4, h5, rfl, h7⟩ := hu
  refine call_fresh (own_fresh κ l h1 (by omega) h5) [(a, 0)] rfl rfl (by simp [underL, mkS_under]) ?_ ⟨seen_limbs h3 h4, trivial⟩ fun κ' l' row' hn => hK κ' l' row' hn (Nat.le_trans (hn.short (nv_bound h5 l.length).2) h7)
  rw [n_lcons, n_lnil, n_mkS0 (r' := a) rfl]; rfl

theorem xgcd_fresh (κ κ' : SK) (a b : List Int) (hk : okS κ a.length) (hk' : okS κ' b.length) (hm : a.length ≤ 100000) (hm' : b.length ≤ 100000) (ha : Limbs a) (hb : Limbs b) :
    ACalls Tryd.prog 72 [mkS κ 0 0 a.length, mkS κ' 1 0 b.length] [ro (ints .u32 a), ro (ints .u32 b)] (List.range 2) (Fresh [ro (ints .u32 a), ro (ints .u32 b)] ((Nat.gcd (num a).toNat (num b).toNat : Nat) : Int)) := by
  refine ACalls.body Tryd.func72 ent_xgcd ir_xgcd_ok rs_xgcd_ok Tryd.ntmps72 (by simp) rfl ?_
  unfold ir_xgcd
  have e0 : s0 [mkS κ 0 0 a.length, mkS κ' 1 0 b.length] 0 = mkS κ 0 0 a.length := rfl
  have e1 : s0 [mkS κ 0 0 a.length, mkS κ' 1 0 b.length] 1 = mkS κ' 1 0 b.length := rfl
  have ua : AtL [ro (ints .u32 a), ro (ints .u32 b)] (mkS κ 0 0 a.length) (num a) 0 := ⟨κ, a, _, hk, rfl, rfl, take_all, ha, rfl, hm⟩
  have ub : AtL [ro (ints .u32 a), ro (ints .u32 b)] (mkS κ' 1 0 b.length) (num b) 1 := ⟨κ', b, _, hk', rfl, rfl, take_all, hb, rfl, hm'⟩
  have hap := num_nonneg ha
  have hbp := num_nonneg hb
  simp -implicitDefEqProofs (disch := omega) only [e_skip, e_ops, e_dops, e_seq, e_condI, e_condFb, e_gTF, e_gFT, e_gU, e_unv, e_bTT, e_bFF, e_bTF, e_bFT, e_beq1, e_beq2, Bool.not_true, Bool.not_false, e_block, e_exit, e_ret, e_seqN, e_seqE, e_seqR, e_blockN, e_blockR, e_blockE, e_nil, e_consN, e_consGI, e_nilD, e_consDN, e_consDGI, e_pure, e_eff, e_call, e_pureD, e_effD1, e_effD2, e_effD3, e_callD2, e_callD3, e_thenP, e_thenE, e_thenL, e_putS, e_putN, e_upd, e_t, e_c, e_none, e_some, e_bindS, p_move, p_bin, p_len, p_conv, p_pick, p_indexAddr, p_slice, p_extract, p_not, b_add, b_sub, b_mul, b_eql, b_neq, b_lss, b_leq, b_gtr, b_geq, l_nil, l_slice, l_sliceU, x_load1, ↓reduceIte, Nat.reduceEqDiff, Nat.reduceAdd, Nat.reduceMul, Nat.reduceSub, reduceCtorEq, Nat.zero_add, Nat.add_zero, Nat.mul_one, w64, wu32, wu64, beqT, beqF, bneT, bneF, dT, dF, a_idx, a_idxU, a_hi, a_hiN, a_sl, r_ro0, r_rw0, r_sl0, r_succ, ints_get, toNat_sub1, nat_toNat, Nat.add_sub_cancel, q_tmp, q_then, e0, e1]
  refine call_own' ua ?_
  intro κ1 l1 row1 n1 s1
  simp -implicitDefEqProofs (disch := omega) only [e_skip, e_ops, e_dops, e_seq, e_condI, e_condFb, e_gTF, e_gFT, e_gU, e_unv, e_bTT, e_bFF, e_bTF, e_bFT, e_beq1, e_beq2, Bool.not_true, Bool.not_false, e_block, e_exit, e_ret, e_seqN, e_seqE, e_seqR, e_blockN, e_blockR, e_blockE, e_nil, e_consN, e_consGI, e_nilD, e_consDN, e_consDGI, e_pure, e_eff, e_call, e_pureD, e_effD1, e_effD2, e_effD3, e_callD2, e_callD3, e_thenP, e_thenE, e_thenL, e_putS, e_putN, e_upd, e_t, e_c, e_none, e_some, e_bindS, p_move, p_bin, p_len, p_conv, p_pick, p_indexAddr, p_slice, p_extract, p_not, b_add, b_sub, b_mul, b_eql, b_neq, b_lss, b_leq, b_gtr, b_geq, l_nil, l_slice, l_sliceU, x_load1, ↓reduceIte, Nat.reduceEqDiff, Nat.reduceAdd, Nat.reduceMul, Nat.reduceSub, reduceCtorEq, Nat.zero_add, Nat.add_zero, Nat.mul_one, w64, wu32, wu64, beqT, beqF, bneT, bneF, dT, dF, a_idx, a_idxU, a_hi, a_hiN, a_sl, r_ro0, r_rw0, r_sl0, r_succ, ints_get, toNat_sub1, nat_toNat, Nat.add_sub_cancel, q_tmp, q_then, e0, e1]
  refine call_own' ub.app ?_
  intro κ2 l2 row2 n2 s2
  simp -implicitDefEqProofs (disch := omega) only [e_skip, e_ops, e_dops, e_seq, e_condI, e_condFb, e_gTF, e_gFT, e_gU, e_unv, e_bTT, e_bFF, e_bTF, e_bFT, e_beq1, e_beq2, Bool.not_true, Bool.not_false, e_block, e_exit, e_ret, e_seqN, e_seqE, e_seqR, e_blockN, e_blockR, e_blockE, e_nil, e_consN, e_consGI, e_nilD, e_consDN, e_consDGI, e_pure, e_eff, e_call, e_pureD, e_effD1, e_effD2, e_effD3, e_callD2, e_callD3, e_thenP, e_thenE, e_thenL, e_putS, e_putN, e_upd, e_t, e_c, e_none, e_some, e_bindS, p_move, p_bin, p_len, p_conv, p_pick, p_indexAddr, p_slice, p_extract, p_not, b_add, b_sub, b_mul, b_eql, b_neq, b_lss, b_leq, b_gtr, b_geq, l_nil, l_slice, l_sliceU, x_load1, ↓reduceIte, Nat.reduceEqDiff, Nat.reduceAdd, Nat.reduceMul, Nat.reduceSub, reduceCtorEq, Nat.zero_add, Nat.add_zero, Nat.mul_one, w64, wu32, wu64, beqT, beqF, bneT, bneF, dT, dF, a_idx, a_idxU, a_hi, a_hiN, a_sl, r_ro0, r_rw0, r_sl0, r_succ, ints_get, toNat_sub1, nat_toNat, Nat.add_sub_cancel, q_tmp, q_then]
  refine ⟨fun m s H => ∃ (p q : Nat) (κ1 : SK) (l1 : List Int) (row1 : ARow) (κ2 : SK) (l2 : List Int) (row2 : ARow), m = q ∧ Nat.gcd p q = Nat.gcd (num a).toNat (num b).toNat ∧ NewNum (p : Int) κ1 l1 row1 ∧ NewNum (q : Int) κ2 l2 row2 ∧ l1.length ≤ 100000 ∧ l2.length ≤ 100000 ∧ s 0 = mkS κ1 2 0 l1.length ∧ s 1 = mkS κ2 3 0 l2.length ∧ H = [ro (ints .u32 a), ro (ints .u32 b), some row1, some row2], (num b).toNat,
    ⟨(num a).toNat, (num b).toNat, κ1, l1, row1, κ2, l2, row2, rfl, rfl, by rw [Int.toNat_of_nonneg hap]; exact n1, by rw [Int.toNat_of_nonneg hbp]; exact n2, s1, s2, ?_, ?_, rfl⟩, ?_⟩
  · simp only [e_upd, e_putS, e_putN, e_t, e_c, Nat.reduceEqDiff, ↓reduceIte, reduceCtorEq, Nat.reduceAdd]; rfl
  · simp only [e_upd, e_putS, e_putN, e_t, e_c, Nat.reduceEqDiff, ↓reduceIte, reduceCtorEq, Nat.reduceAdd]; rfl
  rintro m s H ⟨p, q, κ1, l1, row1, κ2, l2, row2, rfl, hg, n1, n2, s1, s2, h0, h1, rfl⟩
  by_cases hz : l2.length = 0
  · have hq0 : m = 0 := by
      have := n2.num
      rw [List.length_eq_zero_iff.1 hz] at this
      simp [num, nv] at this
      omega
    subst hq0
    rw [Nat.gcd_zero_right] at hg
    simp -implicitDefEqProofs (disch := omega) only [e_skip, e_ops, e_dops, e_seq, e_condI, e_condFb, e_gTF, e_gFT, e_gU, e_unv, e_bTT, e_bFF, e_bTF, e_bFT, e_beq1, e_beq2, Bool.not_true, Bool.not_false, e_block, e_exit, e_ret, e_seqN, e_seqE, e_seqR, e_blockN, e_blockR, e_blockE, e_nil, e_consN, e_consGI, e_nilD, e_consDN, e_consDGI, e_pure, e_eff, e_call, e_pureD, e_effD1, e_effD2, e_effD3, e_callD2, e_callD3, e_thenP, e_thenE, e_thenL, e_putS, e_putN, e_upd, e_t, e_c, e_none, e_some, e_bindS, p_move, p_bin, p_len, p_conv, p_pick, p_indexAddr, p_slice, p_extract, p_not, b_add, b_sub, b_mul, b_eql, b_neq, b_lss, b_leq, b_gtr, b_geq, l_nil, l_slice, l_sliceU, x_load1, ↓reduceIte, Nat.reduceEqDiff, Nat.reduceAdd, Nat.reduceMul, Nat.reduceSub, reduceCtorEq, Nat.zero_add, Nat.add_zero, Nat.mul_one, w64, wu32, wu64, beqT, beqF, bneT, bneF, dT, dF, a_idx, a_idxU, a_hi, a_hiN, a_sl, r_ro0, r_rw0, r_sl0, r_succ, ints_get, toNat_sub1, nat_toNat, Nat.add_sub_cancel, q_tmp, q_then, h0, h1, k_len n2.ok, hz]
    refine ret_gc [0, 1, 2] rfl ?_ (by simp) ?_
    · simp only [gcH, List.map_cons, List.map_nil]
      simp [Vh.rowAt, ro, ints_ren, n1.back]
      exact ⟨List.all_eq_true.1 ints_cell, List.all_eq_true.1 ints_cell, List.all_eq_true.1 n1.cell⟩
    · show Fresh _ _ (gcS [0, 1, 2] _ 4) _
      rw [← hg]
      refine ⟨κ1, l1, row1, ?_, ?_, n1⟩
      · simp only [gcS, e_upd, e_putS, e_putN, e_t, e_c, Nat.reduceEqDiff, ↓reduceIte, reduceCtorEq, Nat.reduceAdd, h0]
        rw [n_mkS0 (r' := 2) rfl]; rfl
      · simp [gcH, Vh.rowAt, ro, ints_ren, n1.back]
  · have hq0 : m ≠ 0 := by
      intro h
      subst h
      have h2 := n2.num
      have h3 := tz_last l2 l2.length (by rw [n2.norm]; omega)
      rw [n2.norm] at h3
      have := nv_ge n2.limbs h3
      rw [show l2.length - 1 + 1 = l2.length by omega] at this
      have hp := BB_pos (l2.length - 1)
      have h4 : num l2 = nv l2 l2.length := rfl
      simp at h2
      omega
    simp -implicitDefEqProofs (disch := omega) only [e_skip, e_ops, e_dops, e_seq, e_condI, e_condFb, e_gTF, e_gFT, e_gU, e_unv, e_bTT, e_bFF, e_bTF, e_bFT, e_beq1, e_beq2, Bool.not_true, Bool.not_false, e_block, e_exit, e_ret, e_seqN, e_seqE, e_seqR, e_blockN, e_blockR, e_blockE, e_nil, e_consN, e_consGI, e_nilD, e_consDN, e_consDGI, e_pure, e_eff, e_call, e_pureD, e_effD1, e_effD2, e_effD3, e_callD2, e_callD3, e_thenP, e_thenE, e_thenL, e_putS, e_putN, e_upd, e_t, e_c, e_none, e_some, e_bindS, p_move, p_bin, p_len, p_conv, p_pick, p_indexAddr, p_slice, p_extract, p_not, b_add, b_sub, b_mul, b_eql, b_neq, b_lss, b_leq, b_gtr, b_geq, l_nil, l_slice, l_sliceU, x_load1, ↓reduceIte, Nat.reduceEqDiff, Nat.reduceAdd, Nat.reduceMul, Nat.reduceSub, reduceCtorEq, Nat.zero_add, Nat.add_zero, Nat.mul_one, w64, wu32, wu64, beqT, beqF, bneT, bneF, dT, dF, a_idx, a_idxU, a_hi, a_hiN, a_sl, r_ro0, r_rw0, r_sl0, r_succ, ints_get, toNat_sub1, nat_toNat, Nat.add_sub_cancel, q_tmp, q_then, h0, h1, k_len n2.ok]
    refine call_xdivide (x := (p : Int)) (y := (m : Int)) (a := 2) (b := 3) (n1.at rfl s1) (n2.at rfl s2) (by omega) ?_
    intro κ3 l3 row3 κ4 l4 row4 n3 n4
    have hmod : ((p : Int) % (m : Int)) = ((p % m : Nat) : Int) := by simp
    rw [hmod] at n4
    have hlt : p % m < m := Nat.mod_lt _ (by omega)
    have s4 : l4.length ≤ 100000 := Nat.le_trans (n4.short (k := l2.length) (by
      have h5 := (nv_bound n2.limbs l2.length).2
      have h6 : num l2 = nv l2 l2.length := rfl
      rw [n2.num] at h6
      omega)) s2
    simp -implicitDefEqProofs (disch := omega) only [e_skip, e_ops, e_dops, e_seq, e_condI, e_condFb, e_gTF, e_gFT, e_gU, e_unv, e_bTT, e_bFF, e_bTF, e_bFT, e_beq1, e_beq2, Bool.not_true, Bool.not_false, e_block, e_exit, e_ret, e_seqN, e_seqE, e_seqR, e_blockN, e_blockR, e_blockE, e_nil, e_consN, e_consGI, e_nilD, e_consDN, e_consDGI, e_pure, e_eff, e_call, e_pureD, e_effD1, e_effD2, e_effD3, e_callD2, e_callD3, e_thenP, e_thenE, e_thenL, e_putS, e_putN, e_upd, e_t, e_c, e_none, e_some, e_bindS, p_move, p_bin, p_len, p_conv, p_pick, p_indexAddr, p_slice, p_extract, p_not, b_add, b_sub, b_mul, b_eql, b_neq, b_lss, b_leq, b_gtr, b_geq, l_nil, l_slice, l_sliceU, x_load1, ↓reduceIte, Nat.reduceEqDiff, Nat.reduceAdd, Nat.reduceMul, Nat.reduceSub, reduceCtorEq, Nat.zero_add, Nat.add_zero, Nat.mul_one, w64, wu32, wu64, beqT, beqF, bneT, bneF, dT, dF, a_idx, a_idxU, a_hi, a_hiN, a_sl, r_ro0, r_rw0, r_sl0, r_succ, ints_get, toNat_sub1, nat_toNat, Nat.add_sub_cancel, q_tmp, q_then, List.getElem?_cons_zero, List.getElem?_cons_succ, h1]
    refine loop_gc [0, 1, 3, 5] rfl ?_ (m := p % m) hlt ⟨m, p % m, κ2, l2, row2, κ4, l4, row4, rfl, ?_, n2, n4, s2, s4, ?_, ?_, ?_⟩
    · simp [gcH, Vh.rowAt, ro, ints_ren, n2.back, n4.back]
      exact ⟨List.all_eq_true.1 ints_cell, List.all_eq_true.1 ints_cell, List.all_eq_true.1 n2.cell, List.all_eq_true.1 n4.cell⟩
    · rw [← hg, Nat.gcd_comm m, ← Nat.gcd_rec, Nat.gcd_comm]
    · simp only [gcS, e_upd, e_putS, e_putN, e_t, e_c, Nat.reduceEqDiff, ↓reduceIte, reduceCtorEq, Nat.reduceAdd]
      rw [n_mkS0 (r' := 2) rfl]
    · simp only [gcS, e_upd, e_putS, e_putN, e_t, e_c, Nat.reduceEqDiff, ↓reduceIte, reduceCtorEq, Nat.reduceAdd]
      rw [n_mkS0 (r' := 3) rfl]
    · simp [gcH, Vh.rowAt, ro, ints_ren, n2.back, n4.back]
end Go.Proofs.YtpkeneadkiabiaaDoor
