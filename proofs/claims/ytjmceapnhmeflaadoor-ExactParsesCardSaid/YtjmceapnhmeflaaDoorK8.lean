/- ExactParses' walk. -/
import Derived.Test.YtjmceapnhmeflaaDoorVX
import Derived.Test.YtjmceapnhmeflaaDoorKD
import Derived.Test.YtjmceapnhmeflaaDoorEF
set_option linter.unusedSimpArgs false
set_option linter.unusedVariables false
-- NEWSET
namespace Go.Proofs.YtjmceapnhmeflaaDoor
open Go Go.Vh

set_option maxHeartbeats 4000000 in
theorem parses_calls {Ww : List Nat} (hw : ACalls Tryd.prog 18 [] [] Ww fun v _ => v = .bool true) (l : List Int) (hb : Bytes l) (hm : l.length ≤ maxLen) :
    ACalls Tryd.prog 4 [.str (strOfNums l)] [ro []] (List.range 1) fun v _ => v = .bool true := by
  refine ACalls.body Tryd.func4 ent_kparses ir_kparses_ok rs_kparses_ok Tryd.ntmps4 (by simp) rfl ?_
  unfold ir_kparses
  have e0 : s0 [.str (strOfNums l)] 0 = .str (strOfNums l) := rfl
  have hzc : [AV.nilslice, AV.nilslice].all AV.cell = true := rfl
  simp (disch := omega) only [sN, ↓reduceIte, Nat.reduceEqDiff, Nat.reduceAdd, Nat.reduceMul, Nat.reduceSub, reduceCtorEq, e_none, e_some, e_bindS, e0]
  rw [p_lenStrN (l := l) (by simp only [e_upd, e_putS, e_putN, e_t, e_c, Nat.reduceEqDiff, ↓reduceIte, reduceCtorEq, Nat.reduceAdd, e0])]
  by_cases h14 : l.length ≤ 1400
  case neg =>
    simp (disch := omega) only [sN, ↓reduceIte, Nat.reduceEqDiff, Nat.reduceAdd, Nat.reduceMul, Nat.reduceSub, reduceCtorEq, e_none, e_some, e_bindS, List.map_cons, List.map_nil]
    refine call_true hw fun H' => ?_
    simp (disch := omega) only [sN, ↓reduceIte, Nat.reduceEqDiff, Nat.reduceAdd, Nat.reduceMul, Nat.reduceSub, reduceCtorEq, e_none, e_some, e_bindS]
    refine ret_keep (by simp) ?_
    simp only [q_tmp, q_then, rs_kparses, e_upd, e_putS, e_putN, e_t, e_c, Nat.reduceEqDiff, ↓reduceIte, reduceCtorEq, Nat.reduceAdd]
  obtain ⟨H0, hH0⟩ : ∃ H, H = [ro ([] : List AV)] := ⟨_, rfl⟩
  have r0 : Vh.rowAt H0 0 = some ⟨false, false, []⟩ := by rw [hH0]; rfl
  have hl0 : H0.length = 1 := by rw [hH0]; rfl
  rw [← hH0]
  clear hH0
  simp (disch := omega) only [sN, ↓reduceIte, Nat.reduceEqDiff, Nat.reduceAdd, Nat.reduceMul, Nat.reduceSub, reduceCtorEq, e_none, e_some, e_bindS, e0, List.map_cons, List.map_nil]
  refine ⟨_, (xParse_calls H0 r0 l hb (by omega)).g.mono ?_⟩
  rintro v H1 ⟨hB1, w1, rfl, n1⟩
  simp (disch := omega) only [sN, ↓reduceIte, Nat.reduceEqDiff, Nat.reduceAdd, Nat.reduceMul, Nat.reduceSub, reduceCtorEq, e_none, e_some, e_bindS, e0, List.getElem?_cons_zero, List.getElem?_cons_succ, List.map_cons, List.map_nil]
  refine ⟨_, (kParse_calls H1 (hB1.row r0) l hb (by omega)).g.mono ?_⟩
  rintro v H2 ⟨hB2, w2, rfl, n2⟩
  simp (disch := omega) only [sN, ↓reduceIte, Nat.reduceEqDiff, Nat.reduceAdd, Nat.reduceMul, Nat.reduceSub, reduceCtorEq, e_none, e_some, e_bindS, e0, List.getElem?_cons_zero, List.getElem?_cons_succ, List.map_cons, List.map_nil]
  have hB02 := hB1.trans hB2
  have r02 := hB02.row r0
  have b64 : psN l < BB ^ 100000 := by
    have : psN l < BB ^ 64 := by
      unfold psN psE
      by_cases hN : isN l = true
      · rw [if_pos hN]
        by_cases hv : vd l l.length < BB ^ 64
        · rw [if_pos hv]; exact hv
        · rw [if_neg hv]; exact BB_pos 64
      · rw [if_neg hN]; exact BB_pos 64
    exact Int.lt_of_lt_of_le this (BB_mono (by omega))
  refine call_numN ((n1.base hB2).norm r02) (n2.norm r02) b64 ?_
  simp (disch := omega) only [sN, ↓reduceIte, Nat.reduceEqDiff, Nat.reduceAdd, Nat.reduceMul, Nat.reduceSub, reduceCtorEq, e_none, e_some, e_bindS, e0, List.map_cons, List.map_nil]
  refine ⟨_, (xFracParse_calls H2 r02 l hb (by omega)).g.mono ?_⟩
  rintro v H3 ⟨hB3, w3, w4, rfl, n3, n4⟩
  simp (disch := omega) only [sN, ↓reduceIte, Nat.reduceEqDiff, Nat.reduceAdd, Nat.reduceMul, Nat.reduceSub, reduceCtorEq, e_none, e_some, e_bindS, e0, List.getElem?_cons_zero, List.getElem?_cons_succ, List.map_cons, List.map_nil]
  rw [x_allocA hzc]
  simp (disch := omega) only [sN, ↓reduceIte, Nat.reduceEqDiff, Nat.reduceAdd, Nat.reduceMul, Nat.reduceSub, reduceCtorEq, e_none, e_some, e_bindS]
  rw [x_storeNA (n := 2) (r := H3.length) (l := [.nilslice, .nilslice]) (l' := [w3, w4]) (by simp only [e_upd, e_putS, e_putN, e_t, e_c, Nat.reduceEqDiff, ↓reduceIte, reduceCtorEq, Nat.reduceAdd]) (by simp only [e_upd, e_putS, e_putN, e_t, e_c, Nat.reduceEqDiff, ↓reduceIte, reduceCtorEq, Nat.reduceAdd]) (by simp [n3.cell, n4.cell]) (by simp [Vh.rowAt, rw_]) rfl rfl, set_last]
  have r7 : Vh.rowAt (H3 ++ [rw_ [w3, w4]]) H3.length = some ⟨true, false, [w3, w4]⟩ := by simp [Vh.rowAt, rw_]
  have hB04 : Base H0 (H3 ++ [rw_ [w3, w4]]) := (hB02.trans hB3).app
  have n3 : NumV (H3 ++ [rw_ [w3, w4]]) w3 (fpN l) H2.length := n3.app
  have n4 : NumV (H3 ++ [rw_ [w3, w4]]) w4 (fpD l) H2.length := n4.app
  obtain ⟨p7, hp7⟩ : ∃ p, p = H3.length := ⟨_, rfl⟩
  rw [← hp7] at r7 ⊢
  clear hB3 hB2 hB1 hB02 r02 n1 n2
  generalize H3 ++ [rw_ [w3, w4]] = H4 at *
  simp (disch := omega) only [sN, ↓reduceIte, Nat.reduceEqDiff, Nat.reduceAdd, Nat.reduceMul, Nat.reduceSub, reduceCtorEq, e_none, e_some, e_bindS, e0, List.map_cons, List.map_nil]
  refine ⟨_, (kFracParse_calls H4 (hB04.row r0) l hb (by omega)).g.mono ?_⟩
  rintro v H5 ⟨hB5, w5, w6, rfl, n5, n6⟩
  simp (disch := omega) only [sN, ↓reduceIte, Nat.reduceEqDiff, Nat.reduceAdd, Nat.reduceMul, Nat.reduceSub, reduceCtorEq, e_none, e_some, e_bindS, e0, List.getElem?_cons_zero, List.getElem?_cons_succ, List.map_cons, List.map_nil]
  rw [x_allocA hzc]
  simp (disch := omega) only [sN, ↓reduceIte, Nat.reduceEqDiff, Nat.reduceAdd, Nat.reduceMul, Nat.reduceSub, reduceCtorEq, e_none, e_some, e_bindS]
  rw [x_storeNA (n := 2) (r := H5.length) (l := [.nilslice, .nilslice]) (l' := [w5, w6]) (by simp only [e_upd, e_putS, e_putN, e_t, e_c, Nat.reduceEqDiff, ↓reduceIte, reduceCtorEq, Nat.reduceAdd]) (by simp only [e_upd, e_putS, e_putN, e_t, e_c, Nat.reduceEqDiff, ↓reduceIte, reduceCtorEq, Nat.reduceAdd]) (by simp [n5.cell, n6.cell]) (by simp [Vh.rowAt, rw_]) rfl rfl, set_last]
  have r8 : Vh.rowAt (H5 ++ [rw_ [w5, w6]]) H5.length = some ⟨true, false, [w5, w6]⟩ := by simp [Vh.rowAt, rw_]
  have hB46 : Base H4 (H5 ++ [rw_ [w5, w6]]) := hB5.app
  have hB06 := hB04.trans hB46
  have n3 := n3.base hB46
  have n4 := n4.base hB46
  have r7 := hB46.row r7
  have n5 : NumV (H5 ++ [rw_ [w5, w6]]) w5 (fpN l) H4.length := n5.app
  have n6 : NumV (H5 ++ [rw_ [w5, w6]]) w6 (fpD l) H4.length := n6.app
  obtain ⟨p8, hp8⟩ : ∃ p, p = H5.length := ⟨_, rfl⟩
  rw [← hp8] at r8 ⊢
  clear hB5 hB46
  generalize H5 ++ [rw_ [w5, w6]] = H6 at *
  simp (disch := omega) only [sN, ↓reduceIte, Nat.reduceEqDiff, Nat.reduceAdd, Nat.reduceMul, Nat.reduceSub, reduceCtorEq, e_none, e_some, e_bindS]
  rw [x_loadNA (n := 2) (r := p7) (l := [w3, w4]) (by simp only [e_upd, e_putS, e_putN, e_t, e_c, Nat.reduceEqDiff, ↓reduceIte, reduceCtorEq, Nat.reduceAdd]) r7 rfl rfl]
  simp (disch := omega) only [sN, ↓reduceIte, Nat.reduceEqDiff, Nat.reduceAdd, Nat.reduceMul, Nat.reduceSub, reduceCtorEq, e_none, e_some, e_bindS]
  rw [x_loadNA (n := 2) (r := p8) (l := [w5, w6]) (by simp only [e_upd, e_putS, e_putN, e_t, e_c, Nat.reduceEqDiff, ↓reduceIte, reduceCtorEq, Nat.reduceAdd]) r8 rfl rfl]
  simp (disch := omega) only [sN, ↓reduceIte, Nat.reduceEqDiff, Nat.reduceAdd, Nat.reduceMul, Nat.reduceSub, reduceCtorEq, e_none, e_some, e_bindS, List.map_cons, List.map_nil]
  have r06 := hB06.row r0
  have small : fpN l < BB ^ 64 ∧ fpD l < BB ^ 64 ∧ (fpE l = 0 → fpOk l = true ∧ fpN l = fpX l ∧ fpD l = fpY l ∧ 0 < fpD l ∧ ((Nat.gcd (fpX l).toNat (fpY l).toNat : Nat) : Int) = 1 ∧ 0 ≤ fpX l) := by
    by_cases hE : fpE l = 0
    · have hN : fpN l = fpX l := if_pos hE
      have hD : fpD l = fpY l := if_pos hE
      have hO : fpOk l = true := by
        cases h : fpOk l with
        | true => rfl
        | false => unfold fpE at hE; rw [h] at hE; cases hE
      have hR : fpR (fpX l) (fpY l) = 0 := by unfold fpE at hE; rw [if_pos hO] at hE; exact hE
      have hx0 : 0 ≤ fpX l ∧ 0 ≤ fpY l := by
        unfold fpOk at hO
        simp only [Bool.and_eq_true] at hO
        exact ⟨(vd_lt (isN_of hO.2.1).2 _ (Nat.le_refl _)).1, (vd_lt (isN_of hO.2.2).2 _ (Nat.le_refl _)).1⟩
      unfold fpR at hR
      split at hR
      · rename_i hS
        split at hR
        · rename_i hg
          exact ⟨by rw [hN]; exact hS.1, by rw [hD]; exact hS.2, fun _ => ⟨hO, hN, hD, by rw [hD]; omega, hg.1, hx0.1⟩⟩
        · cases hR
      · cases hR
    · have hN : fpN l = 0 := if_neg hE
      have hD : fpD l = 0 := if_neg hE
      exact ⟨by rw [hN]; exact BB_pos 64, by rw [hD]; exact BB_pos 64, fun h => (hE h).elim⟩
  obtain ⟨bN, bD, hok⟩ := small
  refine ⟨_, (lfrac_calls H6 (k := 64) (by omega) (n3.norm r06) (n4.norm r06) (n5.norm r06) (n6.norm r06) bN bD).g.mono ?_⟩
  rintro v H7 ⟨rfl, hB7⟩
  have hB07 := hB06.trans hB7
  have r7 := hB7.row r7
  have n3 := n3.base hB7
  have n4 := n4.base hB7
  have r07 := hB07.row r0
  simp (disch := omega) only [sN, ↓reduceIte, Nat.reduceEqDiff, Nat.reduceAdd, Nat.reduceMul, Nat.reduceSub, reduceCtorEq, e_none, e_some, e_bindS]
  by_cases hE : fpE l = 0
  case neg =>
    have hq : (fpE l == (0 : Int)) = false := by simpa using hE
    simp (disch := omega) only [sN, ↓reduceIte, Nat.reduceEqDiff, Nat.reduceAdd, Nat.reduceMul, Nat.reduceSub, reduceCtorEq, e_none, e_some, e_bindS, hq, List.map_cons, List.map_nil]
    refine call_true hw fun H' => ?_
    simp (disch := omega) only [sN, ↓reduceIte, Nat.reduceEqDiff, Nat.reduceAdd, Nat.reduceMul, Nat.reduceSub, reduceCtorEq, e_none, e_some, e_bindS]
    refine ret_keep (by have := hB07.1; rw [List.length_append]; omega) ?_
    simp only [q_tmp, q_then, rs_kparses, e_upd, e_putS, e_putN, e_t, e_c, Nat.reduceEqDiff, ↓reduceIte, reduceCtorEq, Nat.reduceAdd]
  obtain ⟨hO, hN, hD, hpos, hg, hx0⟩ := hok hE
  have hq : (fpE l == (0 : Int)) = true := by rw [hE]; rfl
  simp (disch := omega) only [sN, ↓reduceIte, Nat.reduceEqDiff, Nat.reduceAdd, Nat.reduceMul, Nat.reduceSub, reduceCtorEq, e_none, e_some, e_bindS, hq]
  rw [x_loadNA (n := 2) (r := p7) (l := [w3, w4]) (by simp only [e_upd, e_putS, e_putN, e_t, e_c, Nat.reduceEqDiff, ↓reduceIte, reduceCtorEq, Nat.reduceAdd]) r7 rfl rfl]
  simp (disch := omega) only [sN, ↓reduceIte, Nat.reduceEqDiff, Nat.reduceAdd, Nat.reduceMul, Nat.reduceSub, reduceCtorEq, e_none, e_some, e_bindS, List.map_cons, List.map_nil]
  obtain ⟨m1, hm1, x1⟩ := (n3.norm r07).x bN
  obtain ⟨m2, hm2, x2⟩ := (n4.norm r07).x bD
  rw [hN] at x1
  rw [hD] at x2 hpos
  have hqok : Fr.ok H7 ⟨w3, w4, fpX l, fpY l, m1, m2⟩ := ⟨x1, x2, show m1 ≤ 100000 by omega, show m2 ≤ 100000 by omega⟩
  refine ⟨_, (xFracText_calls H7 hqok).g.mono ?_⟩
  rintro v H8 ⟨rfl, hB8⟩
  have lX := red_le (x := fpX l) (y := fpY l) hx0
  have lY := red_le (x := fpY l) (y := fpX l) (by omega)
  have hred : redE (fpX l) (fpY l) = 0 := by
    unfold redE
    rw [hN] at bN
    rw [hD] at bD
    exact if_pos ⟨by omega, by omega⟩
  have hcf : cfE [(⟨w3, w4, fpX l, fpY l, m1, m2⟩ : Fr)] = 0 := by
    have : fpY l ≠ 0 := by omega
    simp [cfE, Fr.short, Fr.den, hm1, hm2, this]
  obtain ⟨E1, E2, E3⟩ := rfE_good hcf
  have E1 : rfE (⟨w3, w4, fpX l, fpY l, m1, m2⟩ : Fr) = 0 := E1.trans hred
  have E2 : rfN (⟨w3, w4, fpX l, fpY l, m1, m2⟩ : Fr) = redX (fpX l) (fpY l) := E2.trans (if_pos hred)
  have E3 : rfD (⟨w3, w4, fpX l, fpY l, m1, m2⟩ : Fr) = redX (fpY l) (fpX l) := E3.trans (if_pos hred)
  have hft : ftS (⟨w3, w4, fpX l, fpY l, m1, m2⟩ : Fr) = strOfNums (txN (redX (fpX l) (fpY l)).toNat ++ 47 :: txN (redX (fpY l) (fpX l)).toNat) := by
    unfold ftS
    rw [if_pos E1, E2, E3, slS_app]
  have hO2 := hO
  unfold fpOk at hO2
  simp only [Bool.and_eq_true] at hO2
  have hsame := fp_same hO2.2.1 hO2.2.2 (X := (fpX l).toNat) (Y := (fpY l).toNat) (Int.toNat_of_nonneg hx0) (Int.toNat_of_nonneg (by omega)) (x := fpX l) (y := fpY l) rfl rfl
  rw [← (cutL_yes hO2.1).1, red_self hx0 hpos] at hsame
  rw [E1, hft]
  simp (disch := omega) only [sN, ↓reduceIte, Nat.reduceEqDiff, Nat.reduceAdd, Nat.reduceMul, Nat.reduceSub, reduceCtorEq, e_none, e_some, e_bindS, e0, List.getElem?_cons_zero, List.getElem?_cons_succ, eql_str]
  rw [decide_eq_true (hsame.2 hg)]
  simp (disch := omega) only [sN, ↓reduceIte, Nat.reduceEqDiff, Nat.reduceAdd, Nat.reduceMul, Nat.reduceSub, reduceCtorEq, e_none, e_some, e_bindS, List.map_cons, List.map_nil]
  refine call_true hw fun H' => ?_
  simp (disch := omega) only [sN, ↓reduceIte, Nat.reduceEqDiff, Nat.reduceAdd, Nat.reduceMul, Nat.reduceSub, reduceCtorEq, e_none, e_some, e_bindS]
  refine ret_keep (by have := (hB07.trans hB8).1; rw [List.length_append]; omega) ?_
  simp only [q_tmp, q_then, rs_kparses, e_upd, e_putS, e_putN, e_t, e_c, Nat.reduceEqDiff, ↓reduceIte, reduceCtorEq, Nat.reduceAdd]
end Go.Proofs.YtjmceapnhmeflaaDoor

