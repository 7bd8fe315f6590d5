/- ExactTexts' walk. -/
import Derived.Test.YtjmceapnhmeflaaDoorVX
import Derived.Test.YtjmceapnhmeflaaDoorKA
import Derived.Test.YtjmceapnhmeflaaDoorF18
import Derived.Test.YtjmceapnhmeflaaDoorFJ
set_option linter.unusedSimpArgs false
set_option linter.unusedVariables false
-- NEWSET
namespace Go.Proofs.YtjmceapnhmeflaaDoor
open Go Go.Vh

theorem slS_app (x y : Int) : slS x y = strOfNums (txN x.toNat ++ 47 :: txN y.toNat) := by
  unfold slS
  apply ByteArray.ext
  simp [strOfNums, ByteArray.data_append]
theorem AtK.x {H : AHeap} {w : AV} {x : Int} {r k : Nat} (h : AtK H w x r k) : ∃ n, n ≤ k ∧ AtX H w x n := by
  obtain ⟨κ, l, row, h1, h2, h3, h4, h5, h6, h7⟩ := h
  exact ⟨l.length, h7, κ, l, row, r, h1, h2, h3, h4, h5, h6, rfl⟩
theorem AtK.base {H H' : AHeap} {w : AV} {x : Int} {r k : Nat} (h : AtK H w x r k) (hb : Base H H') : AtK H' w x r k := by
  obtain ⟨κ, l, row, h1, h2, h3, h4⟩ := h
  exact ⟨κ, l, row, h1, h2, hb.row h3, h4⟩

set_option maxHeartbeats 4000000 in
theorem texts_calls {Ww : List Nat} (hw : ACalls Tryd.prog 18 [] [] Ww fun v _ => v = .bool true) (κ0 κ1 : SK) (a b : List Int) (hk0 : okS κ0 a.length) (hk1 : okS κ1 b.length) (hm0 : a.length ≤ maxLen) (hm1 : b.length ≤ maxLen) (la : Limbs a) (lb : Limbs b) :
    ACalls Tryd.prog 10 [mkS κ0 0 0 a.length, mkS κ1 1 0 b.length] [ro (ints .u32 a), ro (ints .u32 b)] (List.range 2) fun v _ => v = .bool true := by
  refine ACalls.body Tryd.func10 ent_texts ir_texts_ok rs_texts_ok Tryd.ntmps10 (by simp) rfl ?_
  unfold ir_texts
  have e0 : s0 [mkS κ0 0 0 a.length, mkS κ1 1 0 b.length] 0 = mkS κ0 0 0 a.length := rfl
  have e1 : s0 [mkS κ0 0 0 a.length, mkS κ1 1 0 b.length] 1 = mkS κ1 1 0 b.length := rfl
  have ua : AtK [ro (ints .u32 a), ro (ints .u32 b)] (mkS κ0 0 0 a.length) (num a) 0 maxLen := ⟨κ0, a, _, hk0, rfl, rfl, take_all, la, rfl, hm0⟩
  have ub : AtK [ro (ints .u32 a), ro (ints .u32 b)] (mkS κ1 1 0 b.length) (num b) 1 maxLen := ⟨κ1, b, _, hk1, rfl, rfl, take_all, lb, rfl, hm1⟩
  simp (disch := omega) only [sN, ↓reduceIte, Nat.reduceEqDiff, Nat.reduceAdd, Nat.reduceMul, Nat.reduceSub, reduceCtorEq, e_none, e_some, e_bindS, List.getElem?_cons_zero, List.getElem?_cons_succ, List.map_cons, List.map_nil, e0, e1]
  refine call_short (n := 64) (by omega) ua ?_
  intro Ra wa x pa va
  simp (disch := omega) only [sN, ↓reduceIte, Nat.reduceEqDiff, Nat.reduceAdd, Nat.reduceMul, Nat.reduceSub, reduceCtorEq, e_none, e_some, e_bindS, List.getElem?_cons_zero, List.getElem?_cons_succ, List.map_cons, List.map_nil, e0, e1]
  refine call_short (n := 64) (by omega) ub.app ?_
  intro Rb wb y pb vb
  have va := va.app (R := Rb)
  have hlen : 2 ≤ ([ro (ints .u32 a), ro (ints .u32 b)] ++ Ra ++ Rb).length := by simp
  have r0 : Vh.rowAt ([ro (ints .u32 a), ro (ints .u32 b)] ++ Ra ++ Rb) 0 = some ⟨false, false, ints .u32 a⟩ := rfl
  have x0 := va.nonneg
  have y0 := vb.nonneg
  have bx := va.lt_pow
  have by' := vb.lt_pow
  generalize [ro (ints .u32 a), ro (ints .u32 b)] ++ Ra ++ Rb = H0 at *
  clear ua ub e0 e1
  have hX : ((x.toNat : Nat) : Int) = x := Int.toNat_of_nonneg x0
  obtain ⟨n, hn, xa⟩ := va.x
  obtain ⟨m, hm, xb⟩ := vb.x
  simp (disch := omega) only [sN, ↓reduceIte, Nat.reduceEqDiff, Nat.reduceAdd, Nat.reduceMul, Nat.reduceSub, reduceCtorEq, e_none, e_some, e_bindS, List.getElem?_cons_zero, List.getElem?_cons_succ, List.map_cons, List.map_nil]
  refine ⟨_, (xText_calls H0 xa (by omega)).g.mono ?_⟩
  rintro v H1 ⟨rfl, hB1⟩
  rw [if_pos hn, if_pos hn]
  simp (disch := omega) only [sN, ↓reduceIte, Nat.reduceEqDiff, Nat.reduceAdd, Nat.reduceMul, Nat.reduceSub, reduceCtorEq, e_none, e_some, e_bindS, List.getElem?_cons_zero, List.getElem?_cons_succ, List.map_cons, List.map_nil]
  obtain ⟨q1, q2⟩ := psE_txN (n := x.toNat) (by rw [hX]; exact bx)
  have tl := txN_len (n := x.toNat) (k := 64) (by rw [hX]; exact bx)
  refine ⟨_, (xParse_calls H1 (hB1.row r0) (txN x.toNat) (txN_bytes _) (by omega)).g.mono ?_⟩
  rintro v H2 ⟨hB2, w1, rfl, n1⟩
  rw [q1]
  rw [q2, hX] at n1
  simp (disch := omega) only [sN, ↓reduceIte, Nat.reduceEqDiff, Nat.reduceAdd, Nat.reduceMul, Nat.reduceSub, reduceCtorEq, e_none, e_some, e_bindS, List.getElem?_cons_zero, List.getElem?_cons_succ, List.map_cons, List.map_nil]
  have hB02 := hB1.trans hB2
  refine call_in1 in_Norm rfl (va.base hB02) (hk_E fun R w2 n2 => ?_)
  have r02 : Vh.rowAt (H2 ++ R) 0 = some ⟨false, false, ints .u32 a⟩ := by rw [rowAt_append_left (row_lt (hB02.row r0))]; exact hB02.row r0
  simp (disch := omega) only [sN, ↓reduceIte, Nat.reduceEqDiff, Nat.reduceAdd, Nat.reduceMul, Nat.reduceSub, reduceCtorEq, e_none, e_some, e_bindS, List.getElem?_cons_zero, List.getElem?_cons_succ, List.map_cons, List.map_nil]
  refine call_same' (n1.app.norm r02) (n2.norm r02) rfl bx (by omega) ?_
  simp (disch := omega) only [sN, ↓reduceIte, Nat.reduceEqDiff, Nat.reduceAdd, Nat.reduceMul, Nat.reduceSub, reduceCtorEq, e_none, e_some, e_bindS, List.getElem?_cons_zero, List.getElem?_cons_succ, List.map_cons, List.map_nil]
  have hB03 : Base H0 (H2 ++ R) := hB02.app
  clear n1 n2 hB02 hB1 hB2
  generalize H2 ++ R = H3 at *
  refine call_in1 in_Bits rfl (vb.base hB03) (hk_P (fun _ => rfl) fun R2 => ?_)
  have hB04 : Base H0 (H3 ++ R2) := hB03.app
  clear hB03 r02
  generalize H3 ++ R2 = H4 at *
  simp (disch := omega) only [sN, ↓reduceIte, Nat.reduceEqDiff, Nat.reduceAdd, Nat.reduceMul, Nat.reduceSub, reduceCtorEq, e_none, e_some, e_bindS, List.getElem?_cons_zero, List.getElem?_cons_succ, List.map_cons, List.map_nil]
  by_cases hz : y = 0
  · have hb : (((blen y : Nat) : Int) == 0) = true := by rw [(blen_zero y0).2 hz]; rfl
    simp (disch := omega) only [sN, ↓reduceIte, Nat.reduceEqDiff, Nat.reduceAdd, Nat.reduceMul, Nat.reduceSub, reduceCtorEq, e_none, e_some, e_bindS, hb]
    refine call_true hw fun H' => ?_
    simp (disch := omega) only [sN, ↓reduceIte, Nat.reduceEqDiff, Nat.reduceAdd, Nat.reduceMul, Nat.reduceSub, reduceCtorEq, e_none, e_some, e_bindS]
    refine ret_keep (by have := hB04.1; rw [List.length_append]; omega) ?_
    simp only [q_tmp, q_then, rs_texts, e_upd, e_putS, e_putN, e_t, e_c, Nat.reduceEqDiff, ↓reduceIte, reduceCtorEq, Nat.reduceAdd]
  have hb : (((blen y : Nat) : Int) == 0) = false := by
    have : blen y ≠ 0 := fun h => hz ((blen_zero y0).1 h)
    simpa using this
  simp (disch := omega) only [sN, ↓reduceIte, Nat.reduceEqDiff, Nat.reduceAdd, Nat.reduceMul, Nat.reduceSub, reduceCtorEq, e_none, e_some, e_bindS, hb]
  rw [p_build2 (v1 := wa) (v2 := wb) (by simp only [e_upd, e_putS, e_putN, e_t, e_c, Nat.reduceEqDiff, ↓reduceIte, reduceCtorEq, Nat.reduceAdd]) (by simp only [e_upd, e_putS, e_putN, e_t, e_c, Nat.reduceEqDiff, ↓reduceIte, reduceCtorEq, Nat.reduceAdd]) xa.cell xb.cell]
  simp (disch := omega) only [sN, ↓reduceIte, Nat.reduceEqDiff, Nat.reduceAdd, Nat.reduceMul, Nat.reduceSub, reduceCtorEq, e_none, e_some, e_bindS, List.getElem?_cons_zero, List.getElem?_cons_succ, List.map_cons, List.map_nil]
  have hq : Fr.ok H4 ⟨wa, wb, x, y, n, m⟩ := ⟨xa.base hB04, xb.base hB04, show n ≤ 100000 by omega, show m ≤ 100000 by omega⟩
  have yp : 0 < y := by omega
  have g0 := gcd_pos' (x := x) yp
  have hgn : 0 < Nat.gcd x.toNat y.toNat := by omega
  have lX := red_le (x := x) (y := y) x0
  have lY := red_le (x := y) (y := x) y0
  have cross := red_cross x0 yp
  have pY := red_pos (x := y) (y := x) yp
  have hco : Nat.gcd (redX x y).toNat (redX y x).toNat = 1 := by
    have e1 : (redX x y).toNat = x.toNat / Nat.gcd x.toNat y.toNat := by
      unfold redX
      rw [← hX, ← Int.natCast_ediv, Int.toNat_natCast, Int.toNat_natCast]
    have e2 : (redX y x).toNat = y.toNat / Nat.gcd x.toNat y.toNat := by
      unfold redX
      rw [Nat.gcd_comm y.toNat, show y = ((y.toNat : Nat) : Int) from (Int.toNat_of_nonneg y0).symm, ← Int.natCast_ediv, Int.toNat_natCast, Int.toNat_natCast]
    rw [e1, e2]
    exact Nat.gcd_div_gcd_div_gcd_of_pos_right (by omega)
  have hred : redE x y = 0 := by
    unfold redE
    exact if_pos ⟨by omega, by omega⟩
  have hcf : cfE [(⟨wa, wb, x, y, n, m⟩ : Fr)] = 0 := by simp [cfE, Fr.short, Fr.den, hn, hm, hz]
  obtain ⟨E1, E2, E3⟩ := rfE_good hcf
  have E1 : rfE (⟨wa, wb, x, y, n, m⟩ : Fr) = 0 := E1.trans hred
  have E2 : rfN (⟨wa, wb, x, y, n, m⟩ : Fr) = redX x y := E2.trans (if_pos hred)
  have E3 : rfD (⟨wa, wb, x, y, n, m⟩ : Fr) = redX y x := E3.trans (if_pos hred)
  have hft : ftS (⟨wa, wb, x, y, n, m⟩ : Fr) = strOfNums (txN (redX x y).toNat ++ 47 :: txN (redX y x).toNat) := by
    unfold ftS
    rw [if_pos E1, E2, E3, slS_app]
  refine ⟨_, (xFracText_calls H4 hq).g.mono ?_⟩
  rintro v H5 ⟨rfl, hB5⟩
  rw [hft, E1]
  simp (disch := omega) only [sN, ↓reduceIte, Nat.reduceEqDiff, Nat.reduceAdd, Nat.reduceMul, Nat.reduceSub, reduceCtorEq, e_none, e_some, e_bindS, List.getElem?_cons_zero, List.getElem?_cons_succ, List.map_cons, List.map_nil]
  have hrX : (((redX x y).toNat : Nat) : Int) = redX x y := Int.toNat_of_nonneg lX.1
  have hrY : (((redX y x).toNat : Nat) : Int) = redX y x := Int.toNat_of_nonneg lY.1
  obtain ⟨f1, f2, f3⟩ := fp_text (x := (redX x y).toNat) (y := (redX y x).toNat) (by rw [hrX]; omega) (by rw [hrY]; omega) hco (by omega)
  rw [hrX] at f2
  rw [hrY] at f3
  have hB05 := hB04.trans hB5
  have r05 := hB05.row r0
  have t1 := txN_len (n := (redX x y).toNat) (k := 64) (by rw [hrX]; omega)
  have t2 := txN_len (n := (redX y x).toNat) (k := 64) (by rw [hrY]; omega)
  refine ⟨_, (xFracParse_calls H5 r05 _ (fun z hz => ?_) (by simp; omega)).g.mono ?_⟩
  · rcases List.mem_append.1 hz with h | h
    · exact txN_bytes _ z h
    · rcases List.mem_cons.1 h with rfl | h
      · omega
      · exact txN_bytes _ z h
  rintro v H6 ⟨hB6, w1, w2, rfl, n1, n2⟩
  rw [f1]
  rw [f2] at n1
  rw [f3] at n2
  have hB06 := hB05.trans hB6
  have hzc : [AV.nilslice, AV.nilslice].all AV.cell = true := rfl
  simp (disch := omega) only [sN, ↓reduceIte, Nat.reduceEqDiff, Nat.reduceAdd, Nat.reduceMul, Nat.reduceSub, reduceCtorEq, e_none, e_some, e_bindS, List.getElem?_cons_zero, List.getElem?_cons_succ, List.map_cons, List.map_nil]
  rw [x_allocA hzc]
  simp (disch := omega) only [sN, ↓reduceIte, Nat.reduceEqDiff, Nat.reduceAdd, Nat.reduceMul, Nat.reduceSub, reduceCtorEq, e_none, e_some, e_bindS]
  rw [x_storeNA (n := 2) (r := H6.length) (l := [.nilslice, .nilslice]) (l' := [w1, w2]) (by simp only [e_upd, e_putS, e_putN, e_t, e_c, Nat.reduceEqDiff, ↓reduceIte, reduceCtorEq, Nat.reduceAdd]) (by simp only [e_upd, e_putS, e_putN, e_t, e_c, Nat.reduceEqDiff, ↓reduceIte, reduceCtorEq, Nat.reduceAdd]) (by simp [n1.cell, n2.cell]) (by simp [Vh.rowAt, rw_]) rfl rfl, set_last]
  have r7 : Vh.rowAt (H6 ++ [rw_ [w1, w2]]) H6.length = some ⟨true, false, [w1, w2]⟩ := by simp [Vh.rowAt, rw_]
  have hB07 : Base H0 (H6 ++ [rw_ [w1, w2]]) := hB06.app
  have n1 : NumV (H6 ++ [rw_ [w1, w2]]) w1 (redX x y) H5.length := n1.app
  have n2 : NumV (H6 ++ [rw_ [w1, w2]]) w2 (redX y x) H5.length := n2.app
  obtain ⟨p, hp⟩ : ∃ p, p = H6.length := ⟨_, rfl⟩
  rw [← hp] at r7 ⊢
  generalize H6 ++ [rw_ [w1, w2]] = H7 at *
  simp (disch := omega) only [sN, ↓reduceIte, Nat.reduceEqDiff, Nat.reduceAdd, Nat.reduceMul, Nat.reduceSub, reduceCtorEq, e_none, e_some, e_bindS]
  rw [x_loadNA (n := 2) (r := p) (l := [w1, w2]) (by simp only [e_upd, e_putS, e_putN, e_t, e_c, Nat.reduceEqDiff, ↓reduceIte, reduceCtorEq, Nat.reduceAdd]) r7 rfl rfl]
  simp (disch := omega) only [sN, ↓reduceIte, Nat.reduceEqDiff, Nat.reduceAdd, Nat.reduceMul, Nat.reduceSub, reduceCtorEq, e_none, e_some, e_bindS]
  rw [p_build2 (v1 := wa) (v2 := wb) (by simp only [e_upd, e_putS, e_putN, e_t, e_c, Nat.reduceEqDiff, ↓reduceIte, reduceCtorEq, Nat.reduceAdd]) (by simp only [e_upd, e_putS, e_putN, e_t, e_c, Nat.reduceEqDiff, ↓reduceIte, reduceCtorEq, Nat.reduceAdd]) xa.cell xb.cell]
  simp (disch := omega) only [sN, ↓reduceIte, Nat.reduceEqDiff, Nat.reduceAdd, Nat.reduceMul, Nat.reduceSub, reduceCtorEq, e_none, e_some, e_bindS, List.map_cons, List.map_nil]
  obtain ⟨n', hn', x1⟩ := (n1.norm (hB07.row r0)).x (k := 64) (by omega)
  obtain ⟨m', hm', x2⟩ := (n2.norm (hB07.row r0)).x (k := 64) (by omega)
  have hq1 : Fr.ok H7 ⟨w1, w2, redX x y, redX y x, n', m'⟩ := ⟨x1, x2, show n' ≤ 100000 by omega, show m' ≤ 100000 by omega⟩
  have hq2 : Fr.ok H7 ⟨wa, wb, x, y, n, m⟩ := ⟨xa.base hB07, xb.base hB07, show n ≤ 100000 by omega, show m ≤ 100000 by omega⟩
  have hcz : cfE [(⟨w1, w2, redX x y, redX y x, n', m'⟩ : Fr), ⟨wa, wb, x, y, n, m⟩] = 0 := cfE_zero hn' hm' hn hm (show redX y x ≠ 0 by omega) hz
  have hcc : fcC (⟨w1, w2, redX x y, redX y x, n', m'⟩ : Fr) ⟨wa, wb, x, y, n, m⟩ = 0 := by
    unfold fcC
    rw [if_pos hcz]
    show cmpI (redX x y * y) (x * redX y x) = 0
    rw [cross]
    unfold cmpI
    rw [if_neg (by omega), if_neg (by omega)]
  refine ⟨_, (xFracCompare_calls H7 hq1 hq2).g.mono ?_⟩
  rintro v H8 ⟨rfl, hB8⟩
  rw [hcc, hcz]
  simp (disch := omega) only [sN, ↓reduceIte, Nat.reduceEqDiff, Nat.reduceAdd, Nat.reduceMul, Nat.reduceSub, reduceCtorEq, e_none, e_some, e_bindS, List.getElem?_cons_zero, List.getElem?_cons_succ, List.map_cons, List.map_nil]
  refine call_true hw fun H' => ?_
  simp (disch := omega) only [sN, ↓reduceIte, Nat.reduceEqDiff, Nat.reduceAdd, Nat.reduceMul, Nat.reduceSub, reduceCtorEq, e_none, e_some, e_bindS]
  refine ret_keep (by have := (hB07.trans hB8).1; rw [List.length_append]; omega) ?_
  simp only [q_tmp, q_then, rs_texts, e_upd, e_putS, e_putN, e_t, e_c, Nat.reduceEqDiff, ↓reduceIte, reduceCtorEq, Nat.reduceAdd]
end Go.Proofs.YtjmceapnhmeflaaDoor

