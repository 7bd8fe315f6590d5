/- Contracts: the reference's row of binomial numbers, on top of any heap. -/
import Derived.Test.YthbhljolpnbdlaaVX
import Derived.Test.YthbhljolpnbdlaaPO
import Derived.Test.YthbhljolpnbdlaaPG
import Derived.Test.YthbhljolpnbdlaaPF
import Derived.Test.YthbhljolpnbdlaaPI
import Derived.Test.YthbhljolpnbdlaaV7
import Derived.Test.YthbhljolpnbdlaaPE
import Derived.Test.YthbhljolpnbdlaaV8
import Derived.Test.YthbhljolpnbdlaaChecked
set_option linter.unusedSimpArgs false
set_option linter.unusedVariables false
-- NEWSET
namespace Go.Proofs.Ythbhljolpnbdlaa.S1
open Go Go.Vh

theorem AtD.base {H H' : AHeap} {v : AV} {n r : Nat} (h : AtD H v n r) (hb : Base H H') : AtD H' v n r := h.keep (hb.2 r h.lt)
theorem RowN.base {H H' : AHeap} {n k D : Nat} {cells : List AV} (h : RowN H n k D cells) (hb : Base H H') : RowN H' n k D cells := ⟨h.1, fun j hj => by
  obtain ⟨c, r, h1, h2, h3, h4⟩ := h.2 j hj
  exact ⟨c, r, h1, h2, h3.base hb, h4⟩⟩

set_option maxHeartbeats 1000000 in
theorem rrowB_calls (H0 : AHeap) (n : Nat) (hn : n ≤ 512) : ACalls Try.prog 120 [.int .i64 (n : Int)] H0 (List.range H0.length) fun v H => ∃ D cells, v = dblS D (n + 1) ∧ Vh.rowAt H D = some ⟨true, decide (n + 1 ≠ 1), cells⟩ ∧ RowN H n (n + 1) D cells ∧ Base H0 H ∧ H0.length ≤ D := by
  refine ACalls.body Try.func120 ent_rrow ir_rrow_ok rs_rrow_ok Try.ntmps120 (by simp) rfl ?_
  unfold ir_rrow
  have e0 : s0 [.int .i64 (n : Int)] 0 = .int .i64 n := rfl
  obtain ⟨big, hbig, len66, cnk_small⟩ := big_ex
  have few_big : ∀ x, x ≤ 513 → x ≤ big * 513 := fun x h => Nat.le_trans h (Nat.le_mul_of_pos_left _ hbig)
  simp (disch := omega) only [sN, ↓reduceIte, Nat.reduceEqDiff, Nat.reduceAdd, Nat.reduceMul, Nat.reduceSub, reduceCtorEq, e_none, e_some, e_bindS, e0]
  refine call_small (n := 1) (by omega) ?_
  intro w row ho hfl hw hwc
  simp (disch := omega) only [sN, ↓reduceIte, Nat.reduceEqDiff, Nat.reduceAdd, Nat.reduceMul, Nat.reduceSub, reduceCtorEq, e_none, e_some, e_bindS, e0]
  rw [x_bs1 (v := w) (by simp only [e_upd, e_putS, e_putN, e_t, e_c, Nat.reduceEqDiff, ↓reduceIte, reduceCtorEq, Nat.reduceAdd]) hwc]
  simp (disch := omega) only [sN, ↓reduceIte, Nat.reduceEqDiff, Nat.reduceAdd, Nat.reduceMul, Nat.reduceSub, reduceCtorEq, e_none, e_some, e_bindS, e0]
  refine ⟨fun m s H => ∃ (k D : Nat) (cells : List AV), m = n + 1 - k ∧ 1 ≤ k ∧ k ≤ n + 1 ∧ s 0 = .int .i64 (n : Int) ∧ s 3 = dblS D k ∧ s 4 = .int .i64 (k : Int) ∧ Vh.rowAt H D = some ⟨true, decide (k ≠ 1), cells⟩ ∧ RowN H n k D cells ∧ Base H0 H ∧ H0.length ≤ D, n, ⟨1, H0.length + 1, [w], by omega, by omega, by omega, ?_, ?_, ?_, ?_, ⟨rfl, ?_⟩, Base.refl.app.app, by omega⟩, ?_⟩
  · simp only [e_upd, e_putS, e_putN, e_t, e_c, Nat.reduceEqDiff, ↓reduceIte, reduceCtorEq, Nat.reduceAdd, e0]
  · simp only [e_upd, e_putS, e_putN, e_t, e_c, Nat.reduceEqDiff, ↓reduceIte, reduceCtorEq, Nat.reduceAdd]; first | done | (simp [dblS])
  · simp only [e_upd, e_putS, e_putN, e_t, e_c, Nat.reduceEqDiff, ↓reduceIte, reduceCtorEq, Nat.reduceAdd]; try rfl
  · simp [Vh.rowAt, rw_, List.getElem?_append_right]
  · intro j hj
    obtain rfl : j = 0 := by omega
    exact ⟨w, H0.length, rfl, hwc, by rw [cnk_zero]; exact hw.keep (row_left hw.lt), by omega⟩
  clear hw hwc hfl ho w row
  rintro m s H ⟨k, D, cells, rfl, hk1, hkn, h0, h3, h4, rD, hrow, hB, hD0⟩
  have lD := row_lt rD
  by_cases hlt : (k : Int) ≤ (n : Int)
  · obtain ⟨c, rc, hc1, hc2, hc3, hc4⟩ := hrow.2 (k - 1) (by omega)
    have hkI : (k : Int) - 1 = ((k - 1 : Nat) : Int) := by omega
    have hnI : (n : Int) - (k : Int) + 1 = ((n - (k - 1) : Nat) : Int) := by omega
    have hi := dblS_idx (D := D) (k := k) (j := k - 1) (by omega)
    have hcs := cnk_small n (k - 1) hn
    have hdiv : cnk n (k - 1) * (n - (k - 1)) / k = cnk n k := by
      have := cnk_next n (k - 1) (by omega)
      rw [show k - 1 + 1 = k by omega] at this
      rw [Nat.mul_comm, ← this]
      exact Nat.mul_div_cancel_left _ (by omega)
    have hpl : cnk n (k - 1) * (n - (k - 1)) ≤ big * 513 := Nat.mul_le_mul hcs (by omega)
    have hp1 : n - (k - 1) ≤ big * 513 := few_big _ (by omega)
    have hp2 : k ≤ big * 513 := few_big _ (by omega)
    have hp3 : cnk n (k - 1) ≤ big * 513 := Nat.le_trans hcs (Nat.le_mul_of_pos_right _ (by omega))
    simp (disch := omega) only [sN, ↓reduceIte, Nat.reduceEqDiff, Nat.reduceAdd, Nat.reduceMul, Nat.reduceSub, reduceCtorEq, e_none, e_some, e_bindS, h0, h3, h4, hkI, hnI, hi, rD, hc1, Option.bind_some, Option.map_some]
    refine call_small0 (n := n - (k - 1)) (by omega) ?_
    intro w1 row1 o1 f1 a1 c1
    simp (disch := omega) only [sN, ↓reduceIte, Nat.reduceEqDiff, Nat.reduceAdd, Nat.reduceMul, Nat.reduceSub, reduceCtorEq, e_none, e_some, e_bindS, h0, h3, h4]
    have hc3' : AtD (H ++ [some row1]) c (cnk n (k - 1)) rc := hc3.keep (row_left hc3.lt)
    refine call_mul (Nat.le_trans (len66 _ hp3) (by omega)) (Nat.le_trans (len66 _ hp1) (by omega)) hc3' a1 ?_
    intro w2 row2 o2 f2 a2 c2
    simp (disch := omega) only [sN, ↓reduceIte, Nat.reduceEqDiff, Nat.reduceAdd, Nat.reduceMul, Nat.reduceSub, reduceCtorEq, e_none, e_some, e_bindS, h0, h3, h4]
    refine call_small (n := k) (by omega) ?_
    intro w3 row3 o3 f3 a3 c3
    simp (disch := omega) only [sN, ↓reduceIte, Nat.reduceEqDiff, Nat.reduceAdd, Nat.reduceMul, Nat.reduceSub, reduceCtorEq, e_none, e_some, e_bindS, h0, h3, h4]
    have a2' : AtD (H ++ [some row1] ++ [some row2] ++ [some row3]) w2 (cnk n (k - 1) * (n - (k - 1))) (H ++ [some row1]).length := a2.keep (row_left a2.lt)
    refine call_div (by omega) (Nat.le_trans (len66 _ hpl) (by omega)) (Nat.le_trans (len66 _ hp2) (by omega)) a2' a3 ?_
    intro w4 v4 row4 o4 f4 a4 c4
    rw [hdiv] at a4
    simp (disch := omega) only [sN, ↓reduceIte, Nat.reduceEqDiff, Nat.reduceAdd, Nat.reduceMul, Nat.reduceSub, reduceCtorEq, e_none, e_some, e_bindS, h0, h3, h4, List.getElem?_cons_zero, List.getElem?_cons_succ]
    rw [x_bs1 (v := w4) (by simp only [e_upd, e_putS, e_putN, e_t, e_c, Nat.reduceEqDiff, ↓reduceIte, reduceCtorEq, Nat.reduceAdd]) c4]
    simp (disch := omega) only [sN, ↓reduceIte, Nat.reduceEqDiff, Nat.reduceAdd, Nat.reduceMul, Nat.reduceSub, reduceCtorEq, e_none, e_some, e_bindS, h0, h3, h4]
    obtain ⟨H4, hH4⟩ : ∃ H4, H4 = H ++ [some row1] ++ [some row2] ++ [some row3] ++ [some row4] := ⟨_, rfl⟩
    have hx4 : Ext H H4 D := by rw [hH4]; exact ((Ext.app.trans Ext.app).trans Ext.app).trans Ext.app
    have hl4 : H4.length = H.length + 4 := by rw [hH4]; simp
    have hl3 : (H ++ [some row1] ++ [some row2] ++ [some row3]).length = H.length + 3 := by simp
    rw [hl3, ← hH4] at a4
    rw [← hH4]
    have hall : cells.all AV.cell = true := by
      rw [List.all_eq_true]
      intro x hx
      obtain ⟨j, hj⟩ := List.getElem?_of_mem hx
      have hjl := (List.getElem?_eq_some_iff.1 hj).1
      obtain ⟨c', _, g1, g2, _⟩ := hrow.2 j (by rw [← hrow.1]; exact hjl)
      rw [g1] at hj; cases hj; exact g2
    obtain ⟨H1, hH1⟩ : ∃ H1, H1 = H4 ++ [rw_ [w4]] := ⟨_, rfl⟩
    have hx1 : Ext H H1 D := by rw [hH1]; exact hx4.trans Ext.app
    have hl1 : H1.length = H.length + 5 := by rw [hH1]; simp [hl4]
    have eD : Vh.rowAt H1 D = some ⟨true, decide (k ≠ 1), cells⟩ := by
      have : Vh.rowAt H4 D = Vh.rowAt H D := by rw [hH4, row_left (by simp; omega), row_left (by simp; omega), row_left (by simp; omega), row_left lD]
      rw [hH1, row_left (by omega), this, rD]
    have eW : Vh.rowAt H1 H4.length = some ⟨true, false, [w4]⟩ := by rw [hH1]; simp [Vh.rowAt, rw_]
    have a1' : AtD H1 w4 (cnk n k) (H.length + 3) := by rw [hH1]; exact a4.keep (row_left a4.lt)
    rw [← hH1]
    rw [x_appD (D := D) (k := k) (r := H4.length) (cells := cells) (c := w4) (by simp only [e_upd, e_putS, e_putN, e_t, e_c, Nat.reduceEqDiff, ↓reduceIte, reduceCtorEq, Nat.reduceAdd, h3]) (by simp only [e_upd, e_putS, e_putN, e_t, e_c, Nat.reduceEqDiff, ↓reduceIte, reduceCtorEq, Nat.reduceAdd]) eD hrow.1 hk1 (by omega) eW c4 hall]
    obtain ⟨H2, hH2⟩ : ∃ H2, H2 = (if k = 1 then H1 else H1.set D none) := ⟨_, rfl⟩
    have hx2 : Ext H1 H2 D := by rw [hH2]; split; exact Ext.refl; exact Ext.set
    have hl2 : H2.length = H1.length := by rw [hH2]; split <;> simp
    have hB1 : Base H0 H1 := by rw [hH1, hH4]; exact hB.app.app.app.app.app
    have hB2 : Base H0 H2 := by
      rw [hH2]; split
      · exact hB1
      · exact hB1.set hD0
    rw [← hH2]
    have hx3 : Ext H1 (H2 ++ [sl (cells ++ [w4])]) D := hx2.trans Ext.app
    simp (disch := omega) only [sN, ↓reduceIte, Nat.reduceEqDiff, Nat.reduceAdd, Nat.reduceMul, Nat.reduceSub, reduceCtorEq, e_none, e_some, e_bindS, h0, h3, h4]
    refine loop_keep (m := n + 1 - (k + 1)) (by omega) ⟨k + 1, H1.length, cells ++ [w4], rfl, by omega, by omega, ?_, ?_, ?_, ?_, ?_, hB2.app, by have := hB.1; omega⟩
    · simp only [e_upd, e_putS, e_putN, e_t, e_c, Nat.reduceEqDiff, ↓reduceIte, reduceCtorEq, Nat.reduceAdd, h0]
    · simp only [e_upd, e_putS, e_putN, e_t, e_c, Nat.reduceEqDiff, ↓reduceIte, reduceCtorEq, Nat.reduceAdd]
    · simp only [e_upd, e_putS, e_putN, e_t, e_c, Nat.reduceEqDiff, ↓reduceIte, reduceCtorEq, Nat.reduceAdd]; rfl
    · rw [← hl2]; simp [Vh.rowAt, sl]; omega
    · refine ⟨by rw [List.length_append, hrow.1]; rfl, fun j hj => ?_⟩
      by_cases hjk : j < k
      · obtain ⟨c', rc', g1, g2, g3, g4⟩ := hrow.2 j hjk
        have := g3.lt
        exact ⟨c', rc', by rw [List.getElem?_append_left (by rw [hrow.1]; exact hjk), g1], g2, (g3.ext hx1 g4).ext hx3 g4, by omega⟩
      · obtain rfl : j = k := by omega
        exact ⟨w4, H.length + 3, by rw [List.getElem?_append_right (by rw [hrow.1]; omega), hrow.1, Nat.sub_self]; rfl, c4, a1'.ext hx3 (by omega), by omega⟩
  obtain rfl : k = n + 1 := by omega
  simp (disch := omega) only [sN, ↓reduceIte, Nat.reduceEqDiff, Nat.reduceAdd, Nat.reduceMul, Nat.reduceSub, reduceCtorEq, e_none, e_some, e_bindS, h0, h3, h4]
  refine ret_keep hB.1 ?_
  unfold rs_rrow; rw [q_tmp, q_then]
  exact ⟨D, cells, by simp only [e_upd, e_putS, e_putN, e_t, e_c, Nat.reduceEqDiff, ↓reduceIte, reduceCtorEq, Nat.reduceAdd, h3], rD, hrow, hB, hD0⟩
end Go.Proofs.Ythbhljolpnbdlaa.S1



/- Contracts: the reference's ways, on top of any heap. -/
-- NEWSET
namespace Go.Proofs.Ythbhljolpnbdlaa.S1
open Go Go.Vh

theorem dg_len_pow {x n m : Nat} (hx : x ≤ 2 ^ n) (hn : n < 8 * m) : (Dg.dg x).length ≤ m := by
  refine Dg.dg_len_le (Nat.lt_of_le_of_lt hx ?_)
  have : 2 ^ n < 2 ^ (8 * m) := Nat.pow_lt_pow_right (by omega) hn
  rwa [Nat.pow_mul] at this
theorem tN_dg {b g k i : Nat} (h : b + g ≤ 512) : (Dg.dg (tN b g k i)).length ≤ 100 := dg_len_pow tN_le (by omega)
theorem cnk_dg {n k : Nat} (h : n ≤ 512) : (Dg.dg (cnk n k)).length ≤ 100 := dg_len_pow (cnk_le n k) (by omega)
theorem sumT_dg {b g k m : Nat} (h : b + g ≤ 512) (hm : m ≤ 1000) : (Dg.dg (sumT b g k m)).length ≤ 100 := by
  have h1 := sumT_le (b := b) (g := g) (k := k) m
  have h3 : m * 2 ^ (b + g) ≤ 2 ^ 10 * 2 ^ (b + g) := Nat.mul_le_mul_right _ (by omega)
  rw [← Nat.pow_add] at h3
  exact dg_len_pow (Nat.le_trans h1 h3) (by omega)
theorem AtD.zero {H : AHeap} {r : Nat} {row : ARow} (h : Vh.rowAt H r = some row) : AtD H .nilslice 0 r := ⟨.nil, row, by rw [Dg.dg_zero]; rfl, rfl, h, by rw [Dg.dg_zero]; rfl⟩

/-- ... in a row of one's own. -/
def AtO (H : AHeap) (v : AV) (n r : Nat) : Prop := AtD H v n r ∧ ∃ row, Vh.rowAt H r = some row ∧ row.own = true
theorem AtO.base {H H' : AHeap} {v : AV} {n r : Nat} (h : AtO H v n r) (hb : Base H H') : AtO H' v n r := by
  obtain ⟨h1, row, h2, h3⟩ := h
  exact ⟨h1.base hb, row, hb.row h2, h3⟩

set_option maxHeartbeats 1000000 in
theorem rwaysO_calls (H0 : AHeap) (b g k : Nat) (seen : Int) (hbg : b + g ≤ 512) (hk : k ≤ b + g) (hs0 : -9223372036854775808 ≤ seen) (hs1 : seen ≤ 9223372036854775807) :
    ACalls Try.prog 121 [.int .i64 ((b + g : Nat) : Int), .int .i64 (b : Int), .int .i64 (k : Int), .int .i64 seen] H0 (List.range H0.length) fun v H => Base H0 H ∧ ∃ r, AtO H v (wN b g k seen) r := by
  refine ACalls.body Try.func121 ent_rways ir_rways_ok rs_rways_ok Try.ntmps121 (by simp) rfl ?_
  unfold ir_rways
  have e0 : s0 [.int .i64 ((b + g : Nat) : Int), .int .i64 (b : Int), .int .i64 (k : Int), .int .i64 seen] 0 = .int .i64 ((b + g : Nat) : Int) := rfl
  have e1 : s0 [.int .i64 ((b + g : Nat) : Int), .int .i64 (b : Int), .int .i64 (k : Int), .int .i64 seen] 1 = .int .i64 (b : Int) := rfl
  have e2 : s0 [.int .i64 ((b + g : Nat) : Int), .int .i64 (b : Int), .int .i64 (k : Int), .int .i64 seen] 2 = .int .i64 (k : Int) := rfl
  have e3 : s0 [.int .i64 ((b + g : Nat) : Int), .int .i64 (b : Int), .int .i64 (k : Int), .int .i64 seen] 3 = .int .i64 seen := rfl
  have hgood : ((b + g : Nat) : Int) - (b : Int) = (g : Int) := by omega
  simp (disch := omega) only [sN, ↓reduceIte, Nat.reduceEqDiff, Nat.reduceAdd, Nat.reduceMul, Nat.reduceSub, reduceCtorEq, e_none, e_some, e_bindS, e0, e1, e2, e3, List.map_cons, List.map_nil]
  refine ⟨_, (rrowB_calls H0 b (by omega)).g.mono ?_⟩
  rintro v1 H1 ⟨D1, c1, rfl, rD1, hR1, hB1, hD1⟩
  simp (disch := omega) only [sN, ↓reduceIte, Nat.reduceEqDiff, Nat.reduceAdd, Nat.reduceMul, Nat.reduceSub, reduceCtorEq, e_none, e_some, e_bindS, e0, e1, e2, e3, hgood, List.map_cons, List.map_nil]
  refine ⟨_, (rrowB_calls H1 g (by omega)).g.mono ?_⟩
  rintro v2 H2 ⟨D2, c2, rfl, rD2, hR2, hB2, hD2⟩
  simp (disch := omega) only [sN, ↓reduceIte, Nat.reduceEqDiff, Nat.reduceAdd, Nat.reduceMul, Nat.reduceSub, reduceCtorEq, e_none, e_some, e_bindS, e0, e1, e2, e3]
  refine ⟨fun t s H => ∃ (i : Nat) (ws : AV) (rs : Nat), i ≤ b + 1 ∧ i ≤ k + 1 ∧ (i : Int) ≤ max 0 (seen + 1) ∧ t = b + 1 - i ∧ Base H2 H ∧ AtO H ws (sumT b g k i) rs ∧ s 0 = .int .i64 ((b + g : Nat) : Int) ∧ s 1 = .int .i64 (b : Int) ∧ s 2 = .int .i64 (k : Int) ∧ s 3 = .int .i64 seen ∧ s 9 = dblS D1 (b + 1) ∧ s 10 = dblS D2 (g + 1) ∧ s 11 = ws ∧ s 12 = .int .i64 (i : Int), b + 1, ⟨0, .nilslice, D2, by omega, by omega, by omega, rfl, Base.refl, ⟨AtD.zero rD2, _, rD2, rfl⟩, ?_, ?_, ?_, ?_, ?_, ?_, ?_, ?_⟩, ?_⟩
  · simp only [e_upd, e_putS, e_putN, e_t, e_c, Nat.reduceEqDiff, ↓reduceIte, reduceCtorEq, Nat.reduceAdd, e0]
  · simp only [e_upd, e_putS, e_putN, e_t, e_c, Nat.reduceEqDiff, ↓reduceIte, reduceCtorEq, Nat.reduceAdd, e1]
  · simp only [e_upd, e_putS, e_putN, e_t, e_c, Nat.reduceEqDiff, ↓reduceIte, reduceCtorEq, Nat.reduceAdd, e2]
  · simp only [e_upd, e_putS, e_putN, e_t, e_c, Nat.reduceEqDiff, ↓reduceIte, reduceCtorEq, Nat.reduceAdd, e3]
  · simp only [e_upd, e_putS, e_putN, e_t, e_c, Nat.reduceEqDiff, ↓reduceIte, reduceCtorEq, Nat.reduceAdd]
  · simp only [e_upd, e_putS, e_putN, e_t, e_c, Nat.reduceEqDiff, ↓reduceIte, reduceCtorEq, Nat.reduceAdd]
  · simp only [e_upd, e_putS, e_putN, e_t, e_c, Nat.reduceEqDiff, ↓reduceIte, reduceCtorEq, Nat.reduceAdd]
  · simp only [e_upd, e_putS, e_putN, e_t, e_c, Nat.reduceEqDiff, ↓reduceIte, reduceCtorEq, Nat.reduceAdd]; rfl
  rintro t s H ⟨i, ws, rs, hi1, hi2, hi3, rfl, hB, hws, t0, t1, t2, t3, t9, t10, t11, t12⟩
  have fin : ¬ ((i : Int) ≤ seen ∧ i ≤ b ∧ i ≤ k) → wN b g k seen = sumT b g k i := by
    intro hc
    unfold wN
    rcases Int.lt_or_le seen (i : Int) with h | h
    · rw [show (seen + 1).toNat = i by omega]
    · exact sumT_high (by omega) (by omega)
  by_cases q1 : (i : Int) ≤ seen
  · by_cases q2 : i ≤ b
    · by_cases q3 : i ≤ k
      · have q2' : (i : Int) ≤ (b : Int) := by omega
        have q3' : (i : Int) ≤ (k : Int) := by omega
        by_cases q4 : k ≤ g + i
        · have i1 : (k : Int) - (i : Int) = ((k - i : Nat) : Int) := by omega
          have hi9 := dblS_idx (D := D1) (k := b + 1) (j := i) (by omega)
          have hi10 := dblS_idx (D := D2) (k := g + 1) (j := k - i) (by omega)
          obtain ⟨x1, r1, a1, a2, a3, a4⟩ := hR1.2 i (by omega)
          obtain ⟨x2, r2, b1, b2, b3, b4⟩ := hR2.2 (k - i) (by omega)
          have eD1 : Vh.rowAt H D1 = some ⟨true, decide (b + 1 ≠ 1), c1⟩ := hB.row (hB2.row rD1)
          have eD2 : Vh.rowAt H D2 = some ⟨true, decide (g + 1 ≠ 1), c2⟩ := hB.row rD2
          have hT : cnk b i * cnk g (k - i) = tN b g k i := by unfold tN; rw [if_pos q3]
          have hS : sumT b g k i + tN b g k i = sumT b g k (i + 1) := rfl
          simp (disch := omega) only [sN, ↓reduceIte, Nat.reduceEqDiff, Nat.reduceAdd, Nat.reduceMul, Nat.reduceSub, reduceCtorEq, e_none, e_some, e_bindS, t0, t1, t2, t3, t9, t10, t11, t12, i1, hgood, hi9, hi10, eD1, eD2, a1, b1, Option.bind_some, Option.map_some, List.map_cons, List.map_nil]
          refine call_mul (Nat.le_trans (cnk_dg (by omega)) (by omega)) (Nat.le_trans (cnk_dg (by omega)) (by omega)) ((a3.base hB2).base hB) (b3.base hB) ?_
          intro w4 row4 o4 f4 a4 c4
          rw [hT] at a4
          simp (disch := omega) only [sN, ↓reduceIte, Nat.reduceEqDiff, Nat.reduceAdd, Nat.reduceMul, Nat.reduceSub, reduceCtorEq, e_none, e_some, e_bindS, t0, t1, t2, t3, t9, t10, t11, t12, List.map_cons, List.map_nil]
          refine call_add (Nat.le_trans (sumT_dg hbg (by omega)) (by omega)) (Nat.le_trans (tN_dg hbg) (by omega)) (hws.1.base Base.one) a4 ?_
          intro w5 row5 o5 f5 a5 c5
          rw [hS] at a5
          simp (disch := omega) only [sN, ↓reduceIte, Nat.reduceEqDiff, Nat.reduceAdd, Nat.reduceMul, Nat.reduceSub, reduceCtorEq, e_none, e_some, e_bindS, t0, t1, t2, t3, t9, t10, t11, t12]
          refine loop_keep (m := b + 1 - (i + 1)) (by omega) ⟨i + 1, w5, _, by omega, by omega, by omega, rfl, hB.app.app, ⟨a5, row5, by simp [Vh.rowAt], o5⟩, ?_, ?_, ?_, ?_, ?_, ?_, ?_, ?_⟩
          · simp only [e_upd, e_putS, e_putN, e_t, e_c, Nat.reduceEqDiff, ↓reduceIte, reduceCtorEq, Nat.reduceAdd, t0]
          · simp only [e_upd, e_putS, e_putN, e_t, e_c, Nat.reduceEqDiff, ↓reduceIte, reduceCtorEq, Nat.reduceAdd, t1]
          · simp only [e_upd, e_putS, e_putN, e_t, e_c, Nat.reduceEqDiff, ↓reduceIte, reduceCtorEq, Nat.reduceAdd, t2]
          · simp only [e_upd, e_putS, e_putN, e_t, e_c, Nat.reduceEqDiff, ↓reduceIte, reduceCtorEq, Nat.reduceAdd, t3]
          · simp only [e_upd, e_putS, e_putN, e_t, e_c, Nat.reduceEqDiff, ↓reduceIte, reduceCtorEq, Nat.reduceAdd, t9]
          · simp only [e_upd, e_putS, e_putN, e_t, e_c, Nat.reduceEqDiff, ↓reduceIte, reduceCtorEq, Nat.reduceAdd, t10]
          · simp only [e_upd, e_putS, e_putN, e_t, e_c, Nat.reduceEqDiff, ↓reduceIte, reduceCtorEq, Nat.reduceAdd]
          · simp only [e_upd, e_putS, e_putN, e_t, e_c, Nat.reduceEqDiff, ↓reduceIte, reduceCtorEq, Nat.reduceAdd]; first | done | rfl
        · have q4' : ¬ ((k : Int) - (i : Int) ≤ (g : Int)) := by omega
          have hS : sumT b g k i = sumT b g k (i + 1) := by rw [sumT, tN_low (by omega), Nat.add_zero]
          rw [hS] at hws
          simp (disch := omega) only [sN, ↓reduceIte, Nat.reduceEqDiff, Nat.reduceAdd, Nat.reduceMul, Nat.reduceSub, reduceCtorEq, e_none, e_some, e_bindS, t0, t1, t2, t3, t9, t10, t11, t12, hgood]
          refine loop_keep (m := b + 1 - (i + 1)) (by omega) ⟨i + 1, ws, rs, by omega, by omega, by omega, rfl, hB, hws, ?_, ?_, ?_, ?_, ?_, ?_, ?_, ?_⟩
          · simp only [e_upd, e_putS, e_putN, e_t, e_c, Nat.reduceEqDiff, ↓reduceIte, reduceCtorEq, Nat.reduceAdd, t0]
          · simp only [e_upd, e_putS, e_putN, e_t, e_c, Nat.reduceEqDiff, ↓reduceIte, reduceCtorEq, Nat.reduceAdd, t1]
          · simp only [e_upd, e_putS, e_putN, e_t, e_c, Nat.reduceEqDiff, ↓reduceIte, reduceCtorEq, Nat.reduceAdd, t2]
          · simp only [e_upd, e_putS, e_putN, e_t, e_c, Nat.reduceEqDiff, ↓reduceIte, reduceCtorEq, Nat.reduceAdd, t3]
          · simp only [e_upd, e_putS, e_putN, e_t, e_c, Nat.reduceEqDiff, ↓reduceIte, reduceCtorEq, Nat.reduceAdd, t9]
          · simp only [e_upd, e_putS, e_putN, e_t, e_c, Nat.reduceEqDiff, ↓reduceIte, reduceCtorEq, Nat.reduceAdd, t10]
          · simp only [e_upd, e_putS, e_putN, e_t, e_c, Nat.reduceEqDiff, ↓reduceIte, reduceCtorEq, Nat.reduceAdd, t11]
          · simp only [e_upd, e_putS, e_putN, e_t, e_c, Nat.reduceEqDiff, ↓reduceIte, reduceCtorEq, Nat.reduceAdd]; first | done | rfl
      · simp (disch := omega) only [sN, ↓reduceIte, Nat.reduceEqDiff, Nat.reduceAdd, Nat.reduceMul, Nat.reduceSub, reduceCtorEq, e_none, e_some, e_bindS, t0, t1, t2, t3, t9, t10, t11, t12]
        refine ret_keep (Nat.le_trans (hB1.trans hB2).1 hB.1) ⟨(hB1.trans hB2).trans hB, rs, ?_⟩
        rw [fin (by omega)]
        simp only [e_upd, e_putS, e_putN, e_t, e_c, Nat.reduceEqDiff, ↓reduceIte, reduceCtorEq, Nat.reduceAdd]; exact hws
    · simp (disch := omega) only [sN, ↓reduceIte, Nat.reduceEqDiff, Nat.reduceAdd, Nat.reduceMul, Nat.reduceSub, reduceCtorEq, e_none, e_some, e_bindS, t0, t1, t2, t3, t9, t10, t11, t12]
      refine ret_keep (Nat.le_trans (hB1.trans hB2).1 hB.1) ⟨(hB1.trans hB2).trans hB, rs, ?_⟩
      rw [fin (by omega)]
      simp only [e_upd, e_putS, e_putN, e_t, e_c, Nat.reduceEqDiff, ↓reduceIte, reduceCtorEq, Nat.reduceAdd]; exact hws
  · simp (disch := omega) only [sN, ↓reduceIte, Nat.reduceEqDiff, Nat.reduceAdd, Nat.reduceMul, Nat.reduceSub, reduceCtorEq, e_none, e_some, e_bindS, t0, t1, t2, t3, t9, t10, t11, t12]
    refine ret_keep (Nat.le_trans (hB1.trans hB2).1 hB.1) ⟨(hB1.trans hB2).trans hB, rs, ?_⟩
    rw [fin (by omega)]
    simp only [e_upd, e_putS, e_putN, e_t, e_c, Nat.reduceEqDiff, ↓reduceIte, reduceCtorEq, Nat.reduceAdd]; exact hws
end Go.Proofs.Ythbhljolpnbdlaa.S1



/- Contracts: the reference's digits, Check and CheckFrac, of numbers somewhere in a heap. -/
-- NEWSET
namespace Go.Proofs.Ythbhljolpnbdlaa.S1
open Go Go.Vh

theorem digs_cons (x : Int) (l : List Int) : digs (x :: l) = dig4 x ++ digs l := by simp [digs]
theorem limbs_tail {x : Int} {l : List Int} (h : Limbs (x :: l)) : (0 ≤ x ∧ x ≤ 4294967295) ∧ Limbs l := ⟨by simpa using h 0, fun i => by simpa using h (i + 1)⟩
theorem dl_digs : ∀ {l : List Int}, Limbs l → Dg.DL (digs l)
  | [], _ => by intro i; simp [digs]
  | x :: l, h => by
    obtain ⟨h1, h2⟩ := limbs_tail h
    have ih := dl_digs h2
    intro i
    rw [digs_cons]
    match i with
    | 0 => simp [dig4]; omega
    | 1 => simp [dig4]; omega
    | 2 => simp [dig4]; omega
    | 3 => simp [dig4]; omega
    | i + 4 => simpa [dig4] using ih i
theorem nv_cons2 (x : Int) (l : List Int) : ∀ k, nv (x :: l) (k + 1) = x + 4294967296 * nv l k
  | 0 => by simp [nv]
  | k + 1 => by
    rw [nv, nv_cons2 x l k, nv]
    simp only [List.getD_cons_succ, Int.pow_succ]
    rw [Int.mul_add, Int.mul_comm (BB ^ k) BB, Int.mul_left_comm, show BB = 4294967296 from rfl]
    omega
theorem num_cons2 (x : Int) (l : List Int) : num (x :: l) = x + 4294967296 * num l := nv_cons2 x l l.length
theorem num_digs : ∀ {l : List Int}, Limbs l → Dg.num (digs l) = num l
  | [], _ => rfl
  | x :: l, h => by
    obtain ⟨h1, h2⟩ := limbs_tail h
    have ih := num_digs h2
    rw [digs_cons, num_cons2, ← ih]
    simp only [dig4, List.cons_append, List.nil_append, Dg.num_cons]
    omega

section
variable {K : St → AHeap → Prop} {d : Option Nat} {s : St} {H : AHeap}
theorem call_digV {x : Int} {n : Nat} {w : AV} (hu : AtX H w x n) (hn : n ≤ 100000) (hK : ∀ R v r, AtD (H ++ R) v x.toNat r → v.cell = true → K (putI d s v) (H ++ R)) : thenC Try.prog K d s H [w] (.func 118 []) := by
  obtain ⟨κ, l, row, r, h1, rfl, h3, h4, h5, rfl, rfl⟩ := hu
  have hlen := digs_length l
  have htr := Dg.trim_dg (dl_digs h5)
  rw [num_digs h5, hlen, ← tz_dg] at htr
  have hle := tz_le (digs l) (4 * l.length)
  have hll : tz (digs l) (4 * l.length) = (Dg.dg (num l).toNat).length := by
    have := congrArg List.length htr
    rw [List.length_take, hlen] at this
    omega
  refine call_c1 (da := 0) (rest := []) (rdigits_calls κ l h1 (by omega) h5) ints_flat rfl h3 (by rw [ints_length, Nat.zero_add]; have := congrArg List.length h4; simp only [List.length_take, ints_length] at this; omega) (by rw [List.drop_zero, ints_length, h4]) rfl ?_
  rintro v0 H0' ⟨rfl, rfl⟩
  by_cases hl : l = []
  · subst hl
    have := hK [] .nilslice r (by rw [List.append_nil]; exact AtD.zero h3) rfl
    rw [List.append_nil] at this
    rw [show ((digH []).drop 1) = [] from rfl, List.map_nil, List.append_nil]
    exact this
  · have hk : digK l = .u := by rw [digK, if_neg hl]
    have hh : (digH l).drop 1 = [sl (ints .i64 (digs l))] := by rw [digH, if_neg hl]; rfl
    rw [hk, hh, hll, n_mkS0 (r' := H.length) (by simp [sig]), List.map_cons, List.map_nil, show renRow (sig [(r, 0)] H.length) (sl (ints .i64 (digs l))) = sl (ints .i64 (digs l)) from flat_row ints_flat rfl]
    refine hK [sl (ints .i64 (digs l))] _ H.length ⟨.u, ⟨true, true, ints .i64 (digs l)⟩, okS_u, rfl, by simp [Vh.rowAt, sl], ?_⟩ mkS_cell
    rw [ints_take, ← hll, htr]
end

theorem rCheck_calls (κ : SK) (n : Nat) (hk : okS κ n) (hn : n ≤ 9223372036854775807) : ACalls Try.prog 143 [mkS κ 0 0 n] [ro []] (List.range 1) fun v H => v = .int .i64 (if n ≤ 64 then 0 else 4) ∧ H = [ro []] := by
  refine ACalls.body Try.func143 ent_rCheck ir_rCheck_ok rs_rCheck_ok Try.ntmps143 (by simp) rfl ?_
  unfold ir_rCheck
  have e0 : s0 [mkS κ 0 0 n] 0 = mkS κ 0 0 n := rfl
  by_cases h : n ≤ 64
  · simp (disch := omega) only [sN, ↓reduceIte, Nat.reduceEqDiff, Nat.reduceAdd, Nat.reduceMul, Nat.reduceSub, reduceCtorEq, e_none, e_some, e_bindS, e0, k_len hk]
    refine ret_keep (by simp) ⟨?_, rfl⟩
    rw [if_pos h]
    simp only [e_upd, e_putS, e_putN, e_t, e_c, Nat.reduceEqDiff, ↓reduceIte, reduceCtorEq, Nat.reduceAdd]
  · simp (disch := omega) only [sN, ↓reduceIte, Nat.reduceEqDiff, Nat.reduceAdd, Nat.reduceMul, Nat.reduceSub, reduceCtorEq, e_none, e_some, e_bindS, e0, k_len hk]
    refine ret_keep (by simp) ⟨?_, rfl⟩
    rw [if_neg h]
    simp only [e_upd, e_putS, e_putN, e_t, e_c, Nat.reduceEqDiff, ↓reduceIte, reduceCtorEq, Nat.reduceAdd]
theorem call_rCheck {x : Int} {n : Nat} {w : AV} {K : St → AHeap → Prop} {d : Option Nat} {s : St} {H : AHeap} (hu : AtX H w x n) (hn : n ≤ 9223372036854775807) (hK : K (putI d s (.int .i64 (if n ≤ 64 then 0 else 4))) H) : thenC Try.prog K d s H [w] (.func 143 []) := by
  obtain ⟨κ, l, row, r, h1, rfl, h3, h4, h5, rfl, rfl⟩ := hu
  refine call_c1 (da := 0) (rest := []) (cs := []) (rCheck_calls κ l.length h1 (by omega)) rfl rfl h3 (by simp) (by simp) rfl ?_
  rintro v0 H0' ⟨rfl, rfl⟩
  rw [n_int, show ([ro []] : AHeap).drop 1 = [] from rfl, List.map_nil, List.append_nil]
  exact hK
theorem rboth_calls (H0 : AHeap) {x y : Int} {n m : Nat} {u v : AV} (hu : AtX H0 u x n) (hv : AtX H0 v y m) (hn : n ≤ 9223372036854775807) (hm : m ≤ 9223372036854775807) : ACalls Try.prog 123 [u, v] H0 (List.range H0.length) fun w H => w = .int .i64 (if n ≤ 64 ∧ m ≤ 64 then 0 else 4) ∧ Base H0 H := by
  refine ACalls.body Try.func123 ent_rboth ir_rboth_ok rs_rboth_ok Try.ntmps123 (by simp) rfl ?_
  unfold ir_rboth
  have e0 : s0 [u, v] 0 = u := rfl
  have e1 : s0 [u, v] 1 = v := rfl
  simp (disch := omega) only [sN, ↓reduceIte, Nat.reduceEqDiff, Nat.reduceAdd, Nat.reduceMul, Nat.reduceSub, reduceCtorEq, e_none, e_some, e_bindS, e0, e1, List.map_cons, List.map_nil]
  refine call_rCheck hu hn ?_
  by_cases h : n ≤ 64
  · rw [if_pos h]
    simp (disch := omega) only [sN, ↓reduceIte, Nat.reduceEqDiff, Nat.reduceAdd, Nat.reduceMul, Nat.reduceSub, reduceCtorEq, e_none, e_some, e_bindS, e0, e1, List.map_cons, List.map_nil]
    refine call_rCheck hv hm ?_
    by_cases h' : m ≤ 64
    · rw [if_pos h', if_pos ⟨h, h'⟩]
      simp (disch := omega) only [sN, ↓reduceIte, Nat.reduceEqDiff, Nat.reduceAdd, Nat.reduceMul, Nat.reduceSub, reduceCtorEq, e_none, e_some, e_bindS]
      refine ret_keep (Nat.le_refl _) ⟨?_, Base.refl⟩
      simp only [e_upd, e_putS, e_putN, e_t, e_c, Nat.reduceEqDiff, ↓reduceIte, reduceCtorEq, Nat.reduceAdd]
    · rw [if_neg h', if_neg fun q => h' q.2]
      simp (disch := omega) only [sN, ↓reduceIte, Nat.reduceEqDiff, Nat.reduceAdd, Nat.reduceMul, Nat.reduceSub, reduceCtorEq, e_none, e_some, e_bindS]
      refine ret_keep (Nat.le_refl _) ⟨?_, Base.refl⟩
      simp only [e_upd, e_putS, e_putN, e_t, e_c, Nat.reduceEqDiff, ↓reduceIte, reduceCtorEq, Nat.reduceAdd]
  · rw [if_neg h, if_neg fun q => h q.1]
    simp (disch := omega) only [sN, ↓reduceIte, Nat.reduceEqDiff, Nat.reduceAdd, Nat.reduceMul, Nat.reduceSub, reduceCtorEq, e_none, e_some, e_bindS]
    refine ret_keep (Nat.le_refl _) ⟨?_, Base.refl⟩
    simp only [e_upd, e_putS, e_putN, e_t, e_c, Nat.reduceEqDiff, ↓reduceIte, reduceCtorEq, Nat.reduceAdd]

set_option maxHeartbeats 1000000 in
theorem rCheckFrac_calls (H0 : AHeap) {q : Fr} (hq : q.ok H0) : ACalls Try.prog 80 [.agg [q.w, q.w2]] H0 (List.range H0.length) fun w H => w = .int .i64 (cfE [q]) ∧ Base H0 H := by
  refine ACalls.body Try.func80 ent_rCheckFrac ir_rCheckFrac_ok rs_rCheckFrac_ok Try.ntmps80 (by simp) rfl ?_
  unfold ir_rCheckFrac
  have e0 : s0 [.agg [q.w, q.w2]] 0 = .agg [q.w, q.w2] := rfl
  simp (disch := omega) only [sN, ↓reduceIte, Nat.reduceEqDiff, Nat.reduceAdd, Nat.reduceMul, Nat.reduceSub, reduceCtorEq, e_none, e_some, e_bindS, e0]
  rw [x_boxN (l := [q.w, q.w2]) (by simp only [e_upd, e_putS, e_putN, e_t, e_c, Nat.reduceEqDiff, ↓reduceIte, reduceCtorEq, Nat.reduceAdd, e0]) (by simp [hq.1.cell, hq.2.1.cell])]
  have hr : Vh.rowAt (H0 ++ [rw_ [q.w, q.w2]]) H0.length = some ⟨true, false, [q.w, q.w2]⟩ := by simp [Vh.rowAt, rw_]
  have hB : Base H0 (H0 ++ [rw_ [q.w, q.w2]]) := Base.one
  have hq1 := hq.base hB
  simp (disch := omega) only [sN, ↓reduceIte, Nat.reduceEqDiff, Nat.reduceAdd, Nat.reduceMul, Nat.reduceSub, reduceCtorEq, e_none, e_some, e_bindS, hr, p_fieldAddr, Nat.zero_add, Option.bind_some, Option.map_some, List.getElem?_cons_zero, List.getElem?_cons_succ, List.map_cons, List.map_nil]
  refine ⟨_, (rboth_calls _ hq1.1 hq1.2.1 hq1.2.2.1 hq1.2.2.2).g.mono ?_⟩
  rintro v H ⟨rfl, hB1⟩
  have hrH := hB1.row hr
  have hBH := hB.trans hB1
  have hq2 := hq1.base hB1
  by_cases hs : q.n ≤ 64 ∧ q.m ≤ 64
  · rw [if_pos hs]
    simp (disch := omega) only [sN, ↓reduceIte, Nat.reduceEqDiff, Nat.reduceAdd, Nat.reduceMul, Nat.reduceSub, reduceCtorEq, e_none, e_some, e_bindS, hrH, p_fieldAddr, Nat.zero_add, Option.bind_some, Option.map_some, List.getElem?_cons_zero, List.getElem?_cons_succ, List.map_cons, List.map_nil]
    refine call_digV hq2.2.1 (show q.m ≤ 100000 by omega) ?_
    intro R w r hw hwc
    have hy0 : 0 ≤ q.y := (hq2.2.1.k (Nat.le_refl _)).choose_spec.nonneg
    obtain ⟨κ, row, k1, rfl, k3, k4⟩ := hw
    by_cases hd : q.y = 0
    · have hE : cfE [q] = 7 := by simp [cfE, Fr.short, Fr.den, hs, hd]
      rw [hE]
      have hl : (Dg.dg q.y.toNat).length = 0 := by rw [hd, Int.toNat_zero, Dg.dg_zero]; rfl
      simp (disch := omega) only [sN, ↓reduceIte, Nat.reduceEqDiff, Nat.reduceAdd, Nat.reduceMul, Nat.reduceSub, reduceCtorEq, e_none, e_some, e_bindS, k_len k1]
      refine ret_keep (by have := hBH.1; simp; omega) ⟨?_, hBH.app⟩
      simp only [e_upd, e_putS, e_putN, e_t, e_c, Nat.reduceEqDiff, ↓reduceIte, reduceCtorEq, Nat.reduceAdd]
    · have hE : cfE [q] = 0 := by simp [cfE, Fr.short, Fr.den, hs, hd]
      rw [hE]
      have hl : (Dg.dg q.y.toNat).length ≠ 0 := by
        rw [Dg.dg_pos (by omega)]; simp
      simp (disch := omega) only [sN, ↓reduceIte, Nat.reduceEqDiff, Nat.reduceAdd, Nat.reduceMul, Nat.reduceSub, reduceCtorEq, e_none, e_some, e_bindS, k_len k1]
      refine ret_keep (by have := hBH.1; simp; omega) ⟨?_, hBH.app⟩
      simp only [e_upd, e_putS, e_putN, e_t, e_c, Nat.reduceEqDiff, ↓reduceIte, reduceCtorEq, Nat.reduceAdd]
  · have hE : cfE [q] = 4 := by simp only [cfE, Fr.short, List.all_cons, List.all_nil, Bool.and_true, decide_eq_false hs]; rfl
    rw [if_neg hs, hE]
    simp (disch := omega) only [sN, ↓reduceIte, Nat.reduceEqDiff, Nat.reduceAdd, Nat.reduceMul, Nat.reduceSub, reduceCtorEq, e_none, e_some, e_bindS]
    refine ret_keep hBH.1 ⟨?_, hBH⟩
    simp only [e_upd, e_putS, e_putN, e_t, e_c, Nat.reduceEqDiff, ↓reduceIte, reduceCtorEq, Nat.reduceAdd]
end Go.Proofs.Ythbhljolpnbdlaa.S1



/- Contracts: the reference's binomial numbers and balls. -/
-- NEWSET
namespace Go.Proofs.Ythbhljolpnbdlaa.S1
open Go Go.Vh

theorem bb_db (k : Nat) : BB ^ k = Dg.DB ^ (4 * k) := by
  rw [Int.pow_mul]; rfl
section
variable {K : St → AHeap → Prop} {d : Option Nat} {s : St} {H : AHeap}
end

end Go.Proofs.Ythbhljolpnbdlaa.S1



/- Contracts: the reference's gcd and reduced, on top of any heap. -/
-- NEWSET
namespace Go.Proofs.Ythbhljolpnbdlaa.S1
open Go Go.Vh

section
variable {K : St → AHeap → Prop} {d : Option Nat} {s : St} {H : AHeap}
theorem dg_fits {n k : Nat} : (Dg.dg n).length ≤ 4 * k ↔ (n : Int) < BB ^ k := by
  have e : BB ^ k = ((256 ^ (4 * k) : Nat) : Int) := by rw [bb_db, Int.natCast_pow]; rfl
  rw [e]
  constructor
  · intro h
    have := Nat.lt_of_lt_of_le (Dg.dg_lt n) (Nat.pow_le_pow_right (n := 256) (by omega) h)
    omega
  · intro h
    exact Dg.dg_len_le (by omega)
end
end Go.Proofs.Ythbhljolpnbdlaa.S1



/- Contracts: the reference's reduced, as a whole. -/
-- NEWSET
namespace Go.Proofs.Ythbhljolpnbdlaa.S1
open Go Go.Vh

section
variable {K : St → AHeap → Prop} {d : Option Nat} {s : St} {H : AHeap}
end
end Go.Proofs.Ythbhljolpnbdlaa.S1


