/- Contracts: the reference's long division, quotient and remainder: the walk. -/
import Derived.Test.YtpkeneadkiabiaaDoorVX
import Derived.Test.YtpkeneadkiabiaaDoorEC
import Derived.Test.YtpkeneadkiabiaaDoorIrD
import Derived.Test.YtpkeneadkiabiaaDoorFI
set_option linter.unusedSimpArgs false
set_option linter.unusedVariables false
-- NEWSET
namespace Go.Proofs.YtpkeneadkiabiaaDoor
open Go Go.Vh

/-- The digits of n lie in the row r, which is flat. -/
def AtF (H : AHeap) (v : AV) (n r : Nat) : Prop := ∃ κ row, okS κ (Dg.dg n).length ∧ v = mkS κ r 0 (Dg.dg n).length ∧ Vh.rowAt H r = some row ∧ row.cells.take (Dg.dg n).length = ints .i64 (Dg.dg n) ∧ row.own = true ∧ row.cells.all AV.flat = true
theorem AtF.at {H : AHeap} {v : AV} {n r : Nat} (h : AtF H v n r) : AtD H v n r := by
  obtain ⟨κ, row, h1, h2, h3, h4, _⟩ := h; exact ⟨κ, row, h1, h2, h3, h4⟩
theorem AtF.ext {H H' : AHeap} {v : AV} {n r Q : Nat} (h : AtF H v n r) (he : Ext H H' Q) (hq : r ≠ Q) : AtF H' v n r := by
  have hl := h.at.lt
  obtain ⟨κ, row, h1, h2, h3, h4, h5⟩ := h; exact ⟨κ, row, h1, h2, by rw [he.2 r hl hq, h3], h4, h5⟩
theorem AtD.flat {H : AHeap} {v : AV} {n r : Nat} {row : ARow} (h : AtD H v n r) (hr : Vh.rowAt H r = some row) (ho : row.own = true) (hf : row.cells.all AV.flat = true) : AtF H v n r := by
  obtain ⟨κ, row', h1, h2, h3, h4⟩ := h
  rw [hr] at h3; cases h3
  exact ⟨κ, row, h1, h2, hr, h4, ho, hf⟩
end Go.Proofs.YtpkeneadkiabiaaDoor


/- Contracts: the reference's greatest common divisor. -/
-- NEWSET
namespace Go.Proofs.YtpkeneadkiabiaaDoor
open Go Go.Vh

section
variable {K : St → AHeap → Prop} {d : Option Nat} {s : St} {H : AHeap}
end

end Go.Proofs.YtpkeneadkiabiaaDoor


/- Contracts: the reference's row of binomial numbers, on top of any heap. -/
-- NEWSET
namespace Go.Proofs.YtpkeneadkiabiaaDoor
open Go Go.Vh

theorem AtD.base {H H' : AHeap} {v : AV} {n r : Nat} (h : AtD H v n r) (hb : Base H H') : AtD H' v n r := h.keep (hb.2 r h.lt)
theorem RowN.base {H H' : AHeap} {n k D : Nat} {cells : List AV} (h : RowN H n k D cells) (hb : Base H H') : RowN H' n k D cells := ⟨h.1, fun j hj => by
  obtain ⟨c, r, h1, h2, h3, h4⟩ := h.2 j hj
  exact ⟨c, r, h1, h2, h3.base hb, h4⟩⟩

set_option maxHeartbeats 1000000 in
theorem rrowB_calls (H0 : AHeap) (n : Nat) (hn : n ≤ 512) : ACalls Tryd.prog 97 [.int .i64 (n : Int)] H0 (List.range H0.length) fun v H => ∃ D cells, v = dblS D (n + 1) ∧ Vh.rowAt H D = some ⟨true, decide (n + 1 ≠ 1), cells⟩ ∧ RowN H n (n + 1) D cells ∧ Base H0 H ∧ H0.length ≤ D := by
  refine ACalls.body Tryd.func97 ent_rrow ir_rrow_ok rs_rrow_ok Tryd.ntmps97 (by simp) rfl ?_
  unfold ir_rrow
  have e0 : s0 [.int .i64 (n : Int)] 0 = .int .i64 n := rfl
  obtain ⟨big, hbig, len66, cnk_small⟩ := big_ex
  have few_big : ∀ x, x ≤ 513 → x ≤ big * 513 := fun x h => Nat.le_trans h (Nat.le_mul_of_pos_left _ hbig)
  simp (disch := omega) only [sN, ↓reduceIte, Nat.reduceEqDiff, Nat.reduceAdd, Nat.reduceMul, Nat.reduceSub, reduceCtorEq, e_none, e_some, e_bindS, e0]
  refine call_small (n := 1) (by omega) ?_
  intro w row ho hfl hw hwc
  simp (disch := omega) only [sN, ↓reduceIte, Nat.reduceEqDiff, Nat.reduceAdd, Nat.reduceMul, Nat.reduceSub, reduceCtorEq, e_none, e_some, e_bindS, e0]
  rw [x_bs1 (v := w) (by simp only [e_upd, e_putS, e_putN, e_t, e_c, Nat.reduceEqDiff, ↓reduceIte, reduceCtorEq, Nat.reduceAdd]) hwc]
  simp (disch := omega) only [sN, ↓reduceIte, Nat.reduceEqDiff, Nat.reduceAdd, Nat.reduceMul, Nat.reduceSub, reduceCtorEq, e_none, e_some, e_bindS, e0]
  refine ⟨fun m s H => ∃ (k D : Nat) (cells : List AV), m = n + 1 - k ∧ 1 ≤ k ∧ k ≤ n + 1 ∧ s 0 = .int .i64 (n : Int) ∧ s 3 = dblS D k ∧ s 4 = .int .i64 (k : Int) ∧ Vh.rowAt H D = some ⟨true, decide (k ≠ 1), cells⟩ ∧ RowN H n k D cells ∧ Base H0 H ∧ H0.length ≤ D, n, ⟨1, H0.length + 1, [w], by omega, by omega, by omega, ?_, ?_, ?_, ?_, ⟨rfl, ?_⟩, Base.refl.app.app, by omega⟩, ?_⟩
  · simp only [e_upd, e_putS, e_putN, e_t, e_c, Nat.reduceEqDiff, ↓reduceIte, reduceCtorEq, Nat.reduceAdd, e0]
  · simp only [e_upd, e_putS, e_putN, e_t, e_c, Nat.reduceEqDiff, ↓reduceIte, reduceCtorEq, Nat.reduceAdd]; first | done | (simp [dblS])
  · simp only [e_upd, e_putS, e_putN, e_t, e_c, Nat.reduceEqDiff, ↓reduceIte, reduceCtorEq, Nat.reduceAdd]; try rfl
  · simp [Vh.rowAt, rw_, List.getElem?_append_right]
  · intro j hj
    obtain rfl : j = 0 := by omega
    exact ⟨w, H0.length, rfl, hwc, by rw [cnk_zero]; exact hw.keep (row_left hw.lt), by omega⟩
  clear hw hwc hfl ho w row
  rintro m s H ⟨k, D, cells, rfl, hk1, hkn, h0, h3, h4, rD, hrow, hB, hD0⟩
  have lD := row_lt rD
  by_cases hlt : (k : Int) ≤ (n : Int)
  · obtain ⟨c, rc, hc1, hc2, hc3, hc4⟩ := hrow.2 (k - 1) (by omega)
    have hkI : (k : Int) - 1 = ((k - 1 : Nat) : Int) := by omega
    have hnI : (n : Int) - (k : Int) + 1 = ((n - (k - 1) : Nat) : Int) := by omega
    have hi := dblS_idx (D := D) (k := k) (j := k - 1) (by omega)
    have hcs := cnk_small n (k - 1) hn
    have hdiv : cnk n (k - 1) * (n - (k - 1)) / k = cnk n k := by
      have := cnk_next n (k - 1) (by omega)
      rw [show k - 1 + 1 = k by omega] at this
      rw [Nat.mul_comm, ← this]
      exact Nat.mul_div_cancel_left _ (by omega)
    have hpl : cnk n (k - 1) * (n - (k - 1)) ≤ big * 513 := Nat.mul_le_mul hcs (by omega)
    have hp1 : n - (k - 1) ≤ big * 513 := few_big _ (by omega)
    have hp2 : k ≤ big * 513 := few_big _ (by omega)
    have hp3 : cnk n (k - 1) ≤ big * 513 := Nat.le_trans hcs (Nat.le_mul_of_pos_right _ (by omega))
    simp (disch := omega) only [sN, ↓reduceIte, Nat.reduceEqDiff, Nat.reduceAdd, Nat.reduceMul, Nat.reduceSub, reduceCtorEq, e_none, e_some, e_bindS, h0, h3, h4, hkI, hnI, hi, rD, hc1, Option.bind_some, Option.map_some]
    refine call_small0 (n := n - (k - 1)) (by omega) ?_
    intro w1 row1 o1 f1 a1 c1
    simp (disch := omega) only [sN, ↓reduceIte, Nat.reduceEqDiff, Nat.reduceAdd, Nat.reduceMul, Nat.reduceSub, reduceCtorEq, e_none, e_some, e_bindS, h0, h3, h4]
    have hc3' : AtD (H ++ [some row1]) c (cnk n (k - 1)) rc := hc3.keep (row_left hc3.lt)
    refine call_mul (Nat.le_trans (len66 _ hp3) (by omega)) (Nat.le_trans (len66 _ hp1) (by omega)) hc3' a1 ?_
    intro w2 row2 o2 f2 a2 c2
    simp (disch := omega) only [sN, ↓reduceIte, Nat.reduceEqDiff, Nat.reduceAdd, Nat.reduceMul, Nat.reduceSub, reduceCtorEq, e_none, e_some, e_bindS, h0, h3, h4]
    refine call_small (n := k) (by omega) ?_
    intro w3 row3 o3 f3 a3 c3
    simp (disch := omega) only [sN, ↓reduceIte, Nat.reduceEqDiff, Nat.reduceAdd, Nat.reduceMul, Nat.reduceSub, reduceCtorEq, e_none, e_some, e_bindS, h0, h3, h4]
    have a2' : AtD (H ++ [some row1] ++ [some row2] ++ [some row3]) w2 (cnk n (k - 1) * (n - (k - 1))) (H ++ [some row1]).length := a2.keep (row_left a2.lt)
    refine call_div (by omega) (Nat.le_trans (len66 _ hpl) (by omega)) (Nat.le_trans (len66 _ hp2) (by omega)) a2' a3 ?_
    intro w4 v4 row4 o4 f4 a4 c4
    rw [hdiv] at a4
    simp (disch := omega) only [sN, ↓reduceIte, Nat.reduceEqDiff, Nat.reduceAdd, Nat.reduceMul, Nat.reduceSub, reduceCtorEq, e_none, e_some, e_bindS, h0, h3, h4, List.getElem?_cons_zero, List.getElem?_cons_succ]
    rw [x_bs1 (v := w4) (by simp only [e_upd, e_putS, e_putN, e_t, e_c, Nat.reduceEqDiff, ↓reduceIte, reduceCtorEq, Nat.reduceAdd]) c4]
    simp (disch := omega) only [sN, ↓reduceIte, Nat.reduceEqDiff, Nat.reduceAdd, Nat.reduceMul, Nat.reduceSub, reduceCtorEq, e_none, e_some, e_bindS, h0, h3, h4]
    obtain ⟨H4, hH4⟩ : ∃ H4, H4 = H ++ [some row1] ++ [some row2] ++ [some row3] ++ [some row4] := ⟨_, rfl⟩
    have hx4 : Ext H H4 D := by rw [hH4]; exact ((Ext.app.trans Ext.app).trans Ext.app).trans Ext.app
    have hl4 : H4.length = H.length + 4 := by rw [hH4]; simp
    have hl3 : (H ++ [some row1] ++ [some row2] ++ [some row3]).length = H.length + 3 := by simp
    rw [hl3, ← hH4] at a4
    rw [← hH4]
    have hall : cells.all AV.cell = true := by
      rw [List.all_eq_true]
      intro x hx
      obtain ⟨j, hj⟩ := List.getElem?_of_mem hx
      have hjl := (List.getElem?_eq_some_iff.1 hj).1
      obtain ⟨c', _, g1, g2, _⟩ := hrow.2 j (by rw [← hrow.1]; exact hjl)
      rw [g1] at hj; cases hj; exact g2
    obtain ⟨H1, hH1⟩ : ∃ H1, H1 = H4 ++ [rw_ [w4]] := ⟨_, rfl⟩
    have hx1 : Ext H H1 D := by rw [hH1]; exact hx4.trans Ext.app
    have hl1 : H1.length = H.length + 5 := by rw [hH1]; simp [hl4]
    have eD : Vh.rowAt H1 D = some ⟨true, decide (k ≠ 1), cells⟩ := by
      have : Vh.rowAt H4 D = Vh.rowAt H D := by rw [hH4, row_left (by simp; omega), row_left (by simp; omega), row_left (by simp; omega), row_left lD]
      rw [hH1, row_left (by omega), this, rD]
    have eW : Vh.rowAt H1 H4.length = some ⟨true, false, [w4]⟩ := by rw [hH1]; simp [Vh.rowAt, rw_]
    have a1' : AtD H1 w4 (cnk n k) (H.length + 3) := by rw [hH1]; exact a4.keep (row_left a4.lt)
    rw [← hH1]
    rw [x_appD (D := D) (k := k) (r := H4.length) (cells := cells) (c := w4) (by simp only [e_upd, e_putS, e_putN, e_t, e_c, Nat.reduceEqDiff, ↓reduceIte, reduceCtorEq, Nat.reduceAdd, h3]) (by simp only [e_upd, e_putS, e_putN, e_t, e_c, Nat.reduceEqDiff, ↓reduceIte, reduceCtorEq, Nat.reduceAdd]) eD hrow.1 hk1 (by omega) eW c4 hall]
    obtain ⟨H2, hH2⟩ : ∃ H2, H2 = (if k = 1 then H1 else H1.set D none) := ⟨_, rfl⟩
    have hx2 : Ext H1 H2 D := by rw [hH2]; split; exact Ext.refl; exact Ext.set
    have hl2 : H2.length = H1.length := by rw [hH2]; split <;> simp
    have hB1 : Base H0 H1 := by rw [hH1, hH4]; exact hB.app.app.app.app.app
    have hB2 : Base H0 H2 := by
      rw [hH2]; split
      · exact hB1
      · exact hB1.set hD0
    rw [← hH2]
    have hx3 : Ext H1 (H2 ++ [sl (cells ++ [w4])]) D := hx2.trans Ext.app
    simp (disch := omega) only [sN, ↓reduceIte, Nat.reduceEqDiff, Nat.reduceAdd, Nat.reduceMul, Nat.reduceSub, reduceCtorEq, e_none, e_some, e_bindS, h0, h3, h4]
    refine loop_keep (m := n + 1 - (k + 1)) (by omega) ⟨k + 1, H1.length, cells ++ [w4], rfl, by omega, by omega, ?_, ?_, ?_, ?_, ?_, hB2.app, by have := hB.1; omega⟩
    · simp only [e_upd, e_putS, e_putN, e_t, e_c, Nat.reduceEqDiff, ↓reduceIte, reduceCtorEq, Nat.reduceAdd, h0]
    · simp only [e_upd, e_putS, e_putN, e_t, e_c, Nat.reduceEqDiff, ↓reduceIte, reduceCtorEq, Nat.reduceAdd]
    · simp only [e_upd, e_putS, e_putN, e_t, e_c, Nat.reduceEqDiff, ↓reduceIte, reduceCtorEq, Nat.reduceAdd]; rfl
    · rw [← hl2]; simp [Vh.rowAt, sl]; omega
    · refine ⟨by rw [List.length_append, hrow.1]; rfl, fun j hj => ?_⟩
      by_cases hjk : j < k
      · obtain ⟨c', rc', g1, g2, g3, g4⟩ := hrow.2 j hjk
        have := g3.lt
        exact ⟨c', rc', by rw [List.getElem?_append_left (by rw [hrow.1]; exact hjk), g1], g2, (g3.ext hx1 g4).ext hx3 g4, by omega⟩
      · obtain rfl : j = k := by omega
        exact ⟨w4, H.length + 3, by rw [List.getElem?_append_right (by rw [hrow.1]; omega), hrow.1, Nat.sub_self]; rfl, c4, a1'.ext hx3 (by omega), by omega⟩
  obtain rfl : k = n + 1 := by omega
  simp (disch := omega) only [sN, ↓reduceIte, Nat.reduceEqDiff, Nat.reduceAdd, Nat.reduceMul, Nat.reduceSub, reduceCtorEq, e_none, e_some, e_bindS, h0, h3, h4]
  refine ret_keep hB.1 ?_
  unfold rs_rrow; rw [q_tmp, q_then]
  exact ⟨D, cells, by simp only [e_upd, e_putS, e_putN, e_t, e_c, Nat.reduceEqDiff, ↓reduceIte, reduceCtorEq, Nat.reduceAdd, h3], rD, hrow, hB, hD0⟩
end Go.Proofs.YtpkeneadkiabiaaDoor

