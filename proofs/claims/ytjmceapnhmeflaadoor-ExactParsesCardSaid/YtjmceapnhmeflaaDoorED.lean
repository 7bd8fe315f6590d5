/- Contracts: the reference's long division, quotient and remainder: the walk. -/
import Derived.Test.YtjmceapnhmeflaaDoorVX
import Derived.Test.YtjmceapnhmeflaaDoorEC
import Derived.Test.YtjmceapnhmeflaaDoorIrD
import Derived.Test.YtjmceapnhmeflaaDoorFI
import Derived.Test.YtjmceapnhmeflaaDoorFH
import Derived.Test.YtjmceapnhmeflaaDoorFG
import Derived.Test.YtjmceapnhmeflaaDoorIrC
set_option linter.unusedSimpArgs false
set_option linter.unusedVariables false
-- NEWSET
namespace Go.Proofs.YtjmceapnhmeflaaDoor
open Go Go.Vh

/-- The digits of n lie in the row r, which is flat. -/
def AtF (H : AHeap) (v : AV) (n r : Nat) : Prop := ∃ κ row, okS κ (Dg.dg n).length ∧ v = mkS κ r 0 (Dg.dg n).length ∧ Vh.rowAt H r = some row ∧ row.cells.take (Dg.dg n).length = ints .i64 (Dg.dg n) ∧ row.own = true ∧ row.cells.all AV.flat = true
theorem AtF.at {H : AHeap} {v : AV} {n r : Nat} (h : AtF H v n r) : AtD H v n r := by
  obtain ⟨κ, row, h1, h2, h3, h4, _⟩ := h; exact ⟨κ, row, h1, h2, h3, h4⟩
theorem AtF.ext {H H' : AHeap} {v : AV} {n r Q : Nat} (h : AtF H v n r) (he : Ext H H' Q) (hq : r ≠ Q) : AtF H' v n r := by
  have hl := h.at.lt
  obtain ⟨κ, row, h1, h2, h3, h4, h5⟩ := h; exact ⟨κ, row, h1, h2, by rw [he.2 r hl hq, h3], h4, h5⟩
theorem AtD.flat {H : AHeap} {v : AV} {n r : Nat} {row : ARow} (h : AtD H v n r) (hr : Vh.rowAt H r = some row) (ho : row.own = true) (hf : row.cells.all AV.flat = true) : AtF H v n r := by
  obtain ⟨κ, row', h1, h2, h3, h4⟩ := h
  rw [hr] at h3; cases h3
  exact ⟨κ, row, h1, h2, hr, h4, ho, hf⟩
theorem flat_cells {l : List AV} (h : l.all AV.flat = true) : l.all AV.cell = true := by
  rw [List.all_eq_true] at h ⊢
  exact fun v hv => flat_cell (h v hv)

/-- The quotient, new, and the remainder: new, or the first number itself. -/
def QR (base : AHeap) (n m : Nat) (v : AV) (H : AHeap) : Prop := ∃ κ v2 row, okS κ (Dg.dg n).length ∧ v = .tuple [mkS κ base.length 0 (Dg.dg n).length, v2] ∧ row.own = true ∧ row.cells.take (Dg.dg n).length = ints .i64 (Dg.dg n) ∧ row.cells.all AV.flat = true ∧
  ((H = base ++ [some row] ∧ ∃ κ2, okS κ2 (Dg.dg m).length ∧ v2 = mkS κ2 0 0 (Dg.dg m).length ∧ Vh.rowAt base 0 = ro (ints .i64 (Dg.dg m))) ∨
   (∃ row2, H = base ++ [some row, some row2] ∧ row2.own = true ∧ row2.cells.all AV.flat = true ∧ row2.cells.take (Dg.dg m).length = ints .i64 (Dg.dg m) ∧ ∃ κ2, okS κ2 (Dg.dg m).length ∧ v2 = mkS κ2 (base.length + 1) 0 (Dg.dg m).length))

set_option maxHeartbeats 2000000 in
theorem rdivide2_calls (κ κ' : SK) (p q : Nat) (hq : 0 < q) (hk : okS κ (Dg.dg p).length) (hk' : okS κ' (Dg.dg q).length) (hm : (Dg.dg p).length ≤ 10000) (hm' : (Dg.dg q).length ≤ 10000) :
    ACalls Tryd.prog 121 [mkS κ 0 0 (Dg.dg p).length, mkS κ' 1 0 (Dg.dg q).length] [ro (ints .i64 (Dg.dg p)), ro (ints .i64 (Dg.dg q))] (List.range 2) (QR [ro (ints .i64 (Dg.dg p)), ro (ints .i64 (Dg.dg q))] (p / q) (p % q)) := by
  refine ACalls.body Tryd.func121 ent_rdivide ir_rdivide_ok rs_rdivide_ok Tryd.ntmps121 (by simp) rfl ?_
  unfold ir_rdivide
  have e0 : s0 [mkS κ 0 0 (Dg.dg p).length, mkS κ' 1 0 (Dg.dg q).length] 0 = mkS κ 0 0 (Dg.dg p).length := rfl
  have e1 : s0 [mkS κ 0 0 (Dg.dg p).length, mkS κ' 1 0 (Dg.dg q).length] 1 = mkS κ' 1 0 (Dg.dg q).length := rfl
  have ha := Dg.dg_dl p
  have na := Dg.dg_num p
  have ta := Dg.dg_tz p
  have hb := Dg.dg_dl q
  have nb := Dg.dg_num q
  have tb := Dg.dg_tz q
  have hAq : ∀ H : AHeap, Vh.rowAt H 1 = some ⟨false, false, ints .i64 (Dg.dg q)⟩ → AtD H (mkS κ' 1 0 (Dg.dg q).length) q 1 := fun H h => ⟨κ', _, hk', rfl, h, by rw [← ints_length (k := .i64) (l := Dg.dg q), List.take_length]⟩
  have hlens : ∀ x, x < q * 256 → (Dg.dg x).length ≤ 10001 := fun x h => Nat.le_trans (Dg.dg_mul_len h) (by omega)
  have hlen2 : ∀ j, j ≤ 7 → (Dg.dg (q * 2 ^ j)).length ≤ 10001 := fun j h => hlens _ (by have := Dg.pow_le8 h; exact Nat.mul_lt_mul_of_pos_left (by omega) hq)
  have hbl : 0 < (Dg.dg q).length := by rw [Dg.dg_pos hq]; simp
  obtain ⟨a, haq⟩ : ∃ a, Dg.dg p = a := ⟨_, rfl⟩
  obtain ⟨la, hla⟩ : ∃ la, a.length = la := ⟨_, rfl⟩
  obtain ⟨lb, hlb⟩ : ∃ lb, (Dg.dg q).length = lb := ⟨_, rfl⟩
  obtain ⟨B, hB⟩ : ∃ B, ints .i64 (Dg.dg q) = B := ⟨_, rfl⟩
  rw [hB, hlb] at hAq
  rw [haq, hla] at hk hm e0 e1 ta ⊢
  rw [haq] at ha na
  rw [hlb] at hk' hm' e0 e1 hbl ⊢
  rw [hB]
  by_cases hlt : (la : Int) < (lb : Int)
  · have hpq : p / q = 0 := by
      apply Nat.div_eq_of_lt
      have := Dg.nv_len_lt ha hb (n := la) (m := lb) (by omega) (by
        have h := Dg.tz_last (Dg.dg q) (Dg.dg q).length (by rw [tb]; omega)
        rw [tb, hlb] at h; exact h)
      simp only [Dg.num, hla] at na
      simp only [Dg.num, hlb] at nb
      omega
    simp (disch := omega) only [sN, ↓reduceIte, Nat.reduceEqDiff, Nat.reduceAdd, Nat.reduceMul, Nat.reduceSub, reduceCtorEq, e_none, e_some, e_bindS, e0, e1, k_len hk, k_len hk']
    have hpm : p % q = p := by
      have := Nat.div_add_mod p q
      rw [hpq] at this; omega
    refine ⟨_, _, Weak.pad, by simp, ?_⟩
    unfold rs_rdivide; rw [q_tmp2, q_then, hpq, hpm]
    refine ⟨.nil, mkS κ 0 0 la, ⟨true, false, []⟩, by rw [Dg.dg_zero]; rfl, ?_, rfl, by rw [Dg.dg_zero]; rfl, rfl, .inl ⟨rfl, κ, by rw [haq, hla]; exact hk, by rw [haq, hla], by rw [haq]; rfl⟩⟩
    simp only [e_upd, e_putS, e_putN, e_t, e_c, Nat.reduceEqDiff, ↓reduceIte, reduceCtorEq, Nat.reduceAdd, e0, Dg.dg_zero]; rfl
  simp (disch := omega) only [sN, ↓reduceIte, Nat.reduceEqDiff, Nat.reduceAdd, Nat.reduceMul, Nat.reduceSub, reduceCtorEq, e_none, e_some, e_bindS, e0, e1, k_len hk, k_len hk']
  rw [x_bs1 (v := mkS κ' 1 0 lb) (by simp only [e_upd, e_putS, e_putN, e_t, e_c, Nat.reduceEqDiff, ↓reduceIte, reduceCtorEq, Nat.reduceAdd, e1]) mkS_cell]
  simp (disch := omega) only [sN, ↓reduceIte, Nat.reduceEqDiff, Nat.reduceAdd, Nat.reduceMul, Nat.reduceSub, reduceCtorEq, e_none, e_some, e_bindS, e0, e1, List.cons_append, List.nil_append]
  refine ⟨fun m s H => ∃ (k D : Nat) (cells : List AV), m = 8 - k ∧ 1 ≤ k ∧ k ≤ 8 ∧ s 0 = mkS κ 0 0 la ∧ s 1 = mkS κ' 1 0 lb ∧ s 6 = dblS D k ∧ s 7 = .int .i64 (k : Int) ∧ 2 ≤ D ∧ Vh.rowAt H 0 = some ⟨false, false, ints .i64 a⟩ ∧ Vh.rowAt H 1 = some ⟨false, false, B⟩ ∧ Vh.rowAt H D = some ⟨true, decide (k ≠ 1), cells⟩ ∧ Dbl H q D k D cells, 7, ⟨1, 2, [mkS κ' 1 0 lb], rfl, by omega, by omega, ?_, ?_, ?_, ?_, by omega, rfl, rfl, rfl, rfl, ?_⟩, ?_⟩
  · simp only [e_upd, e_putS, e_putN, e_t, e_c, Nat.reduceEqDiff, ↓reduceIte, reduceCtorEq, Nat.reduceAdd, e0]
  · simp only [e_upd, e_putS, e_putN, e_t, e_c, Nat.reduceEqDiff, ↓reduceIte, reduceCtorEq, Nat.reduceAdd, e1]
  · simp only [e_upd, e_putS, e_putN, e_t, e_c, Nat.reduceEqDiff, ↓reduceIte, reduceCtorEq, Nat.reduceAdd]; rfl
  · simp only [e_upd, e_putS, e_putN, e_t, e_c, Nat.reduceEqDiff, ↓reduceIte, reduceCtorEq, Nat.reduceAdd]; rfl
  · intro j hj
    obtain rfl : j = 0 := by omega
    exact ⟨_, 1, rfl, mkS_cell, by rw [Nat.pow_zero, Nat.mul_one]; exact hAq _ rfl, by omega⟩
  rintro m s H ⟨k, D, cells, rfl, hk1, hk8, h0, h1, h6, h7, hD2, r0, r1, rD, hdbl⟩
  have lD := row_lt rD
  have l0 := row_lt r0
  have l1 := row_lt r1
  by_cases hk7 : (k : Int) < 8
  · obtain ⟨c, rc, hc1, hc2, hc3, hc4⟩ := hdbl.2 (k - 1) (by omega)
    have hkI : (k : Int) - 1 = ((k - 1 : Nat) : Int) := by omega
    have hi := dblS_idx (D := D) (k := k) (j := k - 1) (by omega)
    simp (disch := omega) only [sN, ↓reduceIte, Nat.reduceEqDiff, Nat.reduceAdd, Nat.reduceMul, Nat.reduceSub, reduceCtorEq, e_none, e_some, e_bindS, h0, h1, h6, h7, hkI, hi, rD, hc1, Option.bind_some, Option.map_some]
    refine call_add (Nat.le_trans (hlen2 (k - 1) (by omega)) (by omega)) (Nat.le_trans (hlen2 (k - 1) (by omega)) (by omega)) hc3 hc3 ?_
    intro w row ho hfl hw hwc
    have hdouble : q * 2 ^ (k - 1) + q * 2 ^ (k - 1) = q * 2 ^ k := by
      rw [← Nat.mul_add, ← Nat.two_mul, Nat.mul_comm 2, ← Nat.pow_succ, show (k - 1).succ = k by omega]
    rw [hdouble] at hw
    simp (disch := omega) only [sN, ↓reduceIte, Nat.reduceEqDiff, Nat.reduceAdd, Nat.reduceMul, Nat.reduceSub, reduceCtorEq, e_none, e_some, e_bindS, h0, h1, h6, h7]
    rw [x_bs1 (v := w) (by simp only [e_upd, e_putS, e_putN, e_t, e_c, Nat.reduceEqDiff, ↓reduceIte, reduceCtorEq, Nat.reduceAdd]) hwc]
    simp (disch := omega) only [sN, ↓reduceIte, Nat.reduceEqDiff, Nat.reduceAdd, Nat.reduceMul, Nat.reduceSub, reduceCtorEq, e_none, e_some, e_bindS, h0, h1, h6, h7]
    have hall : cells.all AV.cell = true := by
      rw [List.all_eq_true]
      intro x hx
      obtain ⟨j, hj⟩ := List.getElem?_of_mem hx
      have hjl := (List.getElem?_eq_some_iff.1 hj).1
      obtain ⟨c', _, g1, g2, _⟩ := hdbl.2 j (by rw [← hdbl.1]; exact hjl)
      rw [g1] at hj; cases hj; exact g2
    have lw := hw.lt
    have eD : Vh.rowAt (H ++ [some row] ++ [rw_ [w]]) D = some ⟨true, decide (k ≠ 1), cells⟩ := by rw [row_left (by simp; omega), row_left lD, rD]
    rw [x_appD (D := D) (k := k) (r := (H ++ [some row]).length) (cells := cells) (c := w) (by simp only [e_upd, e_putS, e_putN, e_t, e_c, Nat.reduceEqDiff, ↓reduceIte, reduceCtorEq, Nat.reduceAdd, h6]) (by simp only [e_upd, e_putS, e_putN, e_t, e_c, Nat.reduceEqDiff, ↓reduceIte, reduceCtorEq, Nat.reduceAdd]) eD hdbl.1 hk1 (by omega) (by simp [Vh.rowAt, rw_]) hwc hall]
    obtain ⟨H1, hH1⟩ : ∃ H1, H1 = H ++ [some row] ++ [rw_ [w]] := ⟨_, rfl⟩
    obtain ⟨H2, hH2⟩ : ∃ H2, H2 = (if k = 1 then H1 else H1.set D none) := ⟨_, rfl⟩
    have hx1 : Ext H H1 D := by rw [hH1]; exact Ext.app.trans Ext.app
    have hx2 : Ext H1 H2 D := by rw [hH2]; split; exact Ext.refl; exact Ext.set
    have hl2 : H2.length = H1.length := by rw [hH2]; split <;> simp
    have hl1 : H1.length = H.length + 2 := by rw [hH1]; simp
    rw [← hH1, ← hH2]
    have hx3 : Ext H (H2 ++ [sl (cells ++ [w])]) D := (hx1.trans hx2).trans Ext.app
    have hw' : AtD (H2 ++ [sl (cells ++ [w])]) w (q * 2 ^ k) H.length := by
      refine hw.keep ?_
      rw [row_left (by omega), hx2.2 H.length (by omega) (by omega), hH1, row_left (by simp)]
    simp (disch := omega) only [sN, ↓reduceIte, Nat.reduceEqDiff, Nat.reduceAdd, Nat.reduceMul, Nat.reduceSub, reduceCtorEq, e_none, e_some, e_bindS, h0, h1, h6, h7]
    refine loop_keep (m := 8 - (k + 1)) (by omega) ⟨k + 1, H1.length, cells ++ [w], rfl, by omega, by omega, ?_, ?_, ?_, ?_, by omega, ?_, ?_, ?_, ?_⟩
    · simp only [e_upd, e_putS, e_putN, e_t, e_c, Nat.reduceEqDiff, ↓reduceIte, reduceCtorEq, Nat.reduceAdd, h0]
    · simp only [e_upd, e_putS, e_putN, e_t, e_c, Nat.reduceEqDiff, ↓reduceIte, reduceCtorEq, Nat.reduceAdd, h1]
    · simp only [e_upd, e_putS, e_putN, e_t, e_c, Nat.reduceEqDiff, ↓reduceIte, reduceCtorEq, Nat.reduceAdd]
    · simp only [e_upd, e_putS, e_putN, e_t, e_c, Nat.reduceEqDiff, ↓reduceIte, reduceCtorEq, Nat.reduceAdd]; rfl
    · rw [hx3.2 0 l0 (by omega), r0]
    · rw [hx3.2 1 l1 (by omega), r1]
    · rw [← hl2]; simp [Vh.rowAt, sl]; omega
    · refine ⟨by rw [List.length_append, hdbl.1]; rfl, fun j hj => ?_⟩
      by_cases hjk : j < k
      · obtain ⟨c', rc', g1, g2, g3, g4⟩ := hdbl.2 j hjk
        exact ⟨c', rc', by rw [List.getElem?_append_left (by rw [hdbl.1]; exact hjk), g1], g2, g3.ext hx3 g4, by have := g3.lt; omega⟩
      · obtain rfl : j = k := by omega
        exact ⟨w, H.length, by rw [List.getElem?_append_right (by rw [hdbl.1]; omega), hdbl.1, Nat.sub_self]; rfl, hwc, hw', by omega⟩
  obtain rfl : k = 8 := by omega
  have h7' : s 7 = .int .i64 8 := h7
  have rD' : Vh.rowAt H D = some ⟨true, true, cells⟩ := rD
  simp (disch := omega) only [sN, ↓reduceIte, Nat.reduceEqDiff, Nat.reduceAdd, Nat.reduceMul, Nat.reduceSub, reduceCtorEq, e_none, e_some, e_bindS, h0, h1, h6, h7', k_len hk, k_len hk']
  rw [x_make (n := (la : Int)) (by simp only [e_upd, e_putS, e_putN, e_t, e_c, Nat.reduceEqDiff, ↓reduceIte, reduceCtorEq, Nat.reduceAdd]) (by omega) (by omega) (by omega)]
  obtain ⟨at_, hat⟩ : ∃ at_ : Nat, at_ + lb = la + 1 := ⟨la + 1 - lb, by omega⟩
  have hatI : (la : Int) - (lb : Int) + 1 = (at_ : Int) := by omega
  obtain ⟨u, hu1, hu2, hu3⟩ := slLo (x := at_) hk hla (by omega)
  simp (disch := omega) only [sN, ↓reduceIte, Nat.reduceEqDiff, Nat.reduceAdd, Nat.reduceMul, Nat.reduceSub, reduceCtorEq, e_none, e_some, e_bindS, h0, h1, h6, k_len hk, k_len hk', hatI, hu1, x_b0]
  rw [x_appE (r := (H ++ [rw_ (ints .i64 (List.replicate la 0))]).length) (a := la - at_) (u := u) (xs := a.drop at_) (by simp only [e_upd, e_putS, e_putN, e_t, e_c, Nat.reduceEqDiff, ↓reduceIte, reduceCtorEq, Nat.reduceAdd]) (by simp only [e_upd, e_putS, e_putN, e_t, e_c, Nat.reduceEqDiff, ↓reduceIte, reduceCtorEq, Nat.reduceAdd]) hu2 (hu3 _ (by rw [row_left (by rw [List.length_append]; omega), row_left l0, r0])) (by omega)]
  obtain ⟨H1, hH1⟩ : ∃ H1, H1 = H ++ [rw_ (ints .i64 (List.replicate la 0))] ++ [rw_ []] ++ [sl (ints .i64 (a.drop at_))] := ⟨_, rfl⟩
  have hx1 : Ext H H1 H.length := by rw [hH1]; exact (Ext.app.trans Ext.app).trans Ext.app
  have hl1 : H1.length = H.length + 3 := by rw [hH1]; simp
  have rQ1 : Vh.rowAt H1 H.length = rw_ (ints .i64 (List.replicate la 0)) := by
    rw [hH1, row_left (by simp), row_left (by simp)]; simp [Vh.rowAt]
  have rR1 : Vh.rowAt H1 (H.length + 2) = some ⟨true, true, ints .i64 (a.drop at_)⟩ := by
    rw [hH1]; simp [Vh.rowAt, sl]
  simp (disch := omega) only [sN, ↓reduceIte, Nat.reduceEqDiff, Nat.reduceAdd, Nat.reduceMul, Nat.reduceSub, reduceCtorEq, e_none, e_some, e_bindS, h0, h1, h6, ← hH1]
  have hdl : (a.drop at_).length = la - at_ := by rw [List.length_drop, hla]
  have hlenH : (H ++ [rw_ (ints .i64 (List.replicate la 0))] ++ [rw_ []]).length = H.length + 2 := by simp
  rw [hlenH, ← hdl]
  have hup := Dg.up_num ha at_
  refine call_trimD (κ := .u) (n := Dg.up a at_) trivial (by omega) rR1 (Dg.dl_drop ha at_) hup ?_
  intro w hw hwc
  have hsmall := Dg.up_small ha hb tb nb (by omega) (i := at_) (by omega)
  have hql := Dg.ql_start ha hb tb nb (by omega) (i := at_) (by omega)
  rw [hla] at hql
  simp (disch := omega) only [sN, ↓reduceIte, Nat.reduceEqDiff, Nat.reduceAdd, Nat.reduceMul, Nat.reduceSub, reduceCtorEq, e_none, e_some, e_bindS, h0, h1, h6]
  obtain ⟨Q, hQ⟩ : ∃ Q, H.length = Q := ⟨_, rfl⟩
  rw [hQ] at hx1 rQ1 hw hl1
  have rR1Q := rR1
  rw [hQ] at rR1Q
  have hdblQ : Dbl H1 q D 8 Q cells := ⟨hdbl.1, fun j hj => by
    obtain ⟨c', rc', g1, g2, g3, g4⟩ := hdbl.2 j hj
    have := g3.lt
    exact ⟨c', rc', g1, g2, g3.ext hx1 (by omega), by omega⟩⟩
  refine ⟨fun m s H => ∃ (i rr : Nat), m = i ∧ i ≤ at_ ∧ s 0 = mkS κ 0 0 la ∧ s 6 = dblS D 8 ∧ s 8 = .slice Q 0 la la ∧ s 11 = .int .i64 ((i : Int) - 1) ∧ Vh.rowAt H 0 = some ⟨false, false, ints .i64 a⟩ ∧ Vh.rowAt H 1 = some ⟨false, false, B⟩ ∧ Vh.rowAt H D = some ⟨true, true, cells⟩ ∧ Vh.rowAt H Q = rw_ (ints .i64 (Dg.ql a q i)) ∧ Dbl H q D 8 Q cells ∧ AtF H (s 10) (Dg.up a i % q) rr ∧ rr ≠ Q ∧ 2 ≤ rr, at_, ⟨at_, Q + 2, rfl, Nat.le_refl _, ?_, ?_, ?_, ?_, ?_, ?_, ?_, ?_, hdblQ, ?_, by omega, by omega⟩, ?_⟩
  · simp only [e_upd, e_putS, e_putN, e_t, e_c, Nat.reduceEqDiff, ↓reduceIte, reduceCtorEq, Nat.reduceAdd, h0]
  · simp only [e_upd, e_putS, e_putN, e_t, e_c, Nat.reduceEqDiff, ↓reduceIte, reduceCtorEq, Nat.reduceAdd, h6]
  · simp only [e_upd, e_putS, e_putN, e_t, e_c, Nat.reduceEqDiff, ↓reduceIte, reduceCtorEq, Nat.reduceAdd, nat_toNat, hQ]
  · simp only [e_upd, e_putS, e_putN, e_t, e_c, Nat.reduceEqDiff, ↓reduceIte, reduceCtorEq, Nat.reduceAdd]
  · rw [hx1.2 0 (by omega) (by omega), r0]
  · rw [hx1.2 1 (by omega) (by omega), r1]
  · rw [hx1.2 D (by omega) (by omega), rD']
  · rw [rQ1, hql]
  · rw [Nat.mod_eq_of_lt hsmall]; simp only [e_upd, e_putS, e_putN, e_t, e_c, Nat.reduceEqDiff, ↓reduceIte, reduceCtorEq, Nat.reduceAdd]; exact hw.flat rR1Q rfl ints_flat
  have hQ2 : 2 ≤ Q := by omega
  have hDQ : D ≠ Q := by omega
  have hat2 : at_ ≤ la := by omega
  have hup0 : Dg.up a 0 = p := by simp only [Dg.up, List.drop_zero, na]; simp
  clear hH1 hx1 rQ1 rR1 rR1Q hw hdblQ hdbl h0 h1 h6 h7 h7' r0 r1 rD rD' l0 l1 lD hlenH hl1 hQ hsmall hql hwc hup hu1 hu2 hu3 hdl hatI hk1 hk8 hk7 e0 e1
  clear H1 w u H s
  rintro m s H ⟨i, rr, hmi, hi, h0, h6, h8, h11, r0, r1, rD, rQ, hdbl, hrF, hrQ, hrr2⟩
  have hr := hrF.at
  have l0 := row_lt r0
  have l1 := row_lt r1
  have lD := row_lt rD
  have lQ := row_lt (show Vh.rowAt H Q = some ⟨true, false, ints .i64 (Dg.ql a q i)⟩ from rQ)
  cases i with
  | zero =>
    have h11' : s 11 = .int .i64 (-1) := h11
    have hqlen : (Dg.ql a q 0).length = la := by rw [Dg.ql_length, hla]
    have hqn := Dg.ql_num ha hq
    rw [hup0] at hqn
    simp (disch := omega) only [sN, ↓reduceIte, Nat.reduceEqDiff, Nat.reduceAdd, Nat.reduceMul, Nat.reduceSub, reduceCtorEq, e_none, e_some, e_bindS, h8, h11']
    rw [show (AV.slice Q 0 la la) = mkS (.cap la) Q 0 (Dg.ql a q 0).length by rw [hqlen]; rfl]
    refine call_trimD (κ := .cap la) (n := p / q) (by rw [hqlen]; exact Nat.le_refl _) (by omega) rQ (Dg.ql_dl ha hq 0) hqn ?_
    rintro w ⟨κ3, row, g1, rfl, g3, g4⟩ hwc
    rw [rQ] at g3
    cases g3
    simp (disch := omega) only [sN, ↓reduceIte, Nat.reduceEqDiff, Nat.reduceAdd, Nat.reduceMul, Nat.reduceSub, reduceCtorEq, e_none, e_some, e_bindS]
    rw [hup0] at hrF
    obtain ⟨κ4, row4, f1, f2, f3, f4, f5, f6⟩ := hrF
    have lr := row_lt f3
    have n1 : ¬ (0 = Q) := by omega
    have n2 : ¬ (1 = Q) := by omega
    have n3 : ¬ (0 = rr) := by omega
    have n4 : ¬ (1 = rr) := by omega
    have n5 : ¬ (Q = rr) := by omega
    have hsg : gcSig [0, 1, Q, rr] Q = some (2, 0) := by
      simp [gcSig, List.idxOf?, List.findIdx?_cons, n1, n2]
    have hsr : gcSig [0, 1, Q, rr] rr = some (3, 0) := by
      simp [gcSig, List.idxOf?, List.findIdx?_cons, n3, n4, n5]
    have hg4 : (⟨row4.own, row4.slack, renL (gcSig [0, 1, Q, rr]) row4.cells⟩ : ARow) = row4 := by rw [flatL_ren f6]
    have hgH : gcH [0, 1, Q, rr] H = [ro (ints .i64 a), ro B] ++ [some ⟨true, false, ints .i64 (Dg.ql a q 0)⟩, some row4] := by
      simp only [gcH, List.map_cons, List.map_nil, r0, r1, rQ, f3, rw_, ints_ren, ← hB, ro, flatL_ren f6]
      rfl
    refine ret_gc [0, 1, Q, rr] ?_ ?_ (by simp) ?_
    · simp only [gcOK, Bool.and_eq_true, beq_iff_eq, decide_eq_true_eq, List.all_cons, List.all_nil, Bool.and_true]
      refine ⟨⟨rfl, l0, l1, lQ, lr⟩, ?_⟩
      simp
      omega
    · rw [hgH]
      simp [ro, ints_cell, flat_cells f6, ← hB]
    · unfold rs_rdivide; rw [q_tmp2, q_then, hgH]
      refine ⟨κ3, mkS κ4 3 0 (Dg.dg (p % q)).length, ⟨true, false, ints .i64 (Dg.ql a q 0)⟩, g1, ?_, rfl, g4, ints_flat, .inr ⟨row4, rfl, f5, f6, f4, κ4, f1, rfl⟩⟩
      simp only [gcS, e_upd, e_putS, e_putN, e_t, e_c, Nat.reduceEqDiff, ↓reduceIte, reduceCtorEq, Nat.reduceAdd, f2]
      rw [n_mkS (r' := 2) (d := 0) hsg, n_mkS (r' := 3) (d := 0) hsr]
      rfl
  | succ j =>
    have h11' : s 11 = .int .i64 (j : Int) := by rw [h11]; congr 1; omega
    have hjla : j < la := by omega
    have ia : aindexAddr 1 (mkS κ 0 0 la) (.int .i64 (j : Int)) = some (.ptr 0 j) := by
      rw [k_idx hk (Nat.le_refl _) (by omega) (by omega)]; simp
    obtain ⟨z, hz⟩ : ∃ z, a.getD j 0 = z := ⟨_, rfl⟩
    have ga : (ints .i64 a)[j]? = some (.int .i64 z) := by rw [ints_get (by omega), hz]
    have hzr := ha j
    rw [hz] at hzr
    simp (disch := omega) only [sN, ↓reduceIte, Nat.reduceEqDiff, Nat.reduceAdd, Nat.reduceMul, Nat.reduceSub, reduceCtorEq, e_none, e_some, e_bindS, h0, h6, h8, h11', ia, r0, ga, Option.bind_some, Option.map_some]
    rw [x_bs1 (v := .int .i64 z) (by simp only [e_upd, e_putS, e_putN, e_t, e_c, Nat.reduceEqDiff, ↓reduceIte, reduceCtorEq, Nat.reduceAdd]) rfl]
    simp (disch := omega) only [sN, ↓reduceIte, Nat.reduceEqDiff, Nat.reduceAdd, Nat.reduceMul, Nat.reduceSub, reduceCtorEq, e_none, e_some, e_bindS, h0, h6, h8, h11']
    obtain ⟨x0, hx0⟩ : ∃ x0, x0 = 256 * (Dg.up a (j + 1) % q) + z.toNat := ⟨_, rfl⟩
    have hmod := Nat.mod_lt (Dg.up a (j + 1)) hq
    have hx0lt : x0 < q * 256 := by omega
    have hrl : (Dg.dg (Dg.up a (j + 1) % q)).length ≤ 10001 := hlens _ (by omega)
    have hr1 : AtD (H ++ [rw_ [.int .i64 z]]) (s 10) (Dg.up a (j + 1) % q) rr := hr.keep (row_left hr.lt)
    obtain ⟨κ2, r2, sk, R, happ, hok, hr2, hL2⟩ := x_app1 (x := .t 64) (y := .t 65) (L := H.length) (z := z) (by simp [Vh.rowAt, rw_]) hr1 (by omega)
    rw [happ _ (by simp only [e_upd, e_putS, e_putN, e_t, e_c, Nat.reduceEqDiff, ↓reduceIte, reduceCtorEq, Nat.reduceAdd]) (by simp only [e_upd, e_putS, e_putN, e_t, e_c, Nat.reduceEqDiff, ↓reduceIte, reduceCtorEq, Nat.reduceAdd])]
    obtain ⟨H1, hH1⟩ : ∃ H1, H1 = H ++ [rw_ [.int .i64 z]] ++ R := ⟨_, rfl⟩
    have hx1 : Ext H H1 Q := by rw [hH1]; exact Ext.app.trans Ext.app
    have rQ1 : Vh.rowAt H1 Q = rw_ (ints .i64 (Dg.ql a q (j + 1))) := by
      rw [hH1, row_left (by rw [List.length_append]; omega), row_left lQ, rQ]
    rw [← hH1] at hr2
    simp (disch := omega) only [sN, ↓reduceIte, Nat.reduceEqDiff, Nat.reduceAdd, Nat.reduceMul, Nat.reduceSub, reduceCtorEq, e_none, e_some, e_bindS, h0, h6, h8, h11', ← hH1]
    have hlz : (z :: Dg.dg (Dg.up a (j + 1) % q)).length ≤ 10002 := by rw [List.length_cons]; omega
    refine call_trimD (n := x0) hok (by omega) hr2 (Dg.dl_cons hzr (Dg.dg_dl _)) (by rw [Dg.num_cons, Dg.dg_num]; omega) ?_
    intro w hw hwc
    simp (disch := omega) only [sN, ↓reduceIte, Nat.reduceEqDiff, Nat.reduceAdd, Nat.reduceMul, Nat.reduceSub, reduceCtorEq, e_none, e_some, e_bindS, h0, h6, h8, h11']
    have hud := Dg.up_div ha hq (i := j) (by omega)
    have hte := Dg.trial_end hx0lt
    have hqd : Dg.qd a q j = x0 / q := by rw [hx0, ← hz]; rfl
    have hmm : Dg.up a j % q = x0 % q := by rw [hud.2, hx0, hz]
    refine ⟨fun m s H' => ∃ (t rr : Nat), m = 8 - t ∧ t ≤ 8 ∧ s 0 = mkS κ 0 0 la ∧ s 6 = dblS D 8 ∧ s 8 = .slice Q 0 la la ∧ s 11 = .int .i64 (j : Int) ∧ s 12 = .int .i64 (7 - (t : Int)) ∧ Vh.rowAt H' 0 = some ⟨false, false, ints .i64 a⟩ ∧ Vh.rowAt H' 1 = some ⟨false, false, B⟩ ∧ Vh.rowAt H' D = some ⟨true, true, cells⟩ ∧ Vh.rowAt H' Q = rw_ (ints .i64 ((Dg.ql a q (j + 1)).set j ((Dg.trial q x0 t).1 : Int))) ∧ Dbl H' q D 8 Q cells ∧ AtF H' (s 10) (Dg.trial q x0 t).2 rr ∧ rr ≠ Q ∧ 2 ≤ rr, 8, ⟨0, r2, rfl, by omega, ?_, ?_, ?_, ?_, ?_, ?_, ?_, ?_, ?_, hdbl.ext hx1, ?_, by omega, by omega⟩, ?_⟩
    · simp only [e_upd, e_putS, e_putN, e_t, e_c, Nat.reduceEqDiff, ↓reduceIte, reduceCtorEq, Nat.reduceAdd, h0]
    · simp only [e_upd, e_putS, e_putN, e_t, e_c, Nat.reduceEqDiff, ↓reduceIte, reduceCtorEq, Nat.reduceAdd, h6]
    · simp only [e_upd, e_putS, e_putN, e_t, e_c, Nat.reduceEqDiff, ↓reduceIte, reduceCtorEq, Nat.reduceAdd, h8]
    · simp only [e_upd, e_putS, e_putN, e_t, e_c, Nat.reduceEqDiff, ↓reduceIte, reduceCtorEq, Nat.reduceAdd, h11']
    · simp only [e_upd, e_putS, e_putN, e_t, e_c, Nat.reduceEqDiff, ↓reduceIte, reduceCtorEq, Nat.reduceAdd]; rfl
    · rw [hx1.2 0 l0 (by omega), r0]
    · rw [hx1.2 1 l1 (by omega), r1]
    · rw [hx1.2 D lD hDQ, rD]
    · rw [rQ1, show ((Dg.trial q x0 0).1 : Int) = 0 from rfl, Dg.ql_set0 (by omega)]
    · simp only [e_upd, e_putS, e_putN, e_t, e_c, Nat.reduceEqDiff, ↓reduceIte, reduceCtorEq, Nat.reduceAdd]; exact hw.flat hr2 rfl ints_flat
    clear hw hwc hr2 hok rQ1 hx1 hH1 happ hL2 hr1 rQ r0 r1 rD hdbl hr hrF hrQ hrr2 l0 l1 lD lQ h0 h6 h8 h11 h11'
    clear H1 w R H s
    rintro m s H ⟨t, rr, hmt, ht8, h0, h6, h8, h11, h12, r0, r1, rD, rQ, hdbl, hrF, hrQ, hrr2⟩
    have hr := hrF.at
    have l0 := row_lt r0
    have l1 := row_lt r1
    have lD := row_lt rD
    have lQ := row_lt (show Vh.rowAt H Q = some ⟨true, false, _⟩ from rQ)
    have hqll : (Dg.ql a q (j + 1)).length = la := by rw [Dg.ql_length, hla]
    rcases Nat.lt_or_ge t 8 with h8t | h8t
    · obtain ⟨ts1, ts2, ts3⟩ := Dg.trial_sum hx0lt t ht8
      have hb1 : (Dg.trial q x0 t).1 < 256 := Nat.lt_of_lt_of_le ts3 (Nat.le_trans (Nat.pow_le_pow_right (by omega) ht8) (by decide))
      have hnext : Dg.trial q x0 (t + 1) = if q * 2 ^ (7 - t) ≤ (Dg.trial q x0 t).2 then (2 * (Dg.trial q x0 t).1 + 1, (Dg.trial q x0 t).2 - q * 2 ^ (7 - t)) else (2 * (Dg.trial q x0 t).1, (Dg.trial q x0 t).2) := rfl
      have hxle := Dg.trial_le hx0lt t ht8
      obtain ⟨k, hk7⟩ : ∃ k, k = 7 - t := ⟨_, rfl⟩
      rw [← hk7] at hnext
      have hkI : (7 - (t : Int)) = (k : Int) := by omega
      rw [hkI] at h12
      obtain ⟨X, hX⟩ : ∃ X, (Dg.trial q x0 t).1 = X := ⟨_, rfl⟩
      obtain ⟨Y, hY⟩ : ∃ Y, (Dg.trial q x0 t).2 = Y := ⟨_, rfl⟩
      rw [hX] at hb1 rQ
      rw [hX, hY] at hnext
      rw [hY] at hr hrF hxle
      obtain ⟨c, rc, hc1, hc2, hc3, hc4⟩ := hdbl.2 k (by omega)
      have hix := dblS_idx (D := D) (k := 8) (j := k) (by omega)
      have gQ : (ints .i64 ((Dg.ql a q (j + 1)).set j (X : Int)))[j]? = some (.int .i64 (X : Int)) := by
        rw [ints_get (by rw [List.length_set]; omega)]
        simp [List.getD_eq_getElem?_getD, hqll, hjla]
      have ljla : (j : Int) < (la : Int) := by omega
      simp (disch := omega) only [sN, ↓reduceIte, Nat.reduceEqDiff, Nat.reduceAdd, Nat.reduceMul, Nat.reduceSub, reduceCtorEq, e_none, e_some, e_bindS, h0, h6, h8, h11, h12, rQ, rw_, gQ, Option.bind_some, Option.map_some]
      rw [x_store (r := Q) (off := j) (k := .i64) (b := 2 * (X : Int)) (l := (Dg.ql a q (j + 1)).set j (X : Int)) (by simp only [e_upd, e_putS, e_putN, e_t, e_c, Nat.reduceEqDiff, ↓reduceIte, reduceCtorEq, Nat.reduceAdd]) (by simp only [e_upd, e_putS, e_putN, e_t, e_c, Nat.reduceEqDiff, ↓reduceIte, reduceCtorEq, Nat.reduceAdd]) rQ (by rw [List.length_set]; omega), List.set_set]
      obtain ⟨H1, hH1⟩ : ∃ H1, H1 = H.set Q (rw_ (ints .i64 ((Dg.ql a q (j + 1)).set j (2 * (X : Int))))) := ⟨_, rfl⟩
      have hx1 : Ext H H1 Q := by rw [hH1]; exact Ext.set
      have rQ1 : Vh.rowAt H1 Q = rw_ (ints .i64 ((Dg.ql a q (j + 1)).set j (2 * (X : Int)))) := by rw [hH1, row_set0 lQ]
      have rD1 : Vh.rowAt H1 D = some ⟨true, true, cells⟩ := by rw [hx1.2 D lD hDQ, rD]
      have hl1 : H1.length = H.length := by rw [hH1, List.length_set]
      simp (disch := omega) only [sN, ↓reduceIte, Nat.reduceEqDiff, Nat.reduceAdd, Nat.reduceMul, Nat.reduceSub, reduceCtorEq, e_none, e_some, e_bindS, h0, h6, h8, h11, h12, ← hH1, hix, rD1, hc1, Option.bind_some, Option.map_some]
      have hYl : (Dg.dg Y).length ≤ 10001 := hlens _ (by omega)
      refine call_cmp (Nat.le_trans hYl (by omega)) (Nat.le_trans (hlen2 k (by omega)) (by omega)) (hr.ext hx1 hrQ) (hc3.ext hx1 hc4) ?_
      by_cases hge : q * 2 ^ k ≤ Y
      · have hcmp : (0 : Int) ≤ Dg.cmpI (Y : Int) ((q * 2 ^ k : Nat) : Int) := by
          unfold Dg.cmpI; rw [if_neg (by omega)]; split <;> omega
        rw [if_pos hge] at hnext
        simp (disch := omega) only [sN, ↓reduceIte, Nat.reduceEqDiff, Nat.reduceAdd, Nat.reduceMul, Nat.reduceSub, reduceCtorEq, e_none, e_some, e_bindS, h0, h6, h8, h11, h12, hix, rD1, hc1, Option.bind_some, Option.map_some]
        refine call_sub (Nat.le_trans hYl (by omega)) hge (hr.ext hx1 hrQ) (hc3.ext hx1 hc4) ?_
        intro w row ho hfl hw hwc
        have rQ2 : Vh.rowAt (H1 ++ [some row]) Q = rw_ (ints .i64 ((Dg.ql a q (j + 1)).set j (2 * (X : Int)))) := by rw [row_left (by omega), rQ1]
        have gQ2 : (ints .i64 ((Dg.ql a q (j + 1)).set j (2 * (X : Int))))[j]? = some (.int .i64 (2 * (X : Int))) := by
          rw [ints_get (by rw [List.length_set]; omega)]
          simp [List.getD_eq_getElem?_getD, hqll, hjla]
        simp (disch := omega) only [sN, ↓reduceIte, Nat.reduceEqDiff, Nat.reduceAdd, Nat.reduceMul, Nat.reduceSub, reduceCtorEq, e_none, e_some, e_bindS, h0, h6, h8, h11, h12, rQ2, rw_, gQ2, Option.bind_some, Option.map_some]
        rw [x_store (r := Q) (off := j) (k := .i64) (b := 2 * (X : Int) + 1) (l := (Dg.ql a q (j + 1)).set j (2 * (X : Int))) (by simp only [e_upd, e_putS, e_putN, e_t, e_c, Nat.reduceEqDiff, ↓reduceIte, reduceCtorEq, Nat.reduceAdd]) (by simp only [e_upd, e_putS, e_putN, e_t, e_c, Nat.reduceEqDiff, ↓reduceIte, reduceCtorEq, Nat.reduceAdd]) rQ2 (by rw [List.length_set]; omega), List.set_set]
        have hx3 : Ext H ((H1 ++ [some row]).set Q (rw_ (ints .i64 ((Dg.ql a q (j + 1)).set j (2 * (X : Int) + 1))))) Q := (hx1.trans Ext.app).trans Ext.set
        have hw3 : AtF ((H1 ++ [some row]).set Q (rw_ (ints .i64 ((Dg.ql a q (j + 1)).set j (2 * (X : Int) + 1))))) w (Y - q * 2 ^ k) H1.length := AtF.ext (hw.flat (by simp [Vh.rowAt]) ho hfl) Ext.set (by omega)
        simp (disch := omega) only [sN, ↓reduceIte, Nat.reduceEqDiff, Nat.reduceAdd, Nat.reduceMul, Nat.reduceSub, reduceCtorEq, e_none, e_some, e_bindS, h0, h6, h8, h11, h12]
        refine loop_keep (m := 8 - (t + 1)) (by omega) ⟨t + 1, H1.length, rfl, by omega, ?_, ?_, ?_, ?_, ?_, ?_, ?_, ?_, ?_, hdbl.ext hx3, ?_, by omega, by omega⟩
        · simp only [e_upd, e_putS, e_putN, e_t, e_c, Nat.reduceEqDiff, ↓reduceIte, reduceCtorEq, Nat.reduceAdd, h0]
        · simp only [e_upd, e_putS, e_putN, e_t, e_c, Nat.reduceEqDiff, ↓reduceIte, reduceCtorEq, Nat.reduceAdd, h6]
        · simp only [e_upd, e_putS, e_putN, e_t, e_c, Nat.reduceEqDiff, ↓reduceIte, reduceCtorEq, Nat.reduceAdd, h8]
        · simp only [e_upd, e_putS, e_putN, e_t, e_c, Nat.reduceEqDiff, ↓reduceIte, reduceCtorEq, Nat.reduceAdd, h11]
        · simp only [e_upd, e_putS, e_putN, e_t, e_c, Nat.reduceEqDiff, ↓reduceIte, reduceCtorEq, Nat.reduceAdd]; congr 1; omega
        · rw [hx3.2 0 l0 (by omega), r0]
        · rw [hx3.2 1 l1 (by omega), r1]
        · rw [hx3.2 D lD hDQ, rD]
        · have e : (((Dg.trial q x0 (t + 1)).1 : Nat) : Int) = 2 * (X : Int) + 1 := by rw [hnext]; show ((2 * X + 1 : Nat) : Int) = _; omega
          rw [row_set0 (by rw [List.length_append]; omega), e]; rfl
        · rw [hnext]; simp only [e_upd, e_putS, e_putN, e_t, e_c, Nat.reduceEqDiff, ↓reduceIte, reduceCtorEq, Nat.reduceAdd]; exact hw3
      · have hcmp : Dg.cmpI (Y : Int) ((q * 2 ^ k : Nat) : Int) < 0 := by
          unfold Dg.cmpI; rw [if_pos (by omega)]; omega
        rw [if_neg hge] at hnext
        simp (disch := omega) only [sN, ↓reduceIte, Nat.reduceEqDiff, Nat.reduceAdd, Nat.reduceMul, Nat.reduceSub, reduceCtorEq, e_none, e_some, e_bindS, h0, h6, h8, h11, h12]
        refine loop_keep (m := 8 - (t + 1)) (by omega) ⟨t + 1, rr, rfl, by omega, ?_, ?_, ?_, ?_, ?_, ?_, ?_, ?_, ?_, hdbl.ext hx1, ?_, hrQ, hrr2⟩
        · simp only [e_upd, e_putS, e_putN, e_t, e_c, Nat.reduceEqDiff, ↓reduceIte, reduceCtorEq, Nat.reduceAdd, h0]
        · simp only [e_upd, e_putS, e_putN, e_t, e_c, Nat.reduceEqDiff, ↓reduceIte, reduceCtorEq, Nat.reduceAdd, h6]
        · simp only [e_upd, e_putS, e_putN, e_t, e_c, Nat.reduceEqDiff, ↓reduceIte, reduceCtorEq, Nat.reduceAdd, h8]
        · simp only [e_upd, e_putS, e_putN, e_t, e_c, Nat.reduceEqDiff, ↓reduceIte, reduceCtorEq, Nat.reduceAdd, h11]
        · simp only [e_upd, e_putS, e_putN, e_t, e_c, Nat.reduceEqDiff, ↓reduceIte, reduceCtorEq, Nat.reduceAdd]; congr 1; omega
        · rw [hx1.2 0 l0 (by omega), r0]
        · rw [hx1.2 1 l1 (by omega), r1]
        · rw [rD1]
        · have e : (((Dg.trial q x0 (t + 1)).1 : Nat) : Int) = 2 * (X : Int) := by rw [hnext]; show ((2 * X : Nat) : Int) = _; omega
          rw [rQ1, e]; rfl
        · rw [hnext]; simp only [e_upd, e_putS, e_putN, e_t, e_c, Nat.reduceEqDiff, ↓reduceIte, reduceCtorEq, Nat.reduceAdd]; exact hrF.ext hx1 hrQ
    · obtain rfl : t = 8 := by omega
      have h12' : s 12 = .int .i64 (-1) := h12
      simp (disch := omega) only [sN, ↓reduceIte, Nat.reduceEqDiff, Nat.reduceAdd, Nat.reduceMul, Nat.reduceSub, reduceCtorEq, e_none, e_some, e_bindS, h0, h6, h8, h11, h12']
      refine loop_keep (m := j) (by omega) ⟨j, rr, rfl, by omega, ?_, ?_, ?_, ?_, r0, r1, rD, ?_, hdbl, ?_, hrQ, hrr2⟩
      · simp only [e_upd, e_putS, e_putN, e_t, e_c, Nat.reduceEqDiff, ↓reduceIte, reduceCtorEq, Nat.reduceAdd, h0]
      · simp only [e_upd, e_putS, e_putN, e_t, e_c, Nat.reduceEqDiff, ↓reduceIte, reduceCtorEq, Nat.reduceAdd, h6]
      · simp only [e_upd, e_putS, e_putN, e_t, e_c, Nat.reduceEqDiff, ↓reduceIte, reduceCtorEq, Nat.reduceAdd, h8]
      · simp only [e_upd, e_putS, e_putN, e_t, e_c, Nat.reduceEqDiff, ↓reduceIte, reduceCtorEq, Nat.reduceAdd]
      · rw [rQ, hte.1, ← hqd, Dg.ql_set (by omega)]
      · rw [hmm, ← hte.2.1]; simp only [e_upd, e_putS, e_putN, e_t, e_c, Nat.reduceEqDiff, ↓reduceIte, reduceCtorEq, Nat.reduceAdd]; exact hrF
end Go.Proofs.YtjmceapnhmeflaaDoor


/- Contracts: the reference's greatest common divisor. -/
-- NEWSET
namespace Go.Proofs.YtjmceapnhmeflaaDoor
open Go Go.Vh

section
variable {K : St → AHeap → Prop} {d : Option Nat} {s : St} {H : AHeap}
/-- A quotient and a remainder. -/
theorem call_div2 {x y : Nat} {u v : AV} {a b : Nat} (hy0 : 0 < y) (hx : (Dg.dg x).length ≤ 10000) (hy : (Dg.dg y).length ≤ 10000) (hu : AtD H u x a) (hv : AtD H v y b)
    (hK : ∀ w w2 R r2, AtF (H ++ R) w (x / y) H.length → AtD (H ++ R) w2 (x % y) r2 → (r2 = a ∨ AtF (H ++ R) w2 (x % y) r2 ∧ H.length ≤ r2) → K (putI d s (.tuple [w, w2])) (H ++ R)) : thenC Tryd.prog K d s H [u, v] (.func 121 []) := by
  obtain ⟨κ, ra, h1, rfl, h3, h4⟩ := hu
  obtain ⟨κ', rb, k1, rfl, k3, k4⟩ := hv
  refine call_cc (da := 0) (db := 0) (rest := []) (rdivide2_calls κ κ' x y hy0 h1 k1 hx hy) ints_flat ints_flat rfl h3 k3 (by rw [ints_length, Nat.zero_add]; exact AtD.len (H := H) (v := .any) (r := 0) h4) (by rw [ints_length, Nat.zero_add]; exact AtD.len (H := H) (v := .any) (r := 0) k4) (by rw [List.drop_zero, ints_length, h4]) (by rw [List.drop_zero, ints_length, k4]) rfl ?_
  rintro v0 H0' ⟨κ2, v2, row, q1, rfl, q3, q4, q5, hcase⟩
  have hla := row_lt h3
  rcases hcase with ⟨rfl, κ3, g1, rfl, g3⟩ | ⟨row2, rfl, f1, f2, f3, κ3, g1, rfl⟩
  · rw [n_tuple, n_lcons, n_lcons, n_lnil, n_mkS0 (r' := H.length) (by simp [sig]), n_mkS0 (r' := a) (by simp [sig]), show ([ro (ints .i64 (Dg.dg x)), ro (ints .i64 (Dg.dg y))] ++ [some row]).drop 2 = [some row] from rfl, List.map_cons, List.map_nil, flat_row q5 q3]
    have hxx : Dg.dg (x % y) = Dg.dg x := by
      have : ints .i64 (Dg.dg x) = ints .i64 (Dg.dg (x % y)) := by simpa [Vh.rowAt, ro] using g3
      have h2 := congrArg (fun l => l.map fun | .int _ n => n | _ => 0) this
      simpa [ints, Function.comp_def] using h2.symm
    refine hK _ _ _ a ⟨κ2, row, q1, rfl, by simp [Vh.rowAt], q4, q3, q5⟩ ⟨κ3, ra, g1, rfl, by rw [row_left hla, h3], by rw [hxx, h4]⟩ (.inl rfl)
  · rw [n_tuple, n_lcons, n_lcons, n_lnil, n_mkS0 (r' := H.length) (by simp [sig]), n_mkS0 (r' := H.length + 1) (by simp [sig]), show ([ro (ints .i64 (Dg.dg x)), ro (ints .i64 (Dg.dg y))] ++ [some row, some row2]).drop 2 = [some row, some row2] from rfl, List.map_cons, List.map_cons, List.map_nil, flat_row q5 q3, flat_row f2 f1]
    have e2 : Vh.rowAt (H ++ [some row, some row2]) (H.length + 1) = some row2 := by simp [Vh.rowAt, List.getElem?_append_right]
    refine hK _ _ _ (H.length + 1) ⟨κ2, row, q1, rfl, by simp [Vh.rowAt], q4, q3, q5⟩ ⟨κ3, row2, g1, rfl, e2, f3⟩ (.inr ⟨⟨κ3, row2, g1, rfl, e2, f3, f1, f2⟩, by omega⟩)
end

/-- A number that is one of the first two rows, or new. -/
def GRes (base : AHeap) (x : Nat) (v : AV) (H : AHeap) : Prop := ∃ R r, H = base ++ R ∧ AtD H v x r ∧ ((R = [] ∧ r < base.length) ∨ ∃ row, R = [some row] ∧ r = base.length ∧ row.own = true ∧ row.cells.all AV.flat = true)

set_option maxHeartbeats 1000000 in
theorem rgcd_calls (κ κ' : SK) (x y : Nat) (hk : okS κ (Dg.dg x).length) (hk' : okS κ' (Dg.dg y).length) (hm : (Dg.dg x).length ≤ 10000) (hm' : (Dg.dg y).length ≤ 10000) :
    ACalls Tryd.prog 120 [mkS κ 0 0 (Dg.dg x).length, mkS κ' 1 0 (Dg.dg y).length] [ro (ints .i64 (Dg.dg x)), ro (ints .i64 (Dg.dg y))] (List.range 2) (GRes [ro (ints .i64 (Dg.dg x)), ro (ints .i64 (Dg.dg y))] (Nat.gcd x y)) := by
  refine ACalls.body Tryd.func120 ent_rgcd ir_rgcd_ok rs_rgcd_ok Tryd.ntmps120 (by simp) rfl ?_
  unfold ir_rgcd
  have e0 : s0 [mkS κ 0 0 (Dg.dg x).length, mkS κ' 1 0 (Dg.dg y).length] 0 = mkS κ 0 0 (Dg.dg x).length := rfl
  have e1 : s0 [mkS κ 0 0 (Dg.dg x).length, mkS κ' 1 0 (Dg.dg y).length] 1 = mkS κ' 1 0 (Dg.dg y).length := rfl
  have ax : AtD [ro (ints .i64 (Dg.dg x)), ro (ints .i64 (Dg.dg y))] (mkS κ 0 0 (Dg.dg x).length) x 0 := ⟨κ, _, hk, rfl, rfl, by rw [← ints_length (k := .i64) (l := Dg.dg x), List.take_length]⟩
  have ay : AtD [ro (ints .i64 (Dg.dg x)), ro (ints .i64 (Dg.dg y))] (mkS κ' 1 0 (Dg.dg y).length) y 1 := ⟨κ', _, hk', rfl, rfl, by rw [← ints_length (k := .i64) (l := Dg.dg y), List.take_length]⟩
  obtain ⟨A, hA⟩ : ∃ A, ints .i64 (Dg.dg x) = A := ⟨_, rfl⟩
  obtain ⟨B, hB⟩ : ∃ B, ints .i64 (Dg.dg y) = B := ⟨_, rfl⟩
  rw [hA, hB] at ax ay ⊢
  simp (disch := omega) only [sN, ↓reduceIte, Nat.reduceEqDiff, Nat.reduceAdd, Nat.reduceMul, Nat.reduceSub, reduceCtorEq, e_none, e_some, e_bindS]
  refine ⟨fun m s H => ∃ (p q ra rb : Nat), m = q ∧ Nat.gcd p q = Nat.gcd x y ∧ (Dg.dg p).length ≤ 10000 ∧ (Dg.dg q).length ≤ 10000 ∧ AtD H (s 0) p ra ∧ AtD H (s 1) q rb ∧ (ra < 2 ∨ AtF H (s 0) p ra) ∧ (rb < 2 ∨ AtF H (s 1) q rb) ∧ Vh.rowAt H 0 = some ⟨false, false, A⟩ ∧ Vh.rowAt H 1 = some ⟨false, false, B⟩, y, ⟨x, y, 0, 1, rfl, rfl, hm, hm', ?_, ?_, .inl (by omega), .inl (by omega), rfl, rfl⟩, ?_⟩
  · simp only [e_upd, e_putS, e_putN, e_t, e_c, Nat.reduceEqDiff, ↓reduceIte, reduceCtorEq, Nat.reduceAdd, e0]; exact ax
  · simp only [e_upd, e_putS, e_putN, e_t, e_c, Nat.reduceEqDiff, ↓reduceIte, reduceCtorEq, Nat.reduceAdd, e1]; exact ay
  rintro m s H ⟨p, q, ra, rb, rfl, hg, hp, hq, hs0, hs1, hf0, hf1, r0, r1⟩
  have l0 := row_lt r0
  have l1 := row_lt r1
  have hlen := hs1.src.1
  rcases Nat.eq_zero_or_pos m with h0 | h0
  · subst h0
    rw [Nat.gcd_zero_right] at hg
    rw [Dg.dg_zero] at hlen
    have hlen' : alen (s 1) = some 0 := hlen
    simp (disch := omega) only [sN, ↓reduceIte, Nat.reduceEqDiff, Nat.reduceAdd, Nat.reduceMul, Nat.reduceSub, reduceCtorEq, e_none, e_some, e_bindS, hlen']
    by_cases hra : ra < 2
    · refine ret_gc [0, 1] ?_ ?_ (by simp) ?_
      · simp only [gcOK, Bool.and_eq_true, beq_iff_eq, decide_eq_true_eq, List.all_cons, List.all_nil, Bool.and_true]
        exact ⟨⟨rfl, l0, l1⟩, by simp⟩
      · simp [gcH, r0, r1, ints_ren, ints_cell, ← hA, ← hB]
      · have hgH : gcH [0, 1] H = [ro A, ro B] := by simp [gcH, r0, r1, ro, ints_ren, ← hA, ← hB]
        unfold rs_rgcd; rw [q_tmp, q_then, hgH, ← hg]
        obtain ⟨κ3, row, g1, g2, g3, g4⟩ := hs0
        refine ⟨[], ra, by simp, ⟨κ3, row, g1, ?_, ?_, g4⟩, .inl ⟨rfl, hra⟩⟩
        · simp only [gcS, e_upd, e_putS, e_putN, e_t, e_c, Nat.reduceEqDiff, ↓reduceIte, reduceCtorEq, Nat.reduceAdd, g2]
          rw [n_mkS0 (r' := ra)]
          rcases (show ra = 0 ∨ ra = 1 by omega) with rfl | rfl <;> simp [gcSig, List.idxOf?, List.findIdx?_cons]
        · rcases (show ra = 0 ∨ ra = 1 by omega) with rfl | rfl
          · rw [r0] at g3; cases g3; rfl
          · rw [r1] at g3; cases g3; rfl
    · have hF := hf0.resolve_left hra
      obtain ⟨κ3, row, g1, g2, g3, g4, g5, g6⟩ := hF
      have lr := row_lt g3
      have n1 : ¬ (0 = ra) := by omega
      have n2 : ¬ (1 = ra) := by omega
      have hgH : gcH [0, 1, ra] H = [ro A, ro B] ++ [some row] := by
        simp only [gcH, List.map_cons, List.map_nil, r0, r1, g3, ints_ren, ← hA, ← hB, ro, flatL_ren g6]
        rfl
      refine ret_gc [0, 1, ra] ?_ ?_ (by simp) ?_
      · simp only [gcOK, Bool.and_eq_true, beq_iff_eq, decide_eq_true_eq, List.all_cons, List.all_nil, Bool.and_true]
        refine ⟨⟨rfl, l0, l1, lr⟩, ?_⟩
        simp
        omega
      · rw [hgH]
        simp [ro, ints_cell, flat_cells g6, ← hA, ← hB]
      · unfold rs_rgcd; rw [q_tmp, q_then, hgH, ← hg]
        refine ⟨[some row], 2, rfl, ⟨κ3, row, g1, ?_, rfl, g4⟩, .inr ⟨row, rfl, rfl, g5, g6⟩⟩
        simp only [gcS, e_upd, e_putS, e_putN, e_t, e_c, Nat.reduceEqDiff, ↓reduceIte, reduceCtorEq, Nat.reduceAdd, g2]
        rw [n_mkS0 (r' := 2) (by simp [gcSig, List.idxOf?, List.findIdx?_cons, n1, n2])]
  · have hpos : 0 < (Dg.dg m).length := by rw [Dg.dg_pos h0]; simp
    obtain ⟨lm, hlm⟩ : ∃ lm, (Dg.dg m).length = lm := ⟨_, rfl⟩
    rw [hlm] at hlen hpos
    simp (disch := omega) only [sN, ↓reduceIte, Nat.reduceEqDiff, Nat.reduceAdd, Nat.reduceMul, Nat.reduceSub, reduceCtorEq, e_none, e_some, e_bindS, hlen]
    refine call_div2 h0 hp hq hs0 hs1 ?_
    intro w w2 R r2 hw hw2 hcase
    simp (disch := omega) only [sN, ↓reduceIte, Nat.reduceEqDiff, Nat.reduceAdd, Nat.reduceMul, Nat.reduceSub, reduceCtorEq, e_none, e_some, e_bindS, List.getElem?_cons_zero, List.getElem?_cons_succ]
    have hmod := Nat.mod_lt p h0
    have hlm2 : (Dg.dg (p % m)).length ≤ 10000 := by
      refine Nat.le_trans (Dg.dg_len_le (k := (Dg.dg m).length) ?_) hq
      exact Nat.lt_trans hmod (Dg.dg_lt m)
    refine loop_keep (m := p % m) hmod ⟨m, p % m, rb, r2, rfl, ?_, hq, hlm2, ?_, ?_, ?_, ?_, ?_, ?_⟩
    · rw [← hg, Nat.gcd_comm m, ← Nat.gcd_rec, Nat.gcd_comm]
    · simp only [e_upd, e_putS, e_putN, e_t, e_c, Nat.reduceEqDiff, ↓reduceIte, reduceCtorEq, Nat.reduceAdd]; exact hs1.keep (row_left hs1.lt)
    · simp only [e_upd, e_putS, e_putN, e_t, e_c, Nat.reduceEqDiff, ↓reduceIte, reduceCtorEq, Nat.reduceAdd]; exact hw2
    · rcases hf1 with h | h
      · exact .inl h
      · simp only [e_upd, e_putS, e_putN, e_t, e_c, Nat.reduceEqDiff, ↓reduceIte, reduceCtorEq, Nat.reduceAdd]; exact .inr (h.ext (Q := H.length) Ext.app (by have := h.at.lt; omega))
    · rcases hcase with h | ⟨h, _⟩
      · subst h
        rcases hf0 with h | h
        · exact .inl h
        · obtain ⟨κ5, row5, j1, j2, j3, j4, j5, j6⟩ := h
          have e5 : Vh.rowAt (H ++ R) r2 = some row5 := by rw [row_left (row_lt j3), j3]
          simp only [e_upd, e_putS, e_putN, e_t, e_c, Nat.reduceEqDiff, ↓reduceIte, reduceCtorEq, Nat.reduceAdd]; exact .inr (hw2.flat e5 j5 j6)
      · simp only [e_upd, e_putS, e_putN, e_t, e_c, Nat.reduceEqDiff, ↓reduceIte, reduceCtorEq, Nat.reduceAdd]; exact .inr h
    · rw [row_left l0, r0]
    · rw [row_left l1, r1]
end Go.Proofs.YtjmceapnhmeflaaDoor


/- Contracts: the reference's row of binomial numbers, on top of any heap. -/
-- NEWSET
namespace Go.Proofs.YtjmceapnhmeflaaDoor
open Go Go.Vh

theorem AtD.base {H H' : AHeap} {v : AV} {n r : Nat} (h : AtD H v n r) (hb : Base H H') : AtD H' v n r := h.keep (hb.2 r h.lt)
theorem RowN.base {H H' : AHeap} {n k D : Nat} {cells : List AV} (h : RowN H n k D cells) (hb : Base H H') : RowN H' n k D cells := ⟨h.1, fun j hj => by
  obtain ⟨c, r, h1, h2, h3, h4⟩ := h.2 j hj
  exact ⟨c, r, h1, h2, h3.base hb, h4⟩⟩

end Go.Proofs.YtjmceapnhmeflaaDoor


/- Contracts: the reference's ways, on top of any heap. -/
-- NEWSET
namespace Go.Proofs.YtjmceapnhmeflaaDoor
open Go Go.Vh

theorem AtD.zero {H : AHeap} {r : Nat} {row : ARow} (h : Vh.rowAt H r = some row) : AtD H .nilslice 0 r := ⟨.nil, row, by rw [Dg.dg_zero]; rfl, rfl, h, by rw [Dg.dg_zero]; rfl⟩

/-- ... in a row of one's own. -/
def AtO (H : AHeap) (v : AV) (n r : Nat) : Prop := AtD H v n r ∧ ∃ row, Vh.rowAt H r = some row ∧ row.own = true
theorem AtO.base {H H' : AHeap} {v : AV} {n r : Nat} (h : AtO H v n r) (hb : Base H H') : AtO H' v n r := by
  obtain ⟨h1, row, h2, h3⟩ := h
  exact ⟨h1.base hb, row, hb.row h2, h3⟩

end Go.Proofs.YtjmceapnhmeflaaDoor


/- Contracts: the reference's gcd and reduced, on top of any heap. -/
-- NEWSET
namespace Go.Proofs.YtjmceapnhmeflaaDoor
open Go Go.Vh

section
variable {K : St → AHeap → Prop} {d : Option Nat} {s : St} {H : AHeap}
theorem call_gcd {x y : Nat} {u v : AV} {a b : Nat} (hx : (Dg.dg x).length ≤ 10000) (hy : (Dg.dg y).length ≤ 10000) (hu : AtD H u x a) (hv : AtD H v y b)
    (hK : ∀ R w r, AtD (H ++ R) w (Nat.gcd x y) r → K (putI d s w) (H ++ R)) : thenC Tryd.prog K d s H [u, v] (.func 120 []) := by
  obtain ⟨κ, ra, h1, rfl, h3, h4⟩ := hu
  obtain ⟨κ', rb, k1, rfl, k3, k4⟩ := hv
  refine call_cc (da := 0) (db := 0) (rest := []) (rgcd_calls κ κ' x y h1 k1 hx hy) ints_flat ints_flat rfl h3 k3 (by rw [ints_length, Nat.zero_add]; exact AtD.len (H := H) (v := .any) (r := 0) h4) (by rw [ints_length, Nat.zero_add]; exact AtD.len (H := H) (v := .any) (r := 0) k4) (by rw [List.drop_zero, ints_length, h4]) (by rw [List.drop_zero, ints_length, k4]) rfl ?_
  rintro v0 H0' ⟨R, r, rfl, hat, hcase⟩
  rw [show ([ro (ints .i64 (Dg.dg x)), ro (ints .i64 (Dg.dg y))] ++ R).drop 2 = R from rfl]
  obtain ⟨κ2, row, g1, rfl, g3, g4⟩ := hat
  rcases hcase with ⟨rfl, hr⟩ | ⟨row', rfl, rfl, ho, hf⟩
  · rw [List.map_nil]
    simp only [List.length_cons, List.length_nil] at hr
    rcases (show r = 0 ∨ r = 1 by omega) with rfl | rfl
    · rw [n_mkS0 (r' := a) (by simp [sig])]
      have hrow : row = ⟨false, false, ints .i64 (Dg.dg x)⟩ := by simpa [Vh.rowAt, ro] using g3.symm
      subst hrow
      refine hK [] _ a ⟨κ2, ra, g1, rfl, by rw [List.append_nil]; exact h3, ?_⟩
      have hl := congrArg List.length g4
      simp only [List.length_take, ints_length] at hl
      have h5 : (ra.cells.take (Dg.dg x).length).take (Dg.dg (Nat.gcd x y)).length = ints .i64 (Dg.dg (Nat.gcd x y)) := by rw [h4]; exact g4
      rwa [List.take_take, Nat.min_eq_left (by omega)] at h5
    · rw [n_mkS0 (r' := b) (by simp [sig])]
      have hrow : row = ⟨false, false, ints .i64 (Dg.dg y)⟩ := by simpa [Vh.rowAt, ro] using g3.symm
      subst hrow
      refine hK [] _ b ⟨κ2, rb, g1, rfl, by rw [List.append_nil]; exact k3, ?_⟩
      have hl := congrArg List.length g4
      simp only [List.length_take, ints_length] at hl
      have h5 : (rb.cells.take (Dg.dg y).length).take (Dg.dg (Nat.gcd x y)).length = ints .i64 (Dg.dg (Nat.gcd x y)) := by rw [k4]; exact g4
      rwa [List.take_take, Nat.min_eq_left (by omega)] at h5
  · have hrow : row = row' := by simpa [Vh.rowAt] using g3.symm
    subst hrow
    rw [n_mkS0 (r' := H.length) (by simp [sig]), List.map_cons, List.map_nil, flat_row hf ho]
    exact hK [some row] _ H.length ⟨κ2, row, g1, rfl, by simp [Vh.rowAt], g4⟩
theorem rfits_calls (κ : SK) (n : Nat) (hk : okS κ n) (hn : n < 9223372036854775807) : ACalls Tryd.prog 74 [mkS κ 0 0 n] [ro []] (List.range 1) fun v H => v = .bool (decide (n ≤ 256)) ∧ H = [ro []] := by
  refine ACalls.body Tryd.func74 ent_rfits ir_rfits_ok rs_rfits_ok Tryd.ntmps74 (by simp) rfl ?_
  unfold ir_rfits
  have e0 : s0 [mkS κ 0 0 n] 0 = mkS κ 0 0 n := rfl
  simp (disch := omega) only [sN, ↓reduceIte, Nat.reduceEqDiff, Nat.reduceAdd, Nat.reduceMul, Nat.reduceSub, reduceCtorEq, e_none, e_some, e_bindS, e0, k_len hk]
  refine ret_keep (by simp) ⟨?_, rfl⟩
  simp only [e_upd, e_putS, e_putN, e_t, e_c, Nat.reduceEqDiff, ↓reduceIte, reduceCtorEq, Nat.reduceAdd]
  congr 1
  exact decide_eq_decide.2 (by omega)
theorem dg_fits {n k : Nat} : (Dg.dg n).length ≤ 4 * k ↔ (n : Int) < BB ^ k := by
  have e : BB ^ k = ((256 ^ (4 * k) : Nat) : Int) := by rw [bb_db, Int.natCast_pow]; rfl
  rw [e]
  constructor
  · intro h
    have := Nat.lt_of_lt_of_le (Dg.dg_lt n) (Nat.pow_le_pow_right (n := 256) (by omega) h)
    omega
  · intro h
    exact Dg.dg_len_le (by omega)
theorem call_fits {x a : Nat} {u : AV} (hx : (Dg.dg x).length ≤ 1000000) (hu : AtD H u x a) {b : Bool} (hb : decide ((x : Int) < BB ^ 64) = b) (hK : K (putI d s (.bool b)) H) : thenC Tryd.prog K d s H [u] (.func 74 []) := by
  obtain ⟨κ, ra, h1, rfl, h3, h4⟩ := hu
  refine call_do (rfits_calls κ (Dg.dg x).length h1 (by omega)) [(a, 0)] rfl (by simp [underL, mkS_under]) (allRo_once rfl _) ?_ ⟨seen_ro h3 (by simp) rfl rfl, trivial⟩ ?_
  · rw [n_lcons, n_lnil, n_mkS0 (r' := a) rfl, List.append_nil]
  rintro v0 H0' ⟨rfl, rfl⟩
  rw [m_merge, m_ro, m_nil, n_bool, show List.drop [ro []].length [ro []] = [] from rfl, List.map_nil, List.append_nil]
  rw [show decide ((Dg.dg x).length ≤ 256) = b from by rw [← hb]; exact decide_eq_decide.2 (dg_fits (k := 64))]
  exact hK
end
end Go.Proofs.YtjmceapnhmeflaaDoor


/- Contracts: the reference's reduced, as a whole. -/
-- NEWSET
namespace Go.Proofs.YtjmceapnhmeflaaDoor
open Go Go.Vh

section
variable {K : St → AHeap → Prop} {d : Option Nat} {s : St} {H : AHeap}
theorem call_natV {x a : Nat} {u : AV} (hx : (Dg.dg x).length ≤ 1000000) (hu : AtD H u x a) (hK : ∀ R w, NumV (H ++ R) w (x : Int) H.length → K (putI d s w) (H ++ R)) : thenC Tryd.prog K d s H [u] (.func 62 []) := by
  refine call_nat hx hu (fun h => ?_) fun h κ l row hn => ?_
  · subst h
    have := hK [] .nilslice .nil
    rwa [List.append_nil] at this
  · exact hK [some row] _ (.new (by simp [Vh.rowAt]) (Nat.le_refl _) hn)
end
theorem redX_nat (x y : Nat) : redX (x : Int) (y : Int) = ((x / Nat.gcd x y : Nat) : Int) := by
  unfold redX
  rw [Int.toNat_natCast, Int.toNat_natCast, Int.natCast_ediv]

set_option maxHeartbeats 1000000 in
theorem rreducedB_calls (H0 : AHeap) (x y : Nat) (hy : 0 < y) {u v : AV} {a b : Nat} (hlx : (Dg.dg x).length ≤ 10000) (hly : (Dg.dg y).length ≤ 10000) (hu : AtD H0 u x a) (hv : AtD H0 v y b) :
    ACalls Tryd.prog 80 [u, v] H0 (List.range H0.length) fun w H => Base H0 H ∧ ∃ w1 w2, w = .tuple [.agg [w1, w2], .int .i64 (redE (x : Int) (y : Int))] ∧ NumV H w1 (if redE (x : Int) (y : Int) = 0 then redX (x : Int) (y : Int) else 0) H0.length ∧ NumV H w2 (if redE (x : Int) (y : Int) = 0 then redX (y : Int) (x : Int) else 0) H0.length := by
  refine ACalls.body Tryd.func80 ent_rreduced ir_rreduced_ok rs_rreduced_ok Tryd.ntmps80 (by simp) rfl ?_
  unfold ir_rreduced
  have e0 : s0 [u, v] 0 = u := rfl
  have e1 : s0 [u, v] 1 = v := rfl
  have hz : [AV.nilslice, AV.nilslice].all AV.cell = true := rfl
  have gp : 0 < Nat.gcd x y := Nat.gcd_pos_of_pos_right _ hy
  have gle : Nat.gcd x y ≤ y := Nat.le_of_dvd hy (Nat.gcd_dvd_right _ _)
  have glen : (Dg.dg (Nat.gcd x y)).length ≤ 10000 := Nat.le_trans (Dg.dg_len_le (Nat.lt_of_le_of_lt gle (Dg.dg_lt y))) hly
  have qlx : (Dg.dg (x / Nat.gcd x y)).length ≤ 10000 := Nat.le_trans (Dg.dg_len_le (Nat.lt_of_le_of_lt (Nat.div_le_self _ _) (Dg.dg_lt x))) hlx
  have qly : (Dg.dg (y / Nat.gcd x y)).length ≤ 10000 := Nat.le_trans (Dg.dg_len_le (Nat.lt_of_le_of_lt (Nat.div_le_self _ _) (Dg.dg_lt y))) hly
  have rx := redX_nat x y
  have ry := redX_nat y x
  rw [Nat.gcd_comm y x] at ry
  simp (disch := omega) only [sN, ↓reduceIte, Nat.reduceEqDiff, Nat.reduceAdd, Nat.reduceMul, Nat.reduceSub, reduceCtorEq, e_none, e_some, e_bindS, e0, e1]
  rw [x_allocA hz]
  simp (disch := omega) only [sN, ↓reduceIte, Nat.reduceEqDiff, Nat.reduceAdd, Nat.reduceMul, Nat.reduceSub, reduceCtorEq, e_none, e_some, e_bindS, e0, e1, List.map_cons, List.map_nil]
  refine call_gcd hlx hly (hu.base Base.one) (hv.base Base.one) ?_
  intro R1 g rg ag
  simp (disch := omega) only [sN, ↓reduceIte, Nat.reduceEqDiff, Nat.reduceAdd, Nat.reduceMul, Nat.reduceSub, reduceCtorEq, e_none, e_some, e_bindS, e0, e1, List.map_cons, List.map_nil]
  refine call_div gp hlx glen (hu.base Base.one.app) ag ?_
  intro w1 z1 row1 o1 f1 a1 c1
  simp (disch := omega) only [sN, ↓reduceIte, Nat.reduceEqDiff, Nat.reduceAdd, Nat.reduceMul, Nat.reduceSub, reduceCtorEq, e_none, e_some, e_bindS, e0, e1, List.map_cons, List.map_nil, List.getElem?_cons_zero, List.getElem?_cons_succ]
  obtain ⟨z1', hz1'⟩ : ∃ z, z = z1 := ⟨_, rfl⟩
  refine call_div gp hly glen (hv.base Base.one.app.app) (ag.base Base.one) ?_
  intro w2 z2 row2 o2 f2 a2 c2
  have a1' := a1.base (Base.one (R := [some row2]))
  obtain ⟨H1, hH1⟩ : ∃ q, q = H0 ++ [rw_ [AV.nilslice, AV.nilslice]] ++ R1 ++ [some row1] ++ [some row2] := ⟨_, rfl⟩
  have hB1 : Base H0 H1 := by rw [hH1]; exact Base.one.app.app.app
  have hr0 : Vh.rowAt H1 H0.length = some ⟨true, false, [.nilslice, .nilslice]⟩ := by
    rw [hH1, row_left (by simp), row_left (by simp), row_left (by simp)]
    simp [Vh.rowAt, rw_]
  have hl1 : H0.length < H1.length := by rw [hH1]; simp
  rw [← hH1] at a1' a2 ⊢
  simp (disch := omega) only [sN, ↓reduceIte, Nat.reduceEqDiff, Nat.reduceAdd, Nat.reduceMul, Nat.reduceSub, reduceCtorEq, e_none, e_some, e_bindS, List.map_cons, List.map_nil, List.getElem?_cons_zero, List.getElem?_cons_succ]
  by_cases l1 : ((x / Nat.gcd x y : Nat) : Int) < BB ^ 64
  · refine call_fits (b := true) (Nat.le_trans qlx (by omega)) a1' (decide_eq_true l1) ?_
    simp (disch := omega) only [sN, ↓reduceIte, Nat.reduceEqDiff, Nat.reduceAdd, Nat.reduceMul, Nat.reduceSub, reduceCtorEq, e_none, e_some, e_bindS, List.map_cons, List.map_nil]
    by_cases l2 : ((y / Nat.gcd x y : Nat) : Int) < BB ^ 64
    · have hE : redE (x : Int) (y : Int) = 0 := by unfold redE; rw [rx, ry, if_pos ⟨l1, l2⟩]
      rw [hE, if_pos rfl, if_pos rfl, rx, ry]
      refine call_fits (b := true) (Nat.le_trans qly (by omega)) a2 (decide_eq_true l2) ?_
      simp (disch := omega) only [sN, ↓reduceIte, Nat.reduceEqDiff, Nat.reduceAdd, Nat.reduceMul, Nat.reduceSub, reduceCtorEq, e_none, e_some, e_bindS, List.map_cons, List.map_nil]
      refine call_natV (Nat.le_trans qlx (by omega)) a1' ?_
      intro R2 w3 n3
      simp (disch := omega) only [sN, ↓reduceIte, Nat.reduceEqDiff, Nat.reduceAdd, Nat.reduceMul, Nat.reduceSub, reduceCtorEq, e_none, e_some, e_bindS, List.map_cons, List.map_nil]
      refine call_natV (Nat.le_trans qly (by omega)) (a2.base Base.one) ?_
      intro R3 w4 n4
      have n3' := n3.app (R := R3)
      have hB3 : Base H0 (H1 ++ R2 ++ R3) := hB1.app.app
      have hr3 : Vh.rowAt (H1 ++ R2 ++ R3) H0.length = some ⟨true, false, [.nilslice, .nilslice]⟩ := by rw [row_left (by simp; omega), row_left hl1, hr0]
      simp (disch := omega) only [sN, ↓reduceIte, Nat.reduceEqDiff, Nat.reduceAdd, Nat.reduceMul, Nat.reduceSub, reduceCtorEq, e_none, e_some, e_bindS, List.map_cons, List.map_nil]
      rw [p_build2 (v1 := w3) (v2 := w4) (by simp only [e_upd, e_putS, e_putN, e_t, e_c, Nat.reduceEqDiff, ↓reduceIte, reduceCtorEq, Nat.reduceAdd]) (by simp only [e_upd, e_putS, e_putN, e_t, e_c, Nat.reduceEqDiff, ↓reduceIte, reduceCtorEq, Nat.reduceAdd]) n3.cell n4.cell]
      simp (disch := omega) only [sN, ↓reduceIte, Nat.reduceEqDiff, Nat.reduceAdd, Nat.reduceMul, Nat.reduceSub, reduceCtorEq, e_none, e_some, e_bindS]
      rw [x_storeNA (n := 2) (r := H0.length) (l := [.nilslice, .nilslice]) (l' := [w3, w4]) (by simp only [e_upd, e_putS, e_putN, e_t, e_c, Nat.reduceEqDiff, ↓reduceIte, reduceCtorEq, Nat.reduceAdd]) (by simp only [e_upd, e_putS, e_putN, e_t, e_c, Nat.reduceEqDiff, ↓reduceIte, reduceCtorEq, Nat.reduceAdd]) (by simp [n3.cell, n4.cell]) hr3 rfl rfl]
      simp (disch := omega) only [sN, ↓reduceIte, Nat.reduceEqDiff, Nat.reduceAdd, Nat.reduceMul, Nat.reduceSub, reduceCtorEq, e_none, e_some, e_bindS]
      refine ret_keep (by rw [List.length_set]; exact hB3.1) ?_
      rw [rs_rreduced, ares_cell2 (r := H0.length) (row := ⟨true, false, [w3, w4]⟩) (l := [w3, w4]) (by simp only [e_upd, e_putS, e_putN, e_t, e_c, Nat.reduceEqDiff, ↓reduceIte, reduceCtorEq, Nat.reduceAdd]) (by rw [rowAt_set (by have := hB3.1; simp; omega), if_pos rfl]; rfl) rfl rfl]
      refine ⟨hB3.set (Nat.le_refl _), w3, w4, ?_, (n3'.set hl1).le (by omega), (n4.set (by simp; omega)).le (by simp; omega)⟩
      simp only [e_upd, e_putS, e_putN, e_t, e_c, Nat.reduceEqDiff, ↓reduceIte, reduceCtorEq, Nat.reduceAdd]
    · have hE : redE (x : Int) (y : Int) = 8 := by unfold redE; rw [rx, ry, if_neg fun h => l2 h.2]
      rw [hE, if_neg (by decide), if_neg (by decide)]
      refine call_fits (b := false) (Nat.le_trans qly (by omega)) a2 (decide_eq_false l2) ?_
      simp (disch := omega) only [sN, ↓reduceIte, Nat.reduceEqDiff, Nat.reduceAdd, Nat.reduceMul, Nat.reduceSub, reduceCtorEq, e_none, e_some, e_bindS, p_build, afill, List.map_cons, List.map_nil, Option.map_some]
      rw [x_storeNA (n := 2) (r := H0.length) (l := [.nilslice, .nilslice]) (l' := [.nilslice, .nilslice]) (by simp only [e_upd, e_putS, e_putN, e_t, e_c, Nat.reduceEqDiff, ↓reduceIte, reduceCtorEq, Nat.reduceAdd]) (by simp only [e_upd, e_putS, e_putN, e_t, e_c, Nat.reduceEqDiff, ↓reduceIte, reduceCtorEq, Nat.reduceAdd]) rfl hr0 rfl rfl]
      simp (disch := omega) only [sN, ↓reduceIte, Nat.reduceEqDiff, Nat.reduceAdd, Nat.reduceMul, Nat.reduceSub, reduceCtorEq, e_none, e_some, e_bindS]
      refine ret_keep (by rw [List.length_set]; exact hB1.1) ?_
      rw [rs_rreduced, ares_cell2 (r := H0.length) (row := ⟨true, false, [.nilslice, .nilslice]⟩) (l := [.nilslice, .nilslice]) (by simp only [e_upd, e_putS, e_putN, e_t, e_c, Nat.reduceEqDiff, ↓reduceIte, reduceCtorEq, Nat.reduceAdd]) (by rw [rowAt_set hl1, if_pos rfl]; rfl) rfl rfl]
      refine ⟨hB1.set (Nat.le_refl _), .nilslice, .nilslice, ?_, .nil, .nil⟩
      simp only [e_upd, e_putS, e_putN, e_t, e_c, Nat.reduceEqDiff, ↓reduceIte, reduceCtorEq, Nat.reduceAdd]
  · have hE : redE (x : Int) (y : Int) = 8 := by unfold redE; rw [rx, ry, if_neg fun h => l1 h.1]
    rw [hE, if_neg (by decide), if_neg (by decide)]
    refine call_fits (b := false) (Nat.le_trans qlx (by omega)) a1' (decide_eq_false l1) ?_
    simp (disch := omega) only [sN, ↓reduceIte, Nat.reduceEqDiff, Nat.reduceAdd, Nat.reduceMul, Nat.reduceSub, reduceCtorEq, e_none, e_some, e_bindS, p_build, afill, List.map_cons, List.map_nil, Option.map_some]
    rw [x_storeNA (n := 2) (r := H0.length) (l := [.nilslice, .nilslice]) (l' := [.nilslice, .nilslice]) (by simp only [e_upd, e_putS, e_putN, e_t, e_c, Nat.reduceEqDiff, ↓reduceIte, reduceCtorEq, Nat.reduceAdd]) (by simp only [e_upd, e_putS, e_putN, e_t, e_c, Nat.reduceEqDiff, ↓reduceIte, reduceCtorEq, Nat.reduceAdd]) rfl hr0 rfl rfl]
    simp (disch := omega) only [sN, ↓reduceIte, Nat.reduceEqDiff, Nat.reduceAdd, Nat.reduceMul, Nat.reduceSub, reduceCtorEq, e_none, e_some, e_bindS]
    refine ret_keep (by rw [List.length_set]; exact hB1.1) ?_
    rw [rs_rreduced, ares_cell2 (r := H0.length) (row := ⟨true, false, [.nilslice, .nilslice]⟩) (l := [.nilslice, .nilslice]) (by simp only [e_upd, e_putS, e_putN, e_t, e_c, Nat.reduceEqDiff, ↓reduceIte, reduceCtorEq, Nat.reduceAdd]) (by rw [rowAt_set hl1, if_pos rfl]; rfl) rfl rfl]
    refine ⟨hB1.set (Nat.le_refl _), .nilslice, .nilslice, ?_, .nil, .nil⟩
    simp only [e_upd, e_putS, e_putN, e_t, e_c, Nat.reduceEqDiff, ↓reduceIte, reduceCtorEq, Nat.reduceAdd]
end Go.Proofs.YtjmceapnhmeflaaDoor

