/- Contracts: the reference's long division: the walk. -/
import Derived.Test.YthbhljolpnbdlaaVX
import Derived.Test.YthbhljolpnbdlaaPN
import Derived.Test.YthbhljolpnbdlaaV7
import Derived.Test.YthbhljolpnbdlaaPE
import Derived.Test.YthbhljolpnbdlaaV8
import Derived.Test.YthbhljolpnbdlaaChecked
set_option linter.unusedSimpArgs false
set_option linter.unusedVariables false
-- NEWSET
namespace Go.Proofs.Ythbhljolpnbdlaa.S1
open Go Go.Vh

/-- The quotient, new. -/
def QNew (base : AHeap) (n : Nat) (v : AV) (H : AHeap) : Prop := ∃ κ v2 row, okS κ (Dg.dg n).length ∧ v = .tuple [mkS κ base.length 0 (Dg.dg n).length, v2] ∧ H = base ++ [some row] ∧ row.own = true ∧ row.cells.take (Dg.dg n).length = ints .i64 (Dg.dg n) ∧ row.cells.all AV.flat = true

set_option maxHeartbeats 2000000 in
theorem rdivide_calls (κ κ' : SK) (p q : Nat) (hq : 0 < q) (hk : okS κ (Dg.dg p).length) (hk' : okS κ' (Dg.dg q).length) (hm : (Dg.dg p).length ≤ 10000) (hm' : (Dg.dg q).length ≤ 10000) :
    ACalls Try.prog 141 [mkS κ 0 0 (Dg.dg p).length, mkS κ' 1 0 (Dg.dg q).length] [ro (ints .i64 (Dg.dg p)), ro (ints .i64 (Dg.dg q))] (List.range 2) (QNew [ro (ints .i64 (Dg.dg p)), ro (ints .i64 (Dg.dg q))] (p / q)) := by
  refine ACalls.body Try.func141 ent_rdivide ir_rdivide_ok rs_rdivide_ok Try.ntmps141 (by simp) rfl ?_
  unfold ir_rdivide
  have e0 : s0 [mkS κ 0 0 (Dg.dg p).length, mkS κ' 1 0 (Dg.dg q).length] 0 = mkS κ 0 0 (Dg.dg p).length := rfl
  have e1 : s0 [mkS κ 0 0 (Dg.dg p).length, mkS κ' 1 0 (Dg.dg q).length] 1 = mkS κ' 1 0 (Dg.dg q).length := rfl
  have ha := Dg.dg_dl p
  have na := Dg.dg_num p
  have ta := Dg.dg_tz p
  have hb := Dg.dg_dl q
  have nb := Dg.dg_num q
  have tb := Dg.dg_tz q
  have hAq : ∀ H : AHeap, Vh.rowAt H 1 = some ⟨false, false, ints .i64 (Dg.dg q)⟩ → AtD H (mkS κ' 1 0 (Dg.dg q).length) q 1 := fun H h => ⟨κ', _, hk', rfl, h, by rw [← ints_length (k := .i64) (l := Dg.dg q), List.take_length]⟩
  have hlens : ∀ x, x < q * 256 → (Dg.dg x).length ≤ 10001 := fun x h => Nat.le_trans (Dg.dg_mul_len h) (by omega)
  have hlen2 : ∀ j, j ≤ 7 → (Dg.dg (q * 2 ^ j)).length ≤ 10001 := fun j h => hlens _ (by have := Dg.pow_le8 h; exact Nat.mul_lt_mul_of_pos_left (by omega) hq)
  have hbl : 0 < (Dg.dg q).length := by rw [Dg.dg_pos hq]; simp
  obtain ⟨a, haq⟩ : ∃ a, Dg.dg p = a := ⟨_, rfl⟩
  obtain ⟨la, hla⟩ : ∃ la, a.length = la := ⟨_, rfl⟩
  obtain ⟨lb, hlb⟩ : ∃ lb, (Dg.dg q).length = lb := ⟨_, rfl⟩
  obtain ⟨B, hB⟩ : ∃ B, ints .i64 (Dg.dg q) = B := ⟨_, rfl⟩
  rw [hB, hlb] at hAq
  rw [haq, hla] at hk hm e0 e1 ta ⊢
  rw [haq] at ha na
  rw [hlb] at hk' hm' e0 e1 hbl ⊢
  rw [hB]
  by_cases hlt : (la : Int) < (lb : Int)
  · have hpq : p / q = 0 := by
      apply Nat.div_eq_of_lt
      have := Dg.nv_len_lt ha hb (n := la) (m := lb) (by omega) (by
        have h := Dg.tz_last (Dg.dg q) (Dg.dg q).length (by rw [tb]; omega)
        rw [tb, hlb] at h; exact h)
      simp only [Dg.num, hla] at na
      simp only [Dg.num, hlb] at nb
      omega
    simp (disch := omega) only [sN, ↓reduceIte, Nat.reduceEqDiff, Nat.reduceAdd, Nat.reduceMul, Nat.reduceSub, reduceCtorEq, e_none, e_some, e_bindS, e0, e1, k_len hk, k_len hk']
    refine ⟨_, _, Weak.pad, by simp, ?_⟩
    unfold rs_rdivide; rw [q_tmp2, q_then, hpq]
    refine ⟨.nil, mkS κ 0 0 la, ⟨true, false, []⟩, by rw [Dg.dg_zero]; rfl, ?_, rfl, rfl, by rw [Dg.dg_zero]; rfl, rfl⟩
    simp only [e_upd, e_putS, e_putN, e_t, e_c, Nat.reduceEqDiff, ↓reduceIte, reduceCtorEq, Nat.reduceAdd, e0, Dg.dg_zero]; rfl
  simp (disch := omega) only [sN, ↓reduceIte, Nat.reduceEqDiff, Nat.reduceAdd, Nat.reduceMul, Nat.reduceSub, reduceCtorEq, e_none, e_some, e_bindS, e0, e1, k_len hk, k_len hk']
  rw [x_bs1 (v := mkS κ' 1 0 lb) (by simp only [e_upd, e_putS, e_putN, e_t, e_c, Nat.reduceEqDiff, ↓reduceIte, reduceCtorEq, Nat.reduceAdd, e1]) mkS_cell]
  simp (disch := omega) only [sN, ↓reduceIte, Nat.reduceEqDiff, Nat.reduceAdd, Nat.reduceMul, Nat.reduceSub, reduceCtorEq, e_none, e_some, e_bindS, e0, e1, List.cons_append, List.nil_append]
  refine ⟨fun m s H => ∃ (k D : Nat) (cells : List AV), m = 8 - k ∧ 1 ≤ k ∧ k ≤ 8 ∧ s 0 = mkS κ 0 0 la ∧ s 1 = mkS κ' 1 0 lb ∧ s 6 = dblS D k ∧ s 7 = .int .i64 (k : Int) ∧ 2 ≤ D ∧ Vh.rowAt H 0 = some ⟨false, false, ints .i64 a⟩ ∧ Vh.rowAt H 1 = some ⟨false, false, B⟩ ∧ Vh.rowAt H D = some ⟨true, decide (k ≠ 1), cells⟩ ∧ Dbl H q D k D cells, 7, ⟨1, 2, [mkS κ' 1 0 lb], rfl, by omega, by omega, ?_, ?_, ?_, ?_, by omega, rfl, rfl, rfl, rfl, ?_⟩, ?_⟩
  · simp only [e_upd, e_putS, e_putN, e_t, e_c, Nat.reduceEqDiff, ↓reduceIte, reduceCtorEq, Nat.reduceAdd, e0]
  · simp only [e_upd, e_putS, e_putN, e_t, e_c, Nat.reduceEqDiff, ↓reduceIte, reduceCtorEq, Nat.reduceAdd, e1]
  · simp only [e_upd, e_putS, e_putN, e_t, e_c, Nat.reduceEqDiff, ↓reduceIte, reduceCtorEq, Nat.reduceAdd]; rfl
  · simp only [e_upd, e_putS, e_putN, e_t, e_c, Nat.reduceEqDiff, ↓reduceIte, reduceCtorEq, Nat.reduceAdd]; rfl
  · intro j hj
    obtain rfl : j = 0 := by omega
    exact ⟨_, 1, rfl, mkS_cell, by rw [Nat.pow_zero, Nat.mul_one]; exact hAq _ rfl, by omega⟩
  rintro m s H ⟨k, D, cells, rfl, hk1, hk8, h0, h1, h6, h7, hD2, r0, r1, rD, hdbl⟩
  have lD := row_lt rD
  have l0 := row_lt r0
  have l1 := row_lt r1
  by_cases hk7 : (k : Int) < 8
  · obtain ⟨c, rc, hc1, hc2, hc3, hc4⟩ := hdbl.2 (k - 1) (by omega)
    have hkI : (k : Int) - 1 = ((k - 1 : Nat) : Int) := by omega
    have hi := dblS_idx (D := D) (k := k) (j := k - 1) (by omega)
    simp (disch := omega) only [sN, ↓reduceIte, Nat.reduceEqDiff, Nat.reduceAdd, Nat.reduceMul, Nat.reduceSub, reduceCtorEq, e_none, e_some, e_bindS, h0, h1, h6, h7, hkI, hi, rD, hc1, Option.bind_some, Option.map_some]
    refine call_add (Nat.le_trans (hlen2 (k - 1) (by omega)) (by omega)) (Nat.le_trans (hlen2 (k - 1) (by omega)) (by omega)) hc3 hc3 ?_
    intro w row ho hfl hw hwc
    have hdouble : q * 2 ^ (k - 1) + q * 2 ^ (k - 1) = q * 2 ^ k := by
      rw [← Nat.mul_add, ← Nat.two_mul, Nat.mul_comm 2, ← Nat.pow_succ, show (k - 1).succ = k by omega]
    rw [hdouble] at hw
    simp (disch := omega) only [sN, ↓reduceIte, Nat.reduceEqDiff, Nat.reduceAdd, Nat.reduceMul, Nat.reduceSub, reduceCtorEq, e_none, e_some, e_bindS, h0, h1, h6, h7]
    rw [x_bs1 (v := w) (by simp only [e_upd, e_putS, e_putN, e_t, e_c, Nat.reduceEqDiff, ↓reduceIte, reduceCtorEq, Nat.reduceAdd]) hwc]
    simp (disch := omega) only [sN, ↓reduceIte, Nat.reduceEqDiff, Nat.reduceAdd, Nat.reduceMul, Nat.reduceSub, reduceCtorEq, e_none, e_some, e_bindS, h0, h1, h6, h7]
    have hall : cells.all AV.cell = true := by
      rw [List.all_eq_true]
      intro x hx
      obtain ⟨j, hj⟩ := List.getElem?_of_mem hx
      have hjl := (List.getElem?_eq_some_iff.1 hj).1
      obtain ⟨c', _, g1, g2, _⟩ := hdbl.2 j (by rw [← hdbl.1]; exact hjl)
      rw [g1] at hj; cases hj; exact g2
    have lw := hw.lt
    have eD : Vh.rowAt (H ++ [some row] ++ [rw_ [w]]) D = some ⟨true, decide (k ≠ 1), cells⟩ := by rw [row_left (by simp; omega), row_left lD, rD]
    rw [x_appD (D := D) (k := k) (r := (H ++ [some row]).length) (cells := cells) (c := w) (by simp only [e_upd, e_putS, e_putN, e_t, e_c, Nat.reduceEqDiff, ↓reduceIte, reduceCtorEq, Nat.reduceAdd, h6]) (by simp only [e_upd, e_putS, e_putN, e_t, e_c, Nat.reduceEqDiff, ↓reduceIte, reduceCtorEq, Nat.reduceAdd]) eD hdbl.1 hk1 (by omega) (by simp [Vh.rowAt, rw_]) hwc hall]
    obtain ⟨H1, hH1⟩ : ∃ H1, H1 = H ++ [some row] ++ [rw_ [w]] := ⟨_, rfl⟩
    obtain ⟨H2, hH2⟩ : ∃ H2, H2 = (if k = 1 then H1 else H1.set D none) := ⟨_, rfl⟩
    have hx1 : Ext H H1 D := by rw [hH1]; exact Ext.app.trans Ext.app
    have hx2 : Ext H1 H2 D := by rw [hH2]; split; exact Ext.refl; exact Ext.set
    have hl2 : H2.length = H1.length := by rw [hH2]; split <;> simp
    have hl1 : H1.length = H.length + 2 := by rw [hH1]; simp
    rw [← hH1, ← hH2]
    have hx3 : Ext H (H2 ++ [sl (cells ++ [w])]) D := (hx1.trans hx2).trans Ext.app
    have hw' : AtD (H2 ++ [sl (cells ++ [w])]) w (q * 2 ^ k) H.length := by
      refine hw.keep ?_
      rw [row_left (by omega), hx2.2 H.length (by omega) (by omega), hH1, row_left (by simp)]
    simp (disch := omega) only [sN, ↓reduceIte, Nat.reduceEqDiff, Nat.reduceAdd, Nat.reduceMul, Nat.reduceSub, reduceCtorEq, e_none, e_some, e_bindS, h0, h1, h6, h7]
    refine loop_keep (m := 8 - (k + 1)) (by omega) ⟨k + 1, H1.length, cells ++ [w], rfl, by omega, by omega, ?_, ?_, ?_, ?_, by omega, ?_, ?_, ?_, ?_⟩
    · simp only [e_upd, e_putS, e_putN, e_t, e_c, Nat.reduceEqDiff, ↓reduceIte, reduceCtorEq, Nat.reduceAdd, h0]
    · simp only [e_upd, e_putS, e_putN, e_t, e_c, Nat.reduceEqDiff, ↓reduceIte, reduceCtorEq, Nat.reduceAdd, h1]
    · simp only [e_upd, e_putS, e_putN, e_t, e_c, Nat.reduceEqDiff, ↓reduceIte, reduceCtorEq, Nat.reduceAdd]
    · simp only [e_upd, e_putS, e_putN, e_t, e_c, Nat.reduceEqDiff, ↓reduceIte, reduceCtorEq, Nat.reduceAdd]; rfl
    · rw [hx3.2 0 l0 (by omega), r0]
    · rw [hx3.2 1 l1 (by omega), r1]
    · rw [← hl2]; simp [Vh.rowAt, sl]; omega
    · refine ⟨by rw [List.length_append, hdbl.1]; rfl, fun j hj => ?_⟩
      by_cases hjk : j < k
      · obtain ⟨c', rc', g1, g2, g3, g4⟩ := hdbl.2 j hjk
        exact ⟨c', rc', by rw [List.getElem?_append_left (by rw [hdbl.1]; exact hjk), g1], g2, g3.ext hx3 g4, by have := g3.lt; omega⟩
      · obtain rfl : j = k := by omega
        exact ⟨w, H.length, by rw [List.getElem?_append_right (by rw [hdbl.1]; omega), hdbl.1, Nat.sub_self]; rfl, hwc, hw', by omega⟩
  obtain rfl : k = 8 := by omega
  have h7' : s 7 = .int .i64 8 := h7
  have rD' : Vh.rowAt H D = some ⟨true, true, cells⟩ := rD
  simp (disch := omega) only [sN, ↓reduceIte, Nat.reduceEqDiff, Nat.reduceAdd, Nat.reduceMul, Nat.reduceSub, reduceCtorEq, e_none, e_some, e_bindS, h0, h1, h6, h7', k_len hk, k_len hk']
  rw [x_make (n := (la : Int)) (by simp only [e_upd, e_putS, e_putN, e_t, e_c, Nat.reduceEqDiff, ↓reduceIte, reduceCtorEq, Nat.reduceAdd]) (by omega) (by omega) (by omega)]
  obtain ⟨at_, hat⟩ : ∃ at_ : Nat, at_ + lb = la + 1 := ⟨la + 1 - lb, by omega⟩
  have hatI : (la : Int) - (lb : Int) + 1 = (at_ : Int) := by omega
  obtain ⟨u, hu1, hu2, hu3⟩ := slLo (x := at_) hk hla (by omega)
  simp (disch := omega) only [sN, ↓reduceIte, Nat.reduceEqDiff, Nat.reduceAdd, Nat.reduceMul, Nat.reduceSub, reduceCtorEq, e_none, e_some, e_bindS, h0, h1, h6, k_len hk, k_len hk', hatI, hu1, x_b0]
  rw [x_appE (r := (H ++ [rw_ (ints .i64 (List.replicate la 0))]).length) (a := la - at_) (u := u) (xs := a.drop at_) (by simp only [e_upd, e_putS, e_putN, e_t, e_c, Nat.reduceEqDiff, ↓reduceIte, reduceCtorEq, Nat.reduceAdd]) (by simp only [e_upd, e_putS, e_putN, e_t, e_c, Nat.reduceEqDiff, ↓reduceIte, reduceCtorEq, Nat.reduceAdd]) hu2 (hu3 _ (by rw [row_left (by rw [List.length_append]; omega), row_left l0, r0])) (by omega)]
  obtain ⟨H1, hH1⟩ : ∃ H1, H1 = H ++ [rw_ (ints .i64 (List.replicate la 0))] ++ [rw_ []] ++ [sl (ints .i64 (a.drop at_))] := ⟨_, rfl⟩
  have hx1 : Ext H H1 H.length := by rw [hH1]; exact (Ext.app.trans Ext.app).trans Ext.app
  have hl1 : H1.length = H.length + 3 := by rw [hH1]; simp
  have rQ1 : Vh.rowAt H1 H.length = rw_ (ints .i64 (List.replicate la 0)) := by
    rw [hH1, row_left (by simp), row_left (by simp)]; simp [Vh.rowAt]
  have rR1 : Vh.rowAt H1 (H.length + 2) = some ⟨true, true, ints .i64 (a.drop at_)⟩ := by
    rw [hH1]; simp [Vh.rowAt, sl]
  simp (disch := omega) only [sN, ↓reduceIte, Nat.reduceEqDiff, Nat.reduceAdd, Nat.reduceMul, Nat.reduceSub, reduceCtorEq, e_none, e_some, e_bindS, h0, h1, h6, ← hH1]
  have hdl : (a.drop at_).length = la - at_ := by rw [List.length_drop, hla]
  have hlenH : (H ++ [rw_ (ints .i64 (List.replicate la 0))] ++ [rw_ []]).length = H.length + 2 := by simp
  rw [hlenH, ← hdl]
  have hup := Dg.up_num ha at_
  refine call_trimD (κ := .u) (n := Dg.up a at_) trivial (by omega) rR1 (Dg.dl_drop ha at_) hup ?_
  intro w hw hwc
  have hsmall := Dg.up_small ha hb tb nb (by omega) (i := at_) (by omega)
  have hql := Dg.ql_start ha hb tb nb (by omega) (i := at_) (by omega)
  rw [hla] at hql
  simp (disch := omega) only [sN, ↓reduceIte, Nat.reduceEqDiff, Nat.reduceAdd, Nat.reduceMul, Nat.reduceSub, reduceCtorEq, e_none, e_some, e_bindS, h0, h1, h6]
  obtain ⟨Q, hQ⟩ : ∃ Q, H.length = Q := ⟨_, rfl⟩
  rw [hQ] at hx1 rQ1 hw hl1
  have hdblQ : Dbl H1 q D 8 Q cells := ⟨hdbl.1, fun j hj => by
    obtain ⟨c', rc', g1, g2, g3, g4⟩ := hdbl.2 j hj
    have := g3.lt
    exact ⟨c', rc', g1, g2, g3.ext hx1 (by omega), by omega⟩⟩
  refine ⟨fun m s H => ∃ (i rr : Nat), m = i ∧ i ≤ at_ ∧ s 0 = mkS κ 0 0 la ∧ s 6 = dblS D 8 ∧ s 8 = .slice Q 0 la la ∧ s 11 = .int .i64 ((i : Int) - 1) ∧ Vh.rowAt H 0 = some ⟨false, false, ints .i64 a⟩ ∧ Vh.rowAt H 1 = some ⟨false, false, B⟩ ∧ Vh.rowAt H D = some ⟨true, true, cells⟩ ∧ Vh.rowAt H Q = rw_ (ints .i64 (Dg.ql a q i)) ∧ Dbl H q D 8 Q cells ∧ AtD H (s 10) (Dg.up a i % q) rr ∧ rr ≠ Q, at_, ⟨at_, Q + 2, rfl, Nat.le_refl _, ?_, ?_, ?_, ?_, ?_, ?_, ?_, ?_, hdblQ, ?_, by omega⟩, ?_⟩
  · simp only [e_upd, e_putS, e_putN, e_t, e_c, Nat.reduceEqDiff, ↓reduceIte, reduceCtorEq, Nat.reduceAdd, h0]
  · simp only [e_upd, e_putS, e_putN, e_t, e_c, Nat.reduceEqDiff, ↓reduceIte, reduceCtorEq, Nat.reduceAdd, h6]
  · simp only [e_upd, e_putS, e_putN, e_t, e_c, Nat.reduceEqDiff, ↓reduceIte, reduceCtorEq, Nat.reduceAdd, nat_toNat, hQ]
  · simp only [e_upd, e_putS, e_putN, e_t, e_c, Nat.reduceEqDiff, ↓reduceIte, reduceCtorEq, Nat.reduceAdd]
  · rw [hx1.2 0 (by omega) (by omega), r0]
  · rw [hx1.2 1 (by omega) (by omega), r1]
  · rw [hx1.2 D (by omega) (by omega), rD']
  · rw [rQ1, hql]
  · rw [Nat.mod_eq_of_lt hsmall]; simp only [e_upd, e_putS, e_putN, e_t, e_c, Nat.reduceEqDiff, ↓reduceIte, reduceCtorEq, Nat.reduceAdd]; exact hw
  have hQ2 : 2 ≤ Q := by omega
  have hDQ : D ≠ Q := by omega
  have hat2 : at_ ≤ la := by omega
  have hup0 : Dg.up a 0 = p := by simp only [Dg.up, List.drop_zero, na]; simp
  clear hH1 hx1 rQ1 rR1 hw hdblQ hdbl h0 h1 h6 h7 h7' r0 r1 rD rD' l0 l1 lD hlenH hl1 hQ hsmall hql hwc hup hu1 hu2 hu3 hdl hatI hk1 hk8 hk7 e0 e1
  clear H1 w u H s
  rintro m s H ⟨i, rr, hmi, hi, h0, h6, h8, h11, r0, r1, rD, rQ, hdbl, hr, hrQ⟩
  have l0 := row_lt r0
  have l1 := row_lt r1
  have lD := row_lt rD
  have lQ := row_lt (show Vh.rowAt H Q = some ⟨true, false, ints .i64 (Dg.ql a q i)⟩ from rQ)
  cases i with
  | zero =>
    have h11' : s 11 = .int .i64 (-1) := h11
    have hqlen : (Dg.ql a q 0).length = la := by rw [Dg.ql_length, hla]
    have hqn := Dg.ql_num ha hq
    rw [hup0] at hqn
    simp (disch := omega) only [sN, ↓reduceIte, Nat.reduceEqDiff, Nat.reduceAdd, Nat.reduceMul, Nat.reduceSub, reduceCtorEq, e_none, e_some, e_bindS, h8, h11']
    rw [show (AV.slice Q 0 la la) = mkS (.cap la) Q 0 (Dg.ql a q 0).length by rw [hqlen]; rfl]
    refine call_trimD (κ := .cap la) (n := p / q) (by rw [hqlen]; exact Nat.le_refl _) (by omega) rQ (Dg.ql_dl ha hq 0) hqn ?_
    rintro w ⟨κ3, row, g1, rfl, g3, g4⟩ hwc
    rw [rQ] at g3
    cases g3
    simp (disch := omega) only [sN, ↓reduceIte, Nat.reduceEqDiff, Nat.reduceAdd, Nat.reduceMul, Nat.reduceSub, reduceCtorEq, e_none, e_some, e_bindS]
    have hsg : gcSig [0, 1, Q] Q = some (2, 0) := by
      have e1 : ¬ (0 = Q) := by omega
      have e2 : ¬ (1 = Q) := by omega
      simp [gcSig, List.idxOf?, List.findIdx?_cons, e1, e2]
    refine ret_gc [0, 1, Q] ?_ ?_ (by simp) ?_
    · simp only [gcOK, Bool.and_eq_true, beq_iff_eq, decide_eq_true_eq, List.all_cons, List.all_nil, Bool.and_true]
      refine ⟨⟨rfl, l0, l1, lQ⟩, ?_⟩
      simp
      omega
    · simp [gcH, r0, r1, rQ, rw_, ints_ren, ints_cell, ← hB]
    · unfold rs_rdivide; rw [q_tmp2, q_then]
      refine ⟨κ3, (s 10).ren (gcSig [0, 1, Q]), ⟨true, false, ints .i64 (Dg.ql a q 0)⟩, g1, ?_, ?_, rfl, g4, ints_flat⟩
      · simp only [gcS, e_upd, e_putS, e_putN, e_t, e_c, Nat.reduceEqDiff, ↓reduceIte, reduceCtorEq, Nat.reduceAdd]
        rw [n_mkS (r' := 2) (d := 0) hsg]
        rfl
      · simp [gcH, r0, r1, rQ, ro, rw_, ints_ren, ← hB]
  | succ j =>
    have h11' : s 11 = .int .i64 (j : Int) := by rw [h11]; congr 1; omega
    have hjla : j < la := by omega
    have ia : aindexAddr 1 (mkS κ 0 0 la) (.int .i64 (j : Int)) = some (.ptr 0 j) := by
      rw [k_idx hk (Nat.le_refl _) (by omega) (by omega)]; simp
    obtain ⟨z, hz⟩ : ∃ z, a.getD j 0 = z := ⟨_, rfl⟩
    have ga : (ints .i64 a)[j]? = some (.int .i64 z) := by rw [ints_get (by omega), hz]
    have hzr := ha j
    rw [hz] at hzr
    simp (disch := omega) only [sN, ↓reduceIte, Nat.reduceEqDiff, Nat.reduceAdd, Nat.reduceMul, Nat.reduceSub, reduceCtorEq, e_none, e_some, e_bindS, h0, h6, h8, h11', ia, r0, ga, Option.bind_some, Option.map_some]
    rw [x_bs1 (v := .int .i64 z) (by simp only [e_upd, e_putS, e_putN, e_t, e_c, Nat.reduceEqDiff, ↓reduceIte, reduceCtorEq, Nat.reduceAdd]) rfl]
    simp (disch := omega) only [sN, ↓reduceIte, Nat.reduceEqDiff, Nat.reduceAdd, Nat.reduceMul, Nat.reduceSub, reduceCtorEq, e_none, e_some, e_bindS, h0, h6, h8, h11']
    obtain ⟨x0, hx0⟩ : ∃ x0, x0 = 256 * (Dg.up a (j + 1) % q) + z.toNat := ⟨_, rfl⟩
    have hmod := Nat.mod_lt (Dg.up a (j + 1)) hq
    have hx0lt : x0 < q * 256 := by omega
    have hrl : (Dg.dg (Dg.up a (j + 1) % q)).length ≤ 10001 := hlens _ (by omega)
    have hr1 : AtD (H ++ [rw_ [.int .i64 z]]) (s 10) (Dg.up a (j + 1) % q) rr := hr.keep (row_left hr.lt)
    obtain ⟨κ2, r2, sk, R, happ, hok, hr2, hL2⟩ := x_app1 (x := .t 64) (y := .t 65) (L := H.length) (z := z) (by simp [Vh.rowAt, rw_]) hr1 (by omega)
    rw [happ _ (by simp only [e_upd, e_putS, e_putN, e_t, e_c, Nat.reduceEqDiff, ↓reduceIte, reduceCtorEq, Nat.reduceAdd]) (by simp only [e_upd, e_putS, e_putN, e_t, e_c, Nat.reduceEqDiff, ↓reduceIte, reduceCtorEq, Nat.reduceAdd])]
    obtain ⟨H1, hH1⟩ : ∃ H1, H1 = H ++ [rw_ [.int .i64 z]] ++ R := ⟨_, rfl⟩
    have hx1 : Ext H H1 Q := by rw [hH1]; exact Ext.app.trans Ext.app
    have rQ1 : Vh.rowAt H1 Q = rw_ (ints .i64 (Dg.ql a q (j + 1))) := by
      rw [hH1, row_left (by rw [List.length_append]; omega), row_left lQ, rQ]
    rw [← hH1] at hr2
    simp (disch := omega) only [sN, ↓reduceIte, Nat.reduceEqDiff, Nat.reduceAdd, Nat.reduceMul, Nat.reduceSub, reduceCtorEq, e_none, e_some, e_bindS, h0, h6, h8, h11', ← hH1]
    have hlz : (z :: Dg.dg (Dg.up a (j + 1) % q)).length ≤ 10002 := by rw [List.length_cons]; omega
    refine call_trimD (n := x0) hok (by omega) hr2 (Dg.dl_cons hzr (Dg.dg_dl _)) (by rw [Dg.num_cons, Dg.dg_num]; omega) ?_
    intro w hw hwc
    simp (disch := omega) only [sN, ↓reduceIte, Nat.reduceEqDiff, Nat.reduceAdd, Nat.reduceMul, Nat.reduceSub, reduceCtorEq, e_none, e_some, e_bindS, h0, h6, h8, h11']
    have hud := Dg.up_div ha hq (i := j) (by omega)
    have hte := Dg.trial_end hx0lt
    have hqd : Dg.qd a q j = x0 / q := by rw [hx0, ← hz]; rfl
    have hmm : Dg.up a j % q = x0 % q := by rw [hud.2, hx0, hz]
    refine ⟨fun m s H' => ∃ (t rr : Nat), m = 8 - t ∧ t ≤ 8 ∧ s 0 = mkS κ 0 0 la ∧ s 6 = dblS D 8 ∧ s 8 = .slice Q 0 la la ∧ s 11 = .int .i64 (j : Int) ∧ s 12 = .int .i64 (7 - (t : Int)) ∧ Vh.rowAt H' 0 = some ⟨false, false, ints .i64 a⟩ ∧ Vh.rowAt H' 1 = some ⟨false, false, B⟩ ∧ Vh.rowAt H' D = some ⟨true, true, cells⟩ ∧ Vh.rowAt H' Q = rw_ (ints .i64 ((Dg.ql a q (j + 1)).set j ((Dg.trial q x0 t).1 : Int))) ∧ Dbl H' q D 8 Q cells ∧ AtD H' (s 10) (Dg.trial q x0 t).2 rr ∧ rr ≠ Q, 8, ⟨0, r2, rfl, by omega, ?_, ?_, ?_, ?_, ?_, ?_, ?_, ?_, ?_, hdbl.ext hx1, ?_, by omega⟩, ?_⟩
    · simp only [e_upd, e_putS, e_putN, e_t, e_c, Nat.reduceEqDiff, ↓reduceIte, reduceCtorEq, Nat.reduceAdd, h0]
    · simp only [e_upd, e_putS, e_putN, e_t, e_c, Nat.reduceEqDiff, ↓reduceIte, reduceCtorEq, Nat.reduceAdd, h6]
    · simp only [e_upd, e_putS, e_putN, e_t, e_c, Nat.reduceEqDiff, ↓reduceIte, reduceCtorEq, Nat.reduceAdd, h8]
    · simp only [e_upd, e_putS, e_putN, e_t, e_c, Nat.reduceEqDiff, ↓reduceIte, reduceCtorEq, Nat.reduceAdd, h11']
    · simp only [e_upd, e_putS, e_putN, e_t, e_c, Nat.reduceEqDiff, ↓reduceIte, reduceCtorEq, Nat.reduceAdd]; rfl
    · rw [hx1.2 0 l0 (by omega), r0]
    · rw [hx1.2 1 l1 (by omega), r1]
    · rw [hx1.2 D lD hDQ, rD]
    · rw [rQ1, show ((Dg.trial q x0 0).1 : Int) = 0 from rfl, Dg.ql_set0 (by omega)]
    · simp only [e_upd, e_putS, e_putN, e_t, e_c, Nat.reduceEqDiff, ↓reduceIte, reduceCtorEq, Nat.reduceAdd]; exact hw
    clear hw hwc hr2 hok rQ1 hx1 hH1 happ hL2 hr1 rQ r0 r1 rD hdbl hr hrQ l0 l1 lD lQ h0 h6 h8 h11 h11'
    clear H1 w R H s
    rintro m s H ⟨t, rr, hmt, ht8, h0, h6, h8, h11, h12, r0, r1, rD, rQ, hdbl, hr, hrQ⟩
    have l0 := row_lt r0
    have l1 := row_lt r1
    have lD := row_lt rD
    have lQ := row_lt (show Vh.rowAt H Q = some ⟨true, false, _⟩ from rQ)
    have hqll : (Dg.ql a q (j + 1)).length = la := by rw [Dg.ql_length, hla]
    rcases Nat.lt_or_ge t 8 with h8t | h8t
    · obtain ⟨ts1, ts2, ts3⟩ := Dg.trial_sum hx0lt t ht8
      have hb1 : (Dg.trial q x0 t).1 < 256 := Nat.lt_of_lt_of_le ts3 (Nat.le_trans (Nat.pow_le_pow_right (by omega) ht8) (by decide))
      have hnext : Dg.trial q x0 (t + 1) = if q * 2 ^ (7 - t) ≤ (Dg.trial q x0 t).2 then (2 * (Dg.trial q x0 t).1 + 1, (Dg.trial q x0 t).2 - q * 2 ^ (7 - t)) else (2 * (Dg.trial q x0 t).1, (Dg.trial q x0 t).2) := rfl
      have hxle := Dg.trial_le hx0lt t ht8
      obtain ⟨k, hk7⟩ : ∃ k, k = 7 - t := ⟨_, rfl⟩
      rw [← hk7] at hnext
      have hkI : (7 - (t : Int)) = (k : Int) := by omega
      rw [hkI] at h12
      obtain ⟨X, hX⟩ : ∃ X, (Dg.trial q x0 t).1 = X := ⟨_, rfl⟩
      obtain ⟨Y, hY⟩ : ∃ Y, (Dg.trial q x0 t).2 = Y := ⟨_, rfl⟩
      rw [hX] at hb1 rQ
      rw [hX, hY] at hnext
      rw [hY] at hr hxle
      obtain ⟨c, rc, hc1, hc2, hc3, hc4⟩ := hdbl.2 k (by omega)
      have hix := dblS_idx (D := D) (k := 8) (j := k) (by omega)
      have gQ : (ints .i64 ((Dg.ql a q (j + 1)).set j (X : Int)))[j]? = some (.int .i64 (X : Int)) := by
        rw [ints_get (by rw [List.length_set]; omega)]
        simp [List.getD_eq_getElem?_getD, hqll, hjla]
      have ljla : (j : Int) < (la : Int) := by omega
      simp (disch := omega) only [sN, ↓reduceIte, Nat.reduceEqDiff, Nat.reduceAdd, Nat.reduceMul, Nat.reduceSub, reduceCtorEq, e_none, e_some, e_bindS, h0, h6, h8, h11, h12, rQ, rw_, gQ, Option.bind_some, Option.map_some]
      rw [x_store (r := Q) (off := j) (k := .i64) (b := 2 * (X : Int)) (l := (Dg.ql a q (j + 1)).set j (X : Int)) (by simp only [e_upd, e_putS, e_putN, e_t, e_c, Nat.reduceEqDiff, ↓reduceIte, reduceCtorEq, Nat.reduceAdd]) (by simp only [e_upd, e_putS, e_putN, e_t, e_c, Nat.reduceEqDiff, ↓reduceIte, reduceCtorEq, Nat.reduceAdd]) rQ (by rw [List.length_set]; omega), List.set_set]
      obtain ⟨H1, hH1⟩ : ∃ H1, H1 = H.set Q (rw_ (ints .i64 ((Dg.ql a q (j + 1)).set j (2 * (X : Int))))) := ⟨_, rfl⟩
      have hx1 : Ext H H1 Q := by rw [hH1]; exact Ext.set
      have rQ1 : Vh.rowAt H1 Q = rw_ (ints .i64 ((Dg.ql a q (j + 1)).set j (2 * (X : Int)))) := by rw [hH1, row_set0 lQ]
      have rD1 : Vh.rowAt H1 D = some ⟨true, true, cells⟩ := by rw [hx1.2 D lD hDQ, rD]
      have hl1 : H1.length = H.length := by rw [hH1, List.length_set]
      simp (disch := omega) only [sN, ↓reduceIte, Nat.reduceEqDiff, Nat.reduceAdd, Nat.reduceMul, Nat.reduceSub, reduceCtorEq, e_none, e_some, e_bindS, h0, h6, h8, h11, h12, ← hH1, hix, rD1, hc1, Option.bind_some, Option.map_some]
      have hYl : (Dg.dg Y).length ≤ 10001 := hlens _ (by omega)
      refine call_cmp (Nat.le_trans hYl (by omega)) (Nat.le_trans (hlen2 k (by omega)) (by omega)) (hr.ext hx1 hrQ) (hc3.ext hx1 hc4) ?_
      by_cases hge : q * 2 ^ k ≤ Y
      · have hcmp : (0 : Int) ≤ Dg.cmpI (Y : Int) ((q * 2 ^ k : Nat) : Int) := by
          unfold Dg.cmpI; rw [if_neg (by omega)]; split <;> omega
        rw [if_pos hge] at hnext
        simp (disch := omega) only [sN, ↓reduceIte, Nat.reduceEqDiff, Nat.reduceAdd, Nat.reduceMul, Nat.reduceSub, reduceCtorEq, e_none, e_some, e_bindS, h0, h6, h8, h11, h12, hix, rD1, hc1, Option.bind_some, Option.map_some]
        refine call_sub (Nat.le_trans hYl (by omega)) hge (hr.ext hx1 hrQ) (hc3.ext hx1 hc4) ?_
        intro w row ho hfl hw hwc
        have rQ2 : Vh.rowAt (H1 ++ [some row]) Q = rw_ (ints .i64 ((Dg.ql a q (j + 1)).set j (2 * (X : Int)))) := by rw [row_left (by omega), rQ1]
        have gQ2 : (ints .i64 ((Dg.ql a q (j + 1)).set j (2 * (X : Int))))[j]? = some (.int .i64 (2 * (X : Int))) := by
          rw [ints_get (by rw [List.length_set]; omega)]
          simp [List.getD_eq_getElem?_getD, hqll, hjla]
        simp (disch := omega) only [sN, ↓reduceIte, Nat.reduceEqDiff, Nat.reduceAdd, Nat.reduceMul, Nat.reduceSub, reduceCtorEq, e_none, e_some, e_bindS, h0, h6, h8, h11, h12, rQ2, rw_, gQ2, Option.bind_some, Option.map_some]
        rw [x_store (r := Q) (off := j) (k := .i64) (b := 2 * (X : Int) + 1) (l := (Dg.ql a q (j + 1)).set j (2 * (X : Int))) (by simp only [e_upd, e_putS, e_putN, e_t, e_c, Nat.reduceEqDiff, ↓reduceIte, reduceCtorEq, Nat.reduceAdd]) (by simp only [e_upd, e_putS, e_putN, e_t, e_c, Nat.reduceEqDiff, ↓reduceIte, reduceCtorEq, Nat.reduceAdd]) rQ2 (by rw [List.length_set]; omega), List.set_set]
        have hx3 : Ext H ((H1 ++ [some row]).set Q (rw_ (ints .i64 ((Dg.ql a q (j + 1)).set j (2 * (X : Int) + 1))))) Q := (hx1.trans Ext.app).trans Ext.set
        have hw3 : AtD ((H1 ++ [some row]).set Q (rw_ (ints .i64 ((Dg.ql a q (j + 1)).set j (2 * (X : Int) + 1))))) w (Y - q * 2 ^ k) H1.length := hw.ext Ext.set (by omega)
        simp (disch := omega) only [sN, ↓reduceIte, Nat.reduceEqDiff, Nat.reduceAdd, Nat.reduceMul, Nat.reduceSub, reduceCtorEq, e_none, e_some, e_bindS, h0, h6, h8, h11, h12]
        refine loop_keep (m := 8 - (t + 1)) (by omega) ⟨t + 1, H1.length, rfl, by omega, ?_, ?_, ?_, ?_, ?_, ?_, ?_, ?_, ?_, hdbl.ext hx3, ?_, by omega⟩
        · simp only [e_upd, e_putS, e_putN, e_t, e_c, Nat.reduceEqDiff, ↓reduceIte, reduceCtorEq, Nat.reduceAdd, h0]
        · simp only [e_upd, e_putS, e_putN, e_t, e_c, Nat.reduceEqDiff, ↓reduceIte, reduceCtorEq, Nat.reduceAdd, h6]
        · simp only [e_upd, e_putS, e_putN, e_t, e_c, Nat.reduceEqDiff, ↓reduceIte, reduceCtorEq, Nat.reduceAdd, h8]
        · simp only [e_upd, e_putS, e_putN, e_t, e_c, Nat.reduceEqDiff, ↓reduceIte, reduceCtorEq, Nat.reduceAdd, h11]
        · simp only [e_upd, e_putS, e_putN, e_t, e_c, Nat.reduceEqDiff, ↓reduceIte, reduceCtorEq, Nat.reduceAdd]; congr 1; omega
        · rw [hx3.2 0 l0 (by omega), r0]
        · rw [hx3.2 1 l1 (by omega), r1]
        · rw [hx3.2 D lD hDQ, rD]
        · have e : (((Dg.trial q x0 (t + 1)).1 : Nat) : Int) = 2 * (X : Int) + 1 := by rw [hnext]; show ((2 * X + 1 : Nat) : Int) = _; omega
          rw [row_set0 (by rw [List.length_append]; omega), e]; rfl
        · rw [hnext]; simp only [e_upd, e_putS, e_putN, e_t, e_c, Nat.reduceEqDiff, ↓reduceIte, reduceCtorEq, Nat.reduceAdd]; exact hw3
      · have hcmp : Dg.cmpI (Y : Int) ((q * 2 ^ k : Nat) : Int) < 0 := by
          unfold Dg.cmpI; rw [if_pos (by omega)]; omega
        rw [if_neg hge] at hnext
        simp (disch := omega) only [sN, ↓reduceIte, Nat.reduceEqDiff, Nat.reduceAdd, Nat.reduceMul, Nat.reduceSub, reduceCtorEq, e_none, e_some, e_bindS, h0, h6, h8, h11, h12]
        refine loop_keep (m := 8 - (t + 1)) (by omega) ⟨t + 1, rr, rfl, by omega, ?_, ?_, ?_, ?_, ?_, ?_, ?_, ?_, ?_, hdbl.ext hx1, ?_, hrQ⟩
        · simp only [e_upd, e_putS, e_putN, e_t, e_c, Nat.reduceEqDiff, ↓reduceIte, reduceCtorEq, Nat.reduceAdd, h0]
        · simp only [e_upd, e_putS, e_putN, e_t, e_c, Nat.reduceEqDiff, ↓reduceIte, reduceCtorEq, Nat.reduceAdd, h6]
        · simp only [e_upd, e_putS, e_putN, e_t, e_c, Nat.reduceEqDiff, ↓reduceIte, reduceCtorEq, Nat.reduceAdd, h8]
        · simp only [e_upd, e_putS, e_putN, e_t, e_c, Nat.reduceEqDiff, ↓reduceIte, reduceCtorEq, Nat.reduceAdd, h11]
        · simp only [e_upd, e_putS, e_putN, e_t, e_c, Nat.reduceEqDiff, ↓reduceIte, reduceCtorEq, Nat.reduceAdd]; congr 1; omega
        · rw [hx1.2 0 l0 (by omega), r0]
        · rw [hx1.2 1 l1 (by omega), r1]
        · rw [rD1]
        · have e : (((Dg.trial q x0 (t + 1)).1 : Nat) : Int) = 2 * (X : Int) := by rw [hnext]; show ((2 * X : Nat) : Int) = _; omega
          rw [rQ1, e]; rfl
        · rw [hnext]; simp only [e_upd, e_putS, e_putN, e_t, e_c, Nat.reduceEqDiff, ↓reduceIte, reduceCtorEq, Nat.reduceAdd]; exact hr.ext hx1 hrQ
    · obtain rfl : t = 8 := by omega
      have h12' : s 12 = .int .i64 (-1) := h12
      simp (disch := omega) only [sN, ↓reduceIte, Nat.reduceEqDiff, Nat.reduceAdd, Nat.reduceMul, Nat.reduceSub, reduceCtorEq, e_none, e_some, e_bindS, h0, h6, h8, h11, h12']
      refine loop_keep (m := j) (by omega) ⟨j, rr, rfl, by omega, ?_, ?_, ?_, ?_, r0, r1, rD, ?_, hdbl, ?_, hrQ⟩
      · simp only [e_upd, e_putS, e_putN, e_t, e_c, Nat.reduceEqDiff, ↓reduceIte, reduceCtorEq, Nat.reduceAdd, h0]
      · simp only [e_upd, e_putS, e_putN, e_t, e_c, Nat.reduceEqDiff, ↓reduceIte, reduceCtorEq, Nat.reduceAdd, h6]
      · simp only [e_upd, e_putS, e_putN, e_t, e_c, Nat.reduceEqDiff, ↓reduceIte, reduceCtorEq, Nat.reduceAdd, h8]
      · simp only [e_upd, e_putS, e_putN, e_t, e_c, Nat.reduceEqDiff, ↓reduceIte, reduceCtorEq, Nat.reduceAdd]
      · rw [rQ, hte.1, ← hqd, Dg.ql_set (by omega)]
      · rw [hmm, ← hte.2.1]; simp only [e_upd, e_putS, e_putN, e_t, e_c, Nat.reduceEqDiff, ↓reduceIte, reduceCtorEq, Nat.reduceAdd]; exact hr
end Go.Proofs.Ythbhljolpnbdlaa.S1



/- Contracts: the reference's row of binomial numbers. -/
-- NEWSET
namespace Go.Proofs.Ythbhljolpnbdlaa.S1
open Go Go.Vh

section
variable {K : St → AHeap → Prop} {d : Option Nat} {s : St} {H : AHeap}
theorem call_small0 {n : Nat} (hn : n ≤ 9223372036854775807) (hK : ∀ w row, row.own = true → row.cells.all AV.flat = true → AtD (H ++ [some row]) w n H.length → w.cell = true → K (putI d s w) (H ++ [some row])) : thenC0 Try.prog K d s H [.int .i64 (n : Int)] (.func 140 []) := by
  refine call_do0 (rsmall_calls n hn) [] rfl rfl rfl rfl rfl trivial ?_
  rintro v new ⟨κ2, row, q1, rfl, rfl, q4, q5, q6⟩
  rw [m_merge, m_nil, n_mkS0 (r' := H.length) (by simp [sig]), show ([] ++ [some row] : AHeap).drop ([] : AHeap).length = [some row] from rfl, List.map_cons, List.map_nil, flat_row q6 q4]
  exact hK _ row q4 q6 ⟨κ2, row, q1, by simp, by simp [Vh.rowAt], q5⟩ mkS_cell
/-- A quotient. -/
theorem call_div {x y : Nat} {u v : AV} {a b : Nat} (hy0 : 0 < y) (hx : (Dg.dg x).length ≤ 10000) (hy : (Dg.dg y).length ≤ 10000) (hu : AtD H u x a) (hv : AtD H v y b)
    (hK : ∀ w v2 row, row.own = true → row.cells.all AV.flat = true → AtD (H ++ [some row]) w (x / y) H.length → w.cell = true → K (putI d s (.tuple [w, v2])) (H ++ [some row])) : thenC Try.prog K d s H [u, v] (.func 141 []) := by
  obtain ⟨κ, ra, h1, rfl, h3, h4⟩ := hu
  obtain ⟨κ', rb, k1, rfl, k3, k4⟩ := hv
  refine call_cc (da := 0) (db := 0) (rest := []) (rdivide_calls κ κ' x y hy0 h1 k1 hx hy) ints_flat ints_flat rfl h3 k3 (by rw [ints_length, Nat.zero_add]; exact AtD.len (H := H) (v := .any) (r := 0) h4) (by rw [ints_length, Nat.zero_add]; exact AtD.len (H := H) (v := .any) (r := 0) k4) (by rw [List.drop_zero, ints_length, h4]) (by rw [List.drop_zero, ints_length, k4]) rfl ?_
  rintro v0 H0' ⟨κ2, v2, row, q1, rfl, rfl, q4, q5, q6⟩
  rw [n_tuple, n_lcons, n_lcons, n_lnil, n_mkS0 (r' := H.length) (by simp [sig]), show ([ro (ints .i64 (Dg.dg x)), ro (ints .i64 (Dg.dg y))] ++ [some row]).drop 2 = [some row] from rfl, List.map_cons, List.map_nil, flat_row q6 q4]
  exact hK _ _ row q4 q6 ⟨κ2, row, q1, rfl, by simp [Vh.rowAt], q5⟩ mkS_cell
end

/-- Some of a row's numbers. -/
def RowN (H : AHeap) (n k D : Nat) (cells : List AV) : Prop := cells.length = k ∧ ∀ j, j < k → ∃ c r, cells[j]? = some c ∧ c.cell = true ∧ AtD H c (cnk n j) r ∧ r ≠ D
theorem pow2_le {n m : Nat} (h : n ≤ 8 * m) : 2 ^ n ≤ 256 ^ m := by
  have h1 : 2 ^ n ≤ 2 ^ (8 * m) := Nat.pow_le_pow_right (by omega) h
  rw [Nat.pow_mul] at h1
  exact h1
/-- A bound of all binomial numbers here. -/
theorem big_ex : ∃ B : Nat, 0 < B ∧ (∀ x, x ≤ B * 513 → (Dg.dg x).length ≤ 66) ∧ ∀ n k, n ≤ 512 → cnk n k ≤ B := by
  refine ⟨256 ^ 64, Nat.pow_pos (by omega), fun x h => ?_, fun n k hn => ?_⟩
  · refine Dg.dg_len_le (Nat.lt_of_le_of_lt h ?_)
    rw [show 66 = 64 + 2 from rfl, Nat.pow_add 256 64 2]
    have hp : 0 < 256 ^ 64 := Nat.pow_pos (by omega)
    exact Nat.mul_lt_mul_of_pos_left (by omega) hp
  · refine Nat.le_trans (cnk_le n k) ?_
    exact pow2_le (m := 64) (by omega)

end Go.Proofs.Ythbhljolpnbdlaa.S1



/- Contracts: the reference's long division, quotient and remainder: the walk. -/
-- NEWSET
namespace Go.Proofs.Ythbhljolpnbdlaa.S1
open Go Go.Vh

/-- The digits of n lie in the row r, which is flat. -/
def AtF (H : AHeap) (v : AV) (n r : Nat) : Prop := ∃ κ row, okS κ (Dg.dg n).length ∧ v = mkS κ r 0 (Dg.dg n).length ∧ Vh.rowAt H r = some row ∧ row.cells.take (Dg.dg n).length = ints .i64 (Dg.dg n) ∧ row.own = true ∧ row.cells.all AV.flat = true
theorem AtF.at {H : AHeap} {v : AV} {n r : Nat} (h : AtF H v n r) : AtD H v n r := by
  obtain ⟨κ, row, h1, h2, h3, h4, _⟩ := h; exact ⟨κ, row, h1, h2, h3, h4⟩
theorem AtF.ext {H H' : AHeap} {v : AV} {n r Q : Nat} (h : AtF H v n r) (he : Ext H H' Q) (hq : r ≠ Q) : AtF H' v n r := by
  have hl := h.at.lt
  obtain ⟨κ, row, h1, h2, h3, h4, h5⟩ := h; exact ⟨κ, row, h1, h2, by rw [he.2 r hl hq, h3], h4, h5⟩
theorem AtD.flat {H : AHeap} {v : AV} {n r : Nat} {row : ARow} (h : AtD H v n r) (hr : Vh.rowAt H r = some row) (ho : row.own = true) (hf : row.cells.all AV.flat = true) : AtF H v n r := by
  obtain ⟨κ, row', h1, h2, h3, h4⟩ := h
  rw [hr] at h3; cases h3
  exact ⟨κ, row, h1, h2, hr, h4, ho, hf⟩
end Go.Proofs.Ythbhljolpnbdlaa.S1



/- Texts of code of this program, checked against its dump. -/
namespace Go.Proofs.Ythbhljolpnbdlaa.S1
open Go Go.Vh
def ir_rways : IR := (.seq (.ops [⟨(some 8), none, (.pure (.move (.c .nilslice)))⟩]) (.seq (.ops [⟨(some 13), none, (.pure (.move (.t 1)))⟩, ⟨(some 14), none, (.call (.c (.func 120 [])) [(.t 13)])⟩, ⟨(some 9), none, (.pure (.move (.t 14)))⟩]) (.seq (.ops [⟨(some 15), none, (.pure (.move (.t 0)))⟩, ⟨(some 16), none, (.pure (.move (.t 1)))⟩, ⟨(some 17), none, (.pure (.bin .sub (.t 15) (.t 16)))⟩, ⟨(some 18), none, (.call (.c (.func 120 [])) [(.t 17)])⟩, ⟨(some 10), none, (.pure (.move (.t 18)))⟩]) (.seq (.ops [⟨(some 11), none, (.pure (.move (.c .nilslice)))⟩]) (.seq (.seq (.ops [⟨(some 12), none, (.pure (.move (.c (.int .i64 0))))⟩]) (.block 0 (.loop (.seq (.seq (.ops [⟨(some 19), none, (.pure (.move (.t 12)))⟩, ⟨(some 20), none, (.pure (.move (.t 3)))⟩, ⟨(some 21), none, (.pure (.bin .leq (.t 19) (.t 20)))⟩, ⟨(some 22), none, (.pure (.move (.t 21)))⟩, ⟨(some 23), (some (22, true)), (.pure (.move (.t 12)))⟩, ⟨(some 24), (some (22, true)), (.pure (.move (.t 1)))⟩, ⟨(some 25), (some (22, true)), (.pure (.bin .leq (.t 23) (.t 24)))⟩, ⟨(some 26), none, (.pure (.pick (.t 22) (.t 25) (.c (.bool false))))⟩, ⟨(some 27), none, (.pure (.move (.t 26)))⟩, ⟨(some 28), (some (27, true)), (.pure (.move (.t 12)))⟩, ⟨(some 29), (some (27, true)), (.pure (.move (.t 2)))⟩, ⟨(some 30), (some (27, true)), (.pure (.bin .leq (.t 28) (.t 29)))⟩, ⟨(some 31), none, (.pure (.pick (.t 27) (.t 30) (.c (.bool false))))⟩]) (.cond (.t 31) .skip (.exit 0))) (.seq (.block 1 (.seq (.ops [⟨(some 34), none, (.pure (.move (.t 2)))⟩, ⟨(some 35), none, (.pure (.move (.t 12)))⟩, ⟨(some 36), none, (.pure (.bin .sub (.t 34) (.t 35)))⟩, ⟨(some 37), none, (.pure (.move (.t 0)))⟩, ⟨(some 38), none, (.pure (.move (.t 1)))⟩, ⟨(some 39), none, (.pure (.bin .sub (.t 37) (.t 38)))⟩, ⟨(some 40), none, (.pure (.bin .leq (.t 36) (.t 39)))⟩]) (.cond (.t 40) (.dops [⟨⟨(some 41), none, (.pure (.move (.t 11)))⟩, 0, 0⟩, ⟨⟨(some 42), none, (.pure (.move (.t 9)))⟩, 1, 0⟩, ⟨⟨(some 43), none, (.pure (.move (.t 12)))⟩, 2, 0⟩, ⟨⟨(some 44), none, (.pure (.indexAddr 1 (.t 42) (.t 43)))⟩, 3, 0⟩, ⟨⟨(some 45), none, (.eff (.load1 (.t 44)))⟩, 4, 1⟩, ⟨⟨(some 46), none, (.pure (.move (.t 10)))⟩, 5, 0⟩, ⟨⟨(some 47), none, (.pure (.move (.t 2)))⟩, 6, 0⟩, ⟨⟨(some 48), none, (.pure (.move (.t 12)))⟩, 7, 0⟩, ⟨⟨(some 49), none, (.pure (.bin .sub (.t 47) (.t 48)))⟩, 8, 0⟩, ⟨⟨(some 50), none, (.pure (.indexAddr 1 (.t 46) (.t 49)))⟩, 9, 0⟩, ⟨⟨(some 51), none, (.eff (.load1 (.t 50)))⟩, 10, 1⟩, ⟨⟨(some 52), none, (.call (.c (.func 119 [])) [(.t 45), (.t 51)])⟩, 11, 3⟩, ⟨⟨(some 53), none, (.call (.c (.func 142 [])) [(.t 41), (.t 52)])⟩, 12, 3⟩, ⟨⟨(some 11), none, (.pure (.move (.t 53)))⟩, 13, 0⟩]) .skip))) (.ops [⟨(some 32), none, (.pure (.move (.t 12)))⟩, ⟨(some 33), none, (.pure (.bin .add (.t 32) (.c (.int .i64 1))))⟩, ⟨(some 12), none, (.pure (.move (.t 33)))⟩])))))) (.seq (.ops [⟨(some 54), none, (.pure (.move (.t 11)))⟩, ⟨(some 8), none, (.pure (.move (.t 54)))⟩]) .ret))))))
def rs_rways : List IRes := [(.tmp 8)]
theorem ir_rways_ok : (Func.body Try.f121).bind (irOf Try.prog Try.f121.ntmps) = some ir_rways := by kernel_rfl
theorem rs_rways_ok : Try.f121.results.toList.mapM (resOf Try.prog) = some rs_rways := by kernel_rfl
theorem ent_rways : enters Try.prog 121 = true := by kernel_rfl

end Go.Proofs.Ythbhljolpnbdlaa.S1



/- Contracts: the reference's greatest common divisor. -/
-- NEWSET
namespace Go.Proofs.Ythbhljolpnbdlaa.S1
open Go Go.Vh

section
variable {K : St → AHeap → Prop} {d : Option Nat} {s : St} {H : AHeap}
end

end Go.Proofs.Ythbhljolpnbdlaa.S1


