/- Contracts: the reference's row of binomial numbers. -/
import Derived.Test.YtpkeneadkiabiaaDoorVX
import Derived.Test.YtpkeneadkiabiaaDoorEB
import Derived.Test.YtpkeneadkiabiaaDoorCD
set_option linter.unusedSimpArgs false
set_option linter.unusedVariables false
-- NEWSET
namespace Go.Proofs.YtpkeneadkiabiaaDoor
open Go Go.Vh

section
variable {K : St → AHeap → Prop} {d : Option Nat} {s : St} {H : AHeap}
theorem call_small0 {n : Nat} (hn : n ≤ 9223372036854775807) (hK : ∀ w row, row.own = true → row.cells.all AV.flat = true → AtD (H ++ [some row]) w n H.length → w.cell = true → K (putI d s w) (H ++ [some row])) : thenC0 Tryd.prog K d s H [.int .i64 (n : Int)] (.func 109 []) := by
  refine call_do0 (rsmall_calls n hn) [] rfl rfl rfl rfl rfl trivial ?_
  rintro v new ⟨κ2, row, q1, rfl, rfl, q4, q5, q6⟩
  rw [m_merge, m_nil, n_mkS0 (r' := H.length) (by simp [sig]), show ([] ++ [some row] : AHeap).drop ([] : AHeap).length = [some row] from rfl, List.map_cons, List.map_nil, flat_row q6 q4]
  exact hK _ row q4 q6 ⟨κ2, row, q1, by simp, by simp [Vh.rowAt], q5⟩ mkS_cell
/-- A quotient. -/
theorem call_div {x y : Nat} {u v : AV} {a b : Nat} (hy0 : 0 < y) (hx : (Dg.dg x).length ≤ 10000) (hy : (Dg.dg y).length ≤ 10000) (hu : AtD H u x a) (hv : AtD H v y b)
    (hK : ∀ w v2 row, row.own = true → row.cells.all AV.flat = true → AtD (H ++ [some row]) w (x / y) H.length → w.cell = true → K (putI d s (.tuple [w, v2])) (H ++ [some row])) : thenC Tryd.prog K d s H [u, v] (.func 121 []) := by
  obtain ⟨κ, ra, h1, rfl, h3, h4⟩ := hu
  obtain ⟨κ', rb, k1, rfl, k3, k4⟩ := hv
  refine call_cc (da := 0) (db := 0) (rest := []) (rdivide_calls κ κ' x y hy0 h1 k1 hx hy) ints_flat ints_flat rfl h3 k3 (by rw [ints_length, Nat.zero_add]; exact AtD.len (H := H) (v := .any) (r := 0) h4) (by rw [ints_length, Nat.zero_add]; exact AtD.len (H := H) (v := .any) (r := 0) k4) (by rw [List.drop_zero, ints_length, h4]) (by rw [List.drop_zero, ints_length, k4]) rfl ?_
  rintro v0 H0' ⟨κ2, v2, row, q1, rfl, rfl, q4, q5, q6⟩
  rw [n_tuple, n_lcons, n_lcons, n_lnil, n_mkS0 (r' := H.length) (by simp [sig]), show ([ro (ints .i64 (Dg.dg x)), ro (ints .i64 (Dg.dg y))] ++ [some row]).drop 2 = [some row] from rfl, List.map_cons, List.map_nil, flat_row q6 q4]
  exact hK _ _ row q4 q6 ⟨κ2, row, q1, rfl, by simp [Vh.rowAt], q5⟩ mkS_cell
end

/-- Some of a row's numbers. -/
def RowN (H : AHeap) (n k D : Nat) (cells : List AV) : Prop := cells.length = k ∧ ∀ j, j < k → ∃ c r, cells[j]? = some c ∧ c.cell = true ∧ AtD H c (cnk n j) r ∧ r ≠ D
theorem pow2_le {n m : Nat} (h : n ≤ 8 * m) : 2 ^ n ≤ 256 ^ m := by
  have h1 : 2 ^ n ≤ 2 ^ (8 * m) := Nat.pow_le_pow_right (by omega) h
  rw [Nat.pow_mul] at h1
  exact h1
/-- A bound of all binomial numbers here. -/
theorem big_ex : ∃ B : Nat, 0 < B ∧ (∀ x, x ≤ B * 513 → (Dg.dg x).length ≤ 66) ∧ ∀ n k, n ≤ 512 → cnk n k ≤ B := by
  refine ⟨256 ^ 64, Nat.pow_pos (by omega), fun x h => ?_, fun n k hn => ?_⟩
  · refine Dg.dg_len_le (Nat.lt_of_le_of_lt h ?_)
    rw [show 66 = 64 + 2 from rfl, Nat.pow_add 256 64 2]
    have hp : 0 < 256 ^ 64 := Nat.pow_pos (by omega)
    exact Nat.mul_lt_mul_of_pos_left (by omega) hp
  · refine Nat.le_trans (cnk_le n k) ?_
    exact pow2_le (m := 64) (by omega)

set_option maxHeartbeats 1000000 in
theorem rrow_calls (n : Nat) (hn : n ≤ 512) : ACalls Tryd.prog 97 [.int .i64 (n : Int)] [] (List.range 0) fun v H => ∃ D cells, v = dblS D (n + 1) ∧ Vh.rowAt H D = some ⟨true, decide (n + 1 ≠ 1), cells⟩ ∧ RowN H n (n + 1) D cells := by
  refine ACalls.body Tryd.func97 ent_rrow ir_rrow_ok rs_rrow_ok Tryd.ntmps97 (by simp) rfl ?_
  unfold ir_rrow
  have e0 : s0 [.int .i64 (n : Int)] 0 = .int .i64 n := rfl
  obtain ⟨big, hbig, len66, cnk_small⟩ := big_ex
  have few_big : ∀ x, x ≤ 513 → x ≤ big * 513 := fun x h => Nat.le_trans h (Nat.le_mul_of_pos_left _ hbig)
  simp (disch := omega) only [sN, ↓reduceIte, Nat.reduceEqDiff, Nat.reduceAdd, Nat.reduceMul, Nat.reduceSub, reduceCtorEq, e_none, e_some, e_bindS, e0]
  refine call_small (n := 1) (by omega) ?_
  intro w row ho hfl hw hwc
  simp (disch := omega) only [sN, ↓reduceIte, Nat.reduceEqDiff, Nat.reduceAdd, Nat.reduceMul, Nat.reduceSub, reduceCtorEq, e_none, e_some, e_bindS, e0]
  rw [x_bs1 (v := w) (by simp only [e_upd, e_putS, e_putN, e_t, e_c, Nat.reduceEqDiff, ↓reduceIte, reduceCtorEq, Nat.reduceAdd]) hwc]
  simp (disch := omega) only [sN, ↓reduceIte, Nat.reduceEqDiff, Nat.reduceAdd, Nat.reduceMul, Nat.reduceSub, reduceCtorEq, e_none, e_some, e_bindS, e0]
  refine ⟨fun m s H => ∃ (k D : Nat) (cells : List AV), m = n + 1 - k ∧ 1 ≤ k ∧ k ≤ n + 1 ∧ s 0 = .int .i64 (n : Int) ∧ s 3 = dblS D k ∧ s 4 = .int .i64 (k : Int) ∧ Vh.rowAt H D = some ⟨true, decide (k ≠ 1), cells⟩ ∧ RowN H n k D cells, n, ⟨1, 1, [w], by omega, by omega, by omega, ?_, ?_, ?_, rfl, rfl, ?_⟩, ?_⟩
  · simp only [e_upd, e_putS, e_putN, e_t, e_c, Nat.reduceEqDiff, ↓reduceIte, reduceCtorEq, Nat.reduceAdd, e0]
  · simp only [e_upd, e_putS, e_putN, e_t, e_c, Nat.reduceEqDiff, ↓reduceIte, reduceCtorEq, Nat.reduceAdd]; try rfl
  · simp only [e_upd, e_putS, e_putN, e_t, e_c, Nat.reduceEqDiff, ↓reduceIte, reduceCtorEq, Nat.reduceAdd]; try rfl
  · intro j hj
    obtain rfl : j = 0 := by omega
    exact ⟨w, 0, rfl, hwc, by rw [cnk_zero]; exact hw.keep rfl, by omega⟩
  clear hw hwc hfl ho w row
  rintro m s H ⟨k, D, cells, rfl, hk1, hkn, h0, h3, h4, rD, hrow⟩
  have lD := row_lt rD
  by_cases hlt : (k : Int) ≤ (n : Int)
  · obtain ⟨c, rc, hc1, hc2, hc3, hc4⟩ := hrow.2 (k - 1) (by omega)
    have hkI : (k : Int) - 1 = ((k - 1 : Nat) : Int) := by omega
    have hnI : (n : Int) - (k : Int) + 1 = ((n - (k - 1) : Nat) : Int) := by omega
    have hi := dblS_idx (D := D) (k := k) (j := k - 1) (by omega)
    have hcs := cnk_small n (k - 1) hn
    have hdiv : cnk n (k - 1) * (n - (k - 1)) / k = cnk n k := by
      have := cnk_next n (k - 1) (by omega)
      rw [show k - 1 + 1 = k by omega] at this
      rw [Nat.mul_comm, ← this]
      exact Nat.mul_div_cancel_left _ (by omega)
    have hpl : cnk n (k - 1) * (n - (k - 1)) ≤ big * 513 := Nat.mul_le_mul hcs (by omega)
    have hp1 : n - (k - 1) ≤ big * 513 := few_big _ (by omega)
    have hp2 : k ≤ big * 513 := few_big _ (by omega)
    have hp3 : cnk n (k - 1) ≤ big * 513 := Nat.le_trans hcs (Nat.le_mul_of_pos_right _ (by omega))
    simp (disch := omega) only [sN, ↓reduceIte, Nat.reduceEqDiff, Nat.reduceAdd, Nat.reduceMul, Nat.reduceSub, reduceCtorEq, e_none, e_some, e_bindS, h0, h3, h4, hkI, hnI, hi, rD, hc1, Option.bind_some, Option.map_some]
    refine call_small0 (n := n - (k - 1)) (by omega) ?_
    intro w1 row1 o1 f1 a1 c1
    simp (disch := omega) only [sN, ↓reduceIte, Nat.reduceEqDiff, Nat.reduceAdd, Nat.reduceMul, Nat.reduceSub, reduceCtorEq, e_none, e_some, e_bindS, h0, h3, h4]
    have hc3' : AtD (H ++ [some row1]) c (cnk n (k - 1)) rc := hc3.keep (row_left hc3.lt)
    refine call_mul (Nat.le_trans (len66 _ hp3) (by omega)) (Nat.le_trans (len66 _ hp1) (by omega)) hc3' a1 ?_
    intro w2 row2 o2 f2 a2 c2
    simp (disch := omega) only [sN, ↓reduceIte, Nat.reduceEqDiff, Nat.reduceAdd, Nat.reduceMul, Nat.reduceSub, reduceCtorEq, e_none, e_some, e_bindS, h0, h3, h4]
    refine call_small (n := k) (by omega) ?_
    intro w3 row3 o3 f3 a3 c3
    simp (disch := omega) only [sN, ↓reduceIte, Nat.reduceEqDiff, Nat.reduceAdd, Nat.reduceMul, Nat.reduceSub, reduceCtorEq, e_none, e_some, e_bindS, h0, h3, h4]
    have a2' : AtD (H ++ [some row1] ++ [some row2] ++ [some row3]) w2 (cnk n (k - 1) * (n - (k - 1))) (H ++ [some row1]).length := a2.keep (row_left a2.lt)
    refine call_div (by omega) (Nat.le_trans (len66 _ hpl) (by omega)) (Nat.le_trans (len66 _ hp2) (by omega)) a2' a3 ?_
    intro w4 v4 row4 o4 f4 a4 c4
    rw [hdiv] at a4
    simp (disch := omega) only [sN, ↓reduceIte, Nat.reduceEqDiff, Nat.reduceAdd, Nat.reduceMul, Nat.reduceSub, reduceCtorEq, e_none, e_some, e_bindS, h0, h3, h4, List.getElem?_cons_zero, List.getElem?_cons_succ]
    rw [x_bs1 (v := w4) (by simp only [e_upd, e_putS, e_putN, e_t, e_c, Nat.reduceEqDiff, ↓reduceIte, reduceCtorEq, Nat.reduceAdd]) c4]
    simp (disch := omega) only [sN, ↓reduceIte, Nat.reduceEqDiff, Nat.reduceAdd, Nat.reduceMul, Nat.reduceSub, reduceCtorEq, e_none, e_some, e_bindS, h0, h3, h4]
    obtain ⟨H4, hH4⟩ : ∃ H4, H4 = H ++ [some row1] ++ [some row2] ++ [some row3] ++ [some row4] := ⟨_, rfl⟩
    have hx4 : Ext H H4 D := by rw [hH4]; exact ((Ext.app.trans Ext.app).trans Ext.app).trans Ext.app
    have hl4 : H4.length = H.length + 4 := by rw [hH4]; simp
    have hl3 : (H ++ [some row1] ++ [some row2] ++ [some row3]).length = H.length + 3 := by simp
    rw [hl3, ← hH4] at a4
    rw [← hH4]
    have hall : cells.all AV.cell = true := by
      rw [List.all_eq_true]
      intro x hx
      obtain ⟨j, hj⟩ := List.getElem?_of_mem hx
      have hjl := (List.getElem?_eq_some_iff.1 hj).1
      obtain ⟨c', _, g1, g2, _⟩ := hrow.2 j (by rw [← hrow.1]; exact hjl)
      rw [g1] at hj; cases hj; exact g2
    obtain ⟨H1, hH1⟩ : ∃ H1, H1 = H4 ++ [rw_ [w4]] := ⟨_, rfl⟩
    have hx1 : Ext H H1 D := by rw [hH1]; exact hx4.trans Ext.app
    have hl1 : H1.length = H.length + 5 := by rw [hH1]; simp [hl4]
    have eD : Vh.rowAt H1 D = some ⟨true, decide (k ≠ 1), cells⟩ := by
      have : Vh.rowAt H4 D = Vh.rowAt H D := by rw [hH4, row_left (by simp; omega), row_left (by simp; omega), row_left (by simp; omega), row_left lD]
      rw [hH1, row_left (by omega), this, rD]
    have eW : Vh.rowAt H1 H4.length = some ⟨true, false, [w4]⟩ := by rw [hH1]; simp [Vh.rowAt, rw_]
    have a1' : AtD H1 w4 (cnk n k) (H.length + 3) := by rw [hH1]; exact a4.keep (row_left a4.lt)
    rw [← hH1]
    rw [x_appD (D := D) (k := k) (r := H4.length) (cells := cells) (c := w4) (by simp only [e_upd, e_putS, e_putN, e_t, e_c, Nat.reduceEqDiff, ↓reduceIte, reduceCtorEq, Nat.reduceAdd, h3]) (by simp only [e_upd, e_putS, e_putN, e_t, e_c, Nat.reduceEqDiff, ↓reduceIte, reduceCtorEq, Nat.reduceAdd]) eD hrow.1 hk1 (by omega) eW c4 hall]
    obtain ⟨H2, hH2⟩ : ∃ H2, H2 = (if k = 1 then H1 else H1.set D none) := ⟨_, rfl⟩
    have hx2 : Ext H1 H2 D := by rw [hH2]; split; exact Ext.refl; exact Ext.set
    have hl2 : H2.length = H1.length := by rw [hH2]; split <;> simp
    rw [← hH2]
    have hx3 : Ext H1 (H2 ++ [sl (cells ++ [w4])]) D := hx2.trans Ext.app
    simp (disch := omega) only [sN, ↓reduceIte, Nat.reduceEqDiff, Nat.reduceAdd, Nat.reduceMul, Nat.reduceSub, reduceCtorEq, e_none, e_some, e_bindS, h0, h3, h4]
    refine loop_keep (m := n + 1 - (k + 1)) (by omega) ⟨k + 1, H1.length, cells ++ [w4], rfl, by omega, by omega, ?_, ?_, ?_, ?_, ?_⟩
    · simp only [e_upd, e_putS, e_putN, e_t, e_c, Nat.reduceEqDiff, ↓reduceIte, reduceCtorEq, Nat.reduceAdd, h0]
    · simp only [e_upd, e_putS, e_putN, e_t, e_c, Nat.reduceEqDiff, ↓reduceIte, reduceCtorEq, Nat.reduceAdd]
    · simp only [e_upd, e_putS, e_putN, e_t, e_c, Nat.reduceEqDiff, ↓reduceIte, reduceCtorEq, Nat.reduceAdd]; rfl
    · rw [← hl2]; simp [Vh.rowAt, sl]; omega
    · refine ⟨by rw [List.length_append, hrow.1]; rfl, fun j hj => ?_⟩
      by_cases hjk : j < k
      · obtain ⟨c', rc', g1, g2, g3, g4⟩ := hrow.2 j hjk
        have := g3.lt
        exact ⟨c', rc', by rw [List.getElem?_append_left (by rw [hrow.1]; exact hjk), g1], g2, (g3.ext hx1 g4).ext hx3 g4, by omega⟩
      · obtain rfl : j = k := by omega
        exact ⟨w4, H.length + 3, by rw [List.getElem?_append_right (by rw [hrow.1]; omega), hrow.1, Nat.sub_self]; rfl, c4, a1'.ext hx3 (by omega), by omega⟩
  obtain rfl : k = n + 1 := by omega
  simp (disch := omega) only [sN, ↓reduceIte, Nat.reduceEqDiff, Nat.reduceAdd, Nat.reduceMul, Nat.reduceSub, reduceCtorEq, e_none, e_some, e_bindS, h0, h3, h4]
  refine ret_keep (by simp) ?_
  unfold rs_rrow; rw [q_tmp, q_then]
  exact ⟨D, cells, by simp only [e_upd, e_putS, e_putN, e_t, e_c, Nat.reduceEqDiff, ↓reduceIte, reduceCtorEq, Nat.reduceAdd, h3], rD, hrow⟩
end Go.Proofs.YtpkeneadkiabiaaDoor

/- Contracts: the reference's binomial numbers and balls. -/
-- NEWSET
namespace Go.Proofs.YtpkeneadkiabiaaDoor
open Go Go.Vh

theorem pv4 (d : List Int) (b : Nat) : pv d b 4 = d.getD b 0 + 256 * d.getD (b + 1) 0 + 65536 * d.getD (b + 2) 0 + 16777216 * d.getD (b + 3) 0 := by
  simp only [pv, Nat.reduceSub, Nat.sub_zero, Nat.add_zero]
  omega
theorem bb_db (k : Nat) : BB ^ k = Dg.DB ^ (4 * k) := by
  rw [Int.pow_mul]; rfl
theorem nat_nv (d : List Int) (m : Nat) : ∀ k, k ≤ m → nv (natL d m) k = Dg.nv d (4 * k)
  | 0, _ => rfl
  | k + 1, h => by
    have ih := nat_nv d m k (by omega)
    have e : (natL d m).getD k 0 = pv d (4 * k) 4 := by simp [natL, show k < m by omega]
    rw [nv, ih, e, pv4, bb_db, show 4 * (k + 1) = 4 * k + 1 + 1 + 1 + 1 by omega, Dg.nv, Dg.nv, Dg.nv, Dg.nv]
    have e1 : Dg.DB ^ (4 * k + 1) = 256 * Dg.DB ^ (4 * k) := by rw [Int.pow_succ, Int.mul_comm]; rfl
    have e2 : Dg.DB ^ (4 * k + 1 + 1) = 65536 * Dg.DB ^ (4 * k) := by rw [Int.pow_succ, e1, show Dg.DB = 256 from rfl]; omega
    have e3 : Dg.DB ^ (4 * k + 1 + 1 + 1) = 16777216 * Dg.DB ^ (4 * k) := by rw [Int.pow_succ, e2, show Dg.DB = 256 from rfl]; omega
    rw [e1, e2, e3, show 4 * k + 1 + 1 = 4 * k + 2 by omega, show 4 * k + 2 + 1 = 4 * k + 3 by omega]
    generalize Dg.DB ^ (4 * k) = w
    rw [Int.add_mul, Int.add_mul, Int.add_mul, Int.mul_comm 256 (d.getD (4 * k + 1) 0), Int.mul_comm 65536 (d.getD (4 * k + 2) 0), Int.mul_comm 16777216 (d.getD (4 * k + 3) 0), Int.mul_assoc, Int.mul_assoc, Int.mul_assoc]
    omega
/-- The limbs of a number to the base 256. -/
theorem new_nat (x : Nat) : NewNum x (upK (((Dg.dg x).length + 3) / 4)) (natL (Dg.dg x) (((Dg.dg x).length + 3) / 4)) ⟨true, true, ints .u32 (natL (Dg.dg x) (((Dg.dg x).length + 3) / 4))⟩ := by
  have hd := Dg.dg_dl x
  have hn := Dg.dg_num x
  have hlast := Dg.dg_last x
  generalize hdd : Dg.dg x = d at *
  obtain ⟨m, hm⟩ : ∃ m, m = (d.length + 3) / 4 := ⟨_, rfl⟩
  rw [← hm]
  have hl := natL_length d m
  refine ⟨by rw [hl]; unfold upK; split <;> simp_all [okS], fun i => ?_, ?_, ?_, rfl, by rw [← ints_length (k := .u32) (l := natL d m), List.take_length], ints_flat⟩
  · rcases Nat.lt_or_ge i m with h | h
    · have e : (natL d m).getD i 0 = pv d (4 * i) 4 := by simp [natL, h]
      rw [e]; exact pv_small hd (4 * i) 4 (Nat.le_refl _)
    · rw [List.getD_eq_getElem?_getD, List.getElem?_eq_none (by rw [hl]; exact h)]; simp
  · rw [hl]
    refine tz_uniq _ _ _ (Nat.le_refl _) (fun h0 => ?_) fun i h1 h2 => by omega
    have hx : 0 < x := by
      rcases Nat.eq_zero_or_pos x with h | h
      · subst h; rw [Dg.dg_zero] at hdd; subst hdd; simp at hm; omega
      · exact h
    have hz := hlast hx
    have e : (natL d m).getD (m - 1) 0 = pv d (4 * (m - 1)) 4 := by simp [natL, show m - 1 < m by omega]
    rw [e, pv4]
    have g0 := hd (4 * (m - 1))
    have g1 := hd (4 * (m - 1) + 1)
    have g2 := hd (4 * (m - 1) + 2)
    have g3 := hd (4 * (m - 1) + 3)
    rcases (show d.length - 1 = 4 * (m - 1) ∨ d.length - 1 = 4 * (m - 1) + 1 ∨ d.length - 1 = 4 * (m - 1) + 2 ∨ d.length - 1 = 4 * (m - 1) + 3 by omega) with h | h | h | h <;> rw [h] at hz <;> omega
  · simp only [num, hl]
    rw [nat_nv d m m (Nat.le_refl _), Dg.nv_long d (by omega)]
    exact hn

section
variable {K : St → AHeap → Prop} {d : Option Nat} {s : St} {H : AHeap}
/-- The number, out of its digits. -/
theorem call_nat {x a : Nat} {u : AV} (hx : (Dg.dg x).length ≤ 1000000) (hu : AtD H u x a) (h0 : x = 0 → K (putI d s .nilslice) H)
    (h1 : 0 < x → ∀ κ l row, NewNum x κ l row → K (putI d s (mkS κ H.length 0 l.length)) (H ++ [some row])) : thenC Tryd.prog K d s H [u] (.func 62 []) := by
  obtain ⟨κ, ra, k1, rfl, k3, k4⟩ := hu
  refine call_ints (κ := κ) (l := Dg.dg x) (r := a) (row := ra) (rnat_calls κ (Dg.dg x) k1 hx (Dg.dg_dl x)) rfl k3 k4 rfl ?_
  rintro v0 H0' ⟨rfl, rfl⟩
  have hnew := new_nat x
  rcases Nat.eq_zero_or_pos x with h | h
  · subst h
    have := h0 rfl
    rw [Dg.dg_zero]
    simpa [upK, mkS, AV.ren] using this
  · have hp : 0 < (Dg.dg x).length := by rw [Dg.dg_pos h]; simp
    rw [if_neg (by omega), show ([ro (ints .i64 (Dg.dg x)), sl (ints .u32 (natL (Dg.dg x) (((Dg.dg x).length + 3) / 4)))] : AHeap).drop 1 = [sl (ints .u32 (natL (Dg.dg x) (((Dg.dg x).length + 3) / 4)))] from rfl, List.map_cons, List.map_nil, m_renSl, ints_ren, n_mkS0 (r' := H.length) (by simp [sig])]
    have := h1 h _ _ _ hnew
    rw [natL_length] at this
    exact this
end

/-- A number of the reference, and an error's: nil, or in a new row. -/
def RefE (x e : Int) (v : AV) (H : AHeap) : Prop := (x = 0 ∧ v = .tuple [.nilslice, .int .i64 e] ∧ H = []) ∨ FreshE [] x e v H

theorem cnk_pos : ∀ n k, k ≤ n → 0 < cnk n k
  | _, 0, _ => by rw [cnk_zero]; omega
  | 0, k + 1, h => by omega
  | n + 1, k + 1, h => by
    have := cnk_pos n k (by omega)
    simp only [cnk]; omega
theorem gc_new {H : AHeap} {x : Int} {κ : SK} {l : List Int} {row : ARow} (h : NewNum x κ l row) : gcH [H.length] (H ++ [some row]) = [some row] ∧ (gcH [H.length] (H ++ [some row])).all (fun o => o.all fun row => row.cells.all AV.cell) = true := by
  have hr : Vh.rowAt (H ++ [some row]) H.length = some row := by simp [Vh.rowAt]
  have e : gcH [H.length] (H ++ [some row]) = [some row] := by
    simp only [gcH, List.map_cons, List.map_nil, hr, flatL_ren h.flat]
  exact ⟨e, by rw [e]; simpa using h.cell⟩

theorem rBinomial_calls (n k : Int) (hn0 : -9223372036854775808 ≤ n) (hn1 : n ≤ 9223372036854775807) (hk0 : -9223372036854775808 ≤ k) (hk1 : k ≤ 9223372036854775807) : ACalls Tryd.prog 40 [.int .i64 n, .int .i64 k] [] (List.range 0) (if 0 ≤ n ∧ n ≤ 512 then RefE (cI n k) 0 else RefE 0 3) := by
  refine ACalls.body Tryd.func40 ent_rBinomial ir_rBinomial_ok rs_rBinomial_ok Tryd.ntmps40 (by simp) rfl ?_
  unfold ir_rBinomial
  have e0 : s0 [.int .i64 n, .int .i64 k] 0 = .int .i64 n := rfl
  have e1 : s0 [.int .i64 n, .int .i64 k] 1 = .int .i64 k := rfl
  by_cases hr : 0 ≤ n ∧ n ≤ 512
  · rw [if_pos hr]
    obtain ⟨N, rfl⟩ : ∃ N : Nat, n = N := ⟨n.toNat, by omega⟩
    by_cases hk : 0 ≤ k ∧ k ≤ (N : Int)
    · obtain ⟨A, rfl⟩ : ∃ A : Nat, k = A := ⟨k.toNat, by omega⟩
      simp (disch := omega) only [sN, ↓reduceIte, Nat.reduceEqDiff, Nat.reduceAdd, Nat.reduceMul, Nat.reduceSub, reduceCtorEq, e_none, e_some, e_bindS, e0, e1]
      refine ⟨_, (rrow_calls N (by omega)).g.mono ?_⟩
      rintro v H' ⟨D, cells, rfl, rD, hrow⟩
      obtain ⟨c, rc, hc1, hc2, hc3, hc4⟩ := hrow.2 A (by omega)
      obtain ⟨big, hbig, len66, cnk_small⟩ := big_ex
      have hix := dblS_idx (D := D) (k := N + 1) (j := A) (by omega)
      simp (disch := omega) only [sN, ↓reduceIte, Nat.reduceEqDiff, Nat.reduceAdd, Nat.reduceMul, Nat.reduceSub, reduceCtorEq, e_none, e_some, e_bindS, e0, e1, hix, rD, hc1, Option.bind_some, Option.map_some]
      have hpos : 0 < cnk N A := cnk_pos N A (by omega)
      refine call_nat (Nat.le_trans (len66 _ (Nat.le_trans (cnk_small N A (by omega)) (Nat.le_mul_of_pos_right _ (by omega)))) (by omega)) hc3 (fun h => by omega) ?_
      intro _ κ l row hnew
      simp (disch := omega) only [sN, ↓reduceIte, Nat.reduceEqDiff, Nat.reduceAdd, Nat.reduceMul, Nat.reduceSub, reduceCtorEq, e_none, e_some, e_bindS]
      obtain ⟨g1, g2⟩ := gc_new (H := H') hnew
      refine ret_gc [H'.length] (by simp [gcOK]) g2 (by simp) ?_
      unfold rs_rBinomial; rw [q_tmp2, q_then, g1]
      have hc : cI (N : Int) (A : Int) = ((cnk N A : Nat) : Int) := by rw [cI, if_pos (by omega)]; simp
      rw [hc]
      refine .inr ⟨κ, l, row, ?_, rfl, hnew⟩
      simp only [gcS, e_upd, e_putS, e_putN, e_t, e_c, Nat.reduceEqDiff, ↓reduceIte, reduceCtorEq, Nat.reduceAdd, n_int]
      rw [n_mkS0 (r' := 0) (by simp [gcSig, List.idxOf?, List.findIdx?_cons])]
      rfl
    · have hc : cI (N : Int) k = 0 := by rw [cI, if_neg (by omega)]
      rw [hc]
      by_cases hk2 : k < 0
      · simp (disch := omega) only [sN, ↓reduceIte, Nat.reduceEqDiff, Nat.reduceAdd, Nat.reduceMul, Nat.reduceSub, reduceCtorEq, e_none, e_some, e_bindS, e0, e1]
        refine ret_keep (by simp) (.inl ⟨rfl, ?_, rfl⟩)
        simp only [e_upd, e_putS, e_putN, e_t, e_c, Nat.reduceEqDiff, ↓reduceIte, reduceCtorEq, Nat.reduceAdd]
      · simp (disch := omega) only [sN, ↓reduceIte, Nat.reduceEqDiff, Nat.reduceAdd, Nat.reduceMul, Nat.reduceSub, reduceCtorEq, e_none, e_some, e_bindS, e0, e1]
        refine ret_keep (by simp) (.inl ⟨rfl, ?_, rfl⟩)
        simp only [e_upd, e_putS, e_putN, e_t, e_c, Nat.reduceEqDiff, ↓reduceIte, reduceCtorEq, Nat.reduceAdd]
  · rw [if_neg hr]
    by_cases hneg : n < 0
    · simp (disch := omega) only [sN, ↓reduceIte, Nat.reduceEqDiff, Nat.reduceAdd, Nat.reduceMul, Nat.reduceSub, reduceCtorEq, e_none, e_some, e_bindS, e0, e1]
      refine ret_keep (by simp) (.inl ⟨rfl, ?_, rfl⟩)
      simp only [e_upd, e_putS, e_putN, e_t, e_c, Nat.reduceEqDiff, ↓reduceIte, reduceCtorEq, Nat.reduceAdd]
    · simp (disch := omega) only [sN, ↓reduceIte, Nat.reduceEqDiff, Nat.reduceAdd, Nat.reduceMul, Nat.reduceSub, reduceCtorEq, e_none, e_some, e_bindS, e0, e1]
      refine ret_keep (by simp) (.inl ⟨rfl, ?_, rfl⟩)
      simp only [e_upd, e_putS, e_putN, e_t, e_c, Nat.reduceEqDiff, ↓reduceIte, reduceCtorEq, Nat.reduceAdd]

theorem ball_over (n : Nat) : ∀ k, n ≤ k → ballN n k = ballN n n
  | 0, h => by obtain rfl : n = 0 := by omega
               rfl
  | k + 1, h => by
    rcases Nat.eq_or_lt_of_le h with e | e
    · rw [e]
    · simp only [ballN]
      rw [cnk_over n (k + 1) (by omega), ball_over n k (by omega)]
      rfl
theorem ball_big {B n : Nat} (hb : ∀ k, cnk n k ≤ B) : ∀ k, ballN n k ≤ B * (k + 1)
  | 0 => by simp only [ballN]; have := hb 0; omega
  | k + 1 => by
    have h1 := ball_big hb k
    have h2 := hb (k + 1)
    simp only [ballN]
    rw [Nat.mul_add B (k + 1) 1]; omega
/-- the sum of the first k of them -/
def sumN (n : Nat) : Nat → Nat
  | 0 => 0
  | k + 1 => ballN n k
theorem sumN_step (n k : Nat) : sumN n k + cnk n k = sumN n (k + 1) := by
  cases k with
  | zero => simp [sumN, ballN]
  | succ k => simp [sumN, ballN]

set_option maxHeartbeats 1000000 in
theorem rBall_calls (n t : Int) (hn0 : -9223372036854775808 ≤ n) (hn1 : n ≤ 9223372036854775807) (ht0 : -9223372036854775808 ≤ t) (ht1 : t ≤ 9223372036854775807) : ACalls Tryd.prog 42 [.int .i64 n, .int .i64 t] [] (List.range 0) (if 0 ≤ n ∧ n ≤ 512 then RefE (bI n t) 0 else RefE 0 3) := by
  refine ACalls.body Tryd.func42 ent_rBall ir_rBall_ok rs_rBall_ok Tryd.ntmps42 (by simp) rfl ?_
  unfold ir_rBall
  have e0 : s0 [.int .i64 n, .int .i64 t] 0 = .int .i64 n := rfl
  have e1 : s0 [.int .i64 n, .int .i64 t] 1 = .int .i64 t := rfl
  by_cases hr : 0 ≤ n ∧ n ≤ 512
  · rw [if_pos hr]
    obtain ⟨N, rfl⟩ : ∃ N : Nat, n = N := ⟨n.toNat, by omega⟩
    obtain ⟨big, hbig, len66, cnk_small⟩ := big_ex
    have hN : N ≤ 512 := by omega
    have hsum : ∀ k, k ≤ N + 1 → sumN N k ≤ big * 513 := fun k hk => by
      cases k with
      | zero => exact Nat.zero_le _
      | succ k => exact Nat.le_trans (ball_big (fun k => cnk_small N k hN) k) (Nat.mul_le_mul_left _ (by omega))
    have hcs : ∀ k, cnk N k ≤ big * 513 := fun k => Nat.le_trans (cnk_small N k hN) (Nat.le_mul_of_pos_right _ (by omega))
    simp (disch := omega) only [sN, ↓reduceIte, Nat.reduceEqDiff, Nat.reduceAdd, Nat.reduceMul, Nat.reduceSub, reduceCtorEq, e_none, e_some, e_bindS, e0, e1]
    refine ⟨_, (rrow_calls N hN).g.mono ?_⟩
    rintro v H' ⟨D, cells, rfl, rD, hrow⟩
    simp (disch := omega) only [sN, ↓reduceIte, Nat.reduceEqDiff, Nat.reduceAdd, Nat.reduceMul, Nat.reduceSub, reduceCtorEq, e_none, e_some, e_bindS, e0, e1]
    have hz : AtD H' .nilslice 0 D := ⟨.nil, _, by rw [Dg.dg_zero]; rfl, by rw [Dg.dg_zero]; rfl, rD, by rw [Dg.dg_zero]; rfl⟩
    refine ⟨fun m s H => ∃ k r : Nat, m = N + 1 - k ∧ k ≤ N + 1 ∧ (k = 0 ∨ (k : Int) - 1 ≤ t) ∧ s 0 = .int .i64 (N : Int) ∧ s 1 = .int .i64 t ∧ s 6 = dblS D (N + 1) ∧ s 8 = .int .i64 (k : Int) ∧ Vh.rowAt H D = some ⟨true, decide (N + 1 ≠ 1), cells⟩ ∧ RowN H N (N + 1) D cells ∧ AtD H (s 7) (sumN N k) r, N + 1, ⟨0, D, rfl, by omega, .inl rfl, ?_, ?_, ?_, ?_, rD, hrow, ?_⟩, ?_⟩
    · simp only [e_upd, e_putS, e_putN, e_t, e_c, Nat.reduceEqDiff, ↓reduceIte, reduceCtorEq, Nat.reduceAdd, e0]
    · simp only [e_upd, e_putS, e_putN, e_t, e_c, Nat.reduceEqDiff, ↓reduceIte, reduceCtorEq, Nat.reduceAdd, e1]
    · simp only [e_upd, e_putS, e_putN, e_t, e_c, Nat.reduceEqDiff, ↓reduceIte, reduceCtorEq, Nat.reduceAdd]
    · simp only [e_upd, e_putS, e_putN, e_t, e_c, Nat.reduceEqDiff, ↓reduceIte, reduceCtorEq, Nat.reduceAdd]; rfl
    · simp only [e_upd, e_putS, e_putN, e_t, e_c, Nat.reduceEqDiff, ↓reduceIte, reduceCtorEq, Nat.reduceAdd]; exact hz
    clear hz rD hrow H'
    rintro m s H ⟨k, r, rfl, hk, hkt, h0, h1, h6, h8, rD, hrow, hs⟩
    have lD := row_lt rD
    by_cases hgo : (k : Int) ≤ (N : Int) ∧ (k : Int) ≤ t
    · obtain ⟨c, rc, hc1, hc2, hc3, hc4⟩ := hrow.2 k (by omega)
      have hix := dblS_idx (D := D) (k := N + 1) (j := k) (by omega)
      obtain ⟨g1, g2⟩ := hgo
      simp (disch := omega) only [sN, ↓reduceIte, Nat.reduceEqDiff, Nat.reduceAdd, Nat.reduceMul, Nat.reduceSub, reduceCtorEq, e_none, e_some, e_bindS, h0, h1, h6, h8, hix, rD, hc1, Option.bind_some, Option.map_some]
      refine call_add (Nat.le_trans (len66 _ (hsum k hk)) (by omega)) (Nat.le_trans (len66 _ (hcs k)) (by omega)) hs hc3 ?_
      intro w row ho hfl hw hwc
      rw [sumN_step] at hw
      simp (disch := omega) only [sN, ↓reduceIte, Nat.reduceEqDiff, Nat.reduceAdd, Nat.reduceMul, Nat.reduceSub, reduceCtorEq, e_none, e_some, e_bindS, h0, h1, h6, h8]
      refine loop_keep (m := N + 1 - (k + 1)) (by omega) ⟨k + 1, H.length, rfl, by omega, .inr (by omega), ?_, ?_, ?_, ?_, ?_, ?_, ?_⟩
      · simp only [e_upd, e_putS, e_putN, e_t, e_c, Nat.reduceEqDiff, ↓reduceIte, reduceCtorEq, Nat.reduceAdd, h0]
      · simp only [e_upd, e_putS, e_putN, e_t, e_c, Nat.reduceEqDiff, ↓reduceIte, reduceCtorEq, Nat.reduceAdd, h1]
      · simp only [e_upd, e_putS, e_putN, e_t, e_c, Nat.reduceEqDiff, ↓reduceIte, reduceCtorEq, Nat.reduceAdd, h6]
      · simp only [e_upd, e_putS, e_putN, e_t, e_c, Nat.reduceEqDiff, ↓reduceIte, reduceCtorEq, Nat.reduceAdd]; rfl
      · rw [row_left lD, rD]
      · exact ⟨hrow.1, fun j hj => by
          obtain ⟨c', rc', f1, f2, f3, f4⟩ := hrow.2 j hj
          exact ⟨c', rc', f1, f2, f3.keep (row_left f3.lt), f4⟩⟩
      · simp only [e_upd, e_putS, e_putN, e_t, e_c, Nat.reduceEqDiff, ↓reduceIte, reduceCtorEq, Nat.reduceAdd]; exact hw
    · have hval : bI (N : Int) t = ((sumN N k : Nat) : Int) := by
        unfold bI
        rcases Nat.eq_zero_or_pos k with h | h
        · subst h
          rw [if_pos (by omega)]; rfl
        · rw [if_neg (by omega)]
          obtain ⟨T, rfl⟩ : ∃ T : Nat, t = T := ⟨t.toNat, by omega⟩
          obtain ⟨k', rfl⟩ : ∃ k', k = k' + 1 := ⟨k - 1, by omega⟩
          simp only [Int.toNat_natCast, sumN]
          by_cases hkN : k' = N
          · subst hkN; rw [ball_over k' T (by omega)]
          · rw [show T = k' by omega]
      have fin : ∀ (s : St), s 7 = s 7 → True := fun _ _ => trivial
      have tail : ∀ s : St, AtD H (s 7) (sumN N k) r → thenC Tryd.prog (fun s' H' => retPost 0 rs_rBall (RefE (bI (N : Int) t) 0) .ret (upd (upd s' 4 (s' 34)) 5 (.int .i64 0)) H') (some 34) (upd s 33 (s 7)) H [s 7] (.func 62 []) := by
        intro s hs
        refine call_nat (Nat.le_trans (len66 _ (hsum k hk)) (by omega)) hs (fun h => ?_) ?_
        · refine ret_gc [] rfl rfl (by simp) ?_
          unfold rs_rBall; rw [q_tmp2, q_then]
          refine .inl ⟨by rw [hval, h]; rfl, ?_, rfl⟩
          simp only [gcS, e_upd, e_putS, e_putN, e_t, e_c, Nat.reduceEqDiff, ↓reduceIte, reduceCtorEq, Nat.reduceAdd, n_int]; rfl
        · intro _ κ l row hnew
          obtain ⟨g1, g2⟩ := gc_new (H := H) hnew
          refine ret_gc [H.length] (by simp [gcOK]) g2 (by simp) ?_
          unfold rs_rBall; rw [q_tmp2, q_then, g1, hval]
          refine .inr ⟨κ, l, row, ?_, rfl, hnew⟩
          simp only [gcS, e_upd, e_putS, e_putN, e_t, e_c, Nat.reduceEqDiff, ↓reduceIte, reduceCtorEq, Nat.reduceAdd, n_int]
          rw [n_mkS0 (r' := 0) (by simp [gcSig, List.idxOf?, List.findIdx?_cons])]
          rfl
      by_cases g1 : (k : Int) ≤ (N : Int)
      · have g2 : ¬ (k : Int) ≤ t := fun h => hgo ⟨g1, h⟩
        simp (disch := omega) only [sN, ↓reduceIte, Nat.reduceEqDiff, Nat.reduceAdd, Nat.reduceMul, Nat.reduceSub, reduceCtorEq, e_none, e_some, e_bindS, h0, h1, h6, h8]
        exact tail _ (by simp only [e_upd, e_putS, e_putN, e_t, e_c, Nat.reduceEqDiff, ↓reduceIte, reduceCtorEq, Nat.reduceAdd]; exact hs)
      · simp (disch := omega) only [sN, ↓reduceIte, Nat.reduceEqDiff, Nat.reduceAdd, Nat.reduceMul, Nat.reduceSub, reduceCtorEq, e_none, e_some, e_bindS, h0, h1, h6, h8]
        exact tail _ (by simp only [e_upd, e_putS, e_putN, e_t, e_c, Nat.reduceEqDiff, ↓reduceIte, reduceCtorEq, Nat.reduceAdd]; exact hs)
  · rw [if_neg hr]
    by_cases hneg : n < 0
    · simp (disch := omega) only [sN, ↓reduceIte, Nat.reduceEqDiff, Nat.reduceAdd, Nat.reduceMul, Nat.reduceSub, reduceCtorEq, e_none, e_some, e_bindS, e0, e1]
      refine ret_keep (by simp) (.inl ⟨rfl, ?_, rfl⟩)
      simp only [e_upd, e_putS, e_putN, e_t, e_c, Nat.reduceEqDiff, ↓reduceIte, reduceCtorEq, Nat.reduceAdd]
    · simp (disch := omega) only [sN, ↓reduceIte, Nat.reduceEqDiff, Nat.reduceAdd, Nat.reduceMul, Nat.reduceSub, reduceCtorEq, e_none, e_some, e_bindS, e0, e1]
      refine ret_keep (by simp) (.inl ⟨rfl, ?_, rfl⟩)
      simp only [e_upd, e_putS, e_putN, e_t, e_c, Nat.reduceEqDiff, ↓reduceIte, reduceCtorEq, Nat.reduceAdd]
end Go.Proofs.YtpkeneadkiabiaaDoor
