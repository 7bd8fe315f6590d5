/- Contracts: the reference's ways, on top of any heap. -/
import Derived.Test.YtpkeneadkiabiaaDoorVX
import Derived.Test.YtpkeneadkiabiaaDoorED
import Derived.Test.YtpkeneadkiabiaaDoorFG
import Derived.Test.YtpkeneadkiabiaaDoorEC
import Derived.Test.YtpkeneadkiabiaaDoorIrC
set_option linter.unusedSimpArgs false
set_option linter.unusedVariables false
-- NEWSET
namespace Go.Proofs.YtpkeneadkiabiaaDoor
open Go Go.Vh

theorem AtD.zero {H : AHeap} {r : Nat} {row : ARow} (h : Vh.rowAt H r = some row) : AtD H .nilslice 0 r := ⟨.nil, row, by rw [Dg.dg_zero]; rfl, rfl, h, by rw [Dg.dg_zero]; rfl⟩

/-- ... in a row of one's own. -/
def AtO (H : AHeap) (v : AV) (n r : Nat) : Prop := AtD H v n r ∧ ∃ row, Vh.rowAt H r = some row ∧ row.own = true
theorem AtO.base {H H' : AHeap} {v : AV} {n r : Nat} (h : AtO H v n r) (hb : Base H H') : AtO H' v n r := by
  obtain ⟨h1, row, h2, h3⟩ := h
  exact ⟨h1.base hb, row, hb.row h2, h3⟩

end Go.Proofs.YtpkeneadkiabiaaDoor


/- Contracts: the reference's gcd and reduced, on top of any heap. -/
-- NEWSET
namespace Go.Proofs.YtpkeneadkiabiaaDoor
open Go Go.Vh

section
variable {K : St → AHeap → Prop} {d : Option Nat} {s : St} {H : AHeap}
theorem call_gcd {x y : Nat} {u v : AV} {a b : Nat} (hx : (Dg.dg x).length ≤ 10000) (hy : (Dg.dg y).length ≤ 10000) (hu : AtD H u x a) (hv : AtD H v y b)
    (hK : ∀ R w r, AtD (H ++ R) w (Nat.gcd x y) r → K (putI d s w) (H ++ R)) : thenC Tryd.prog K d s H [u, v] (.func 120 []) := by
  obtain ⟨κ, ra, h1, rfl, h3, h4⟩ := hu
  obtain ⟨κ', rb, k1, rfl, k3, k4⟩ := hv
  refine call_cc (da := 0) (db := 0) (rest := []) (rgcd_calls κ κ' x y h1 k1 hx hy) ints_flat ints_flat rfl h3 k3 (by rw [ints_length, Nat.zero_add]; exact AtD.len (H := H) (v := .any) (r := 0) h4) (by rw [ints_length, Nat.zero_add]; exact AtD.len (H := H) (v := .any) (r := 0) k4) (by rw [List.drop_zero, ints_length, h4]) (by rw [List.drop_zero, ints_length, k4]) rfl ?_
  rintro v0 H0' ⟨R, r, rfl, hat, hcase⟩
  rw [show ([ro (ints .i64 (Dg.dg x)), ro (ints .i64 (Dg.dg y))] ++ R).drop 2 = R from rfl]
  obtain ⟨κ2, row, g1, rfl, g3, g4⟩ := hat
  rcases hcase with ⟨rfl, hr⟩ | ⟨row', rfl, rfl, ho, hf⟩
  · rw [List.map_nil]
    simp only [List.length_cons, List.length_nil] at hr
    rcases (show r = 0 ∨ r = 1 by omega) with rfl | rfl
    · rw [n_mkS0 (r' := a) (by simp [sig])]
      have hrow : row = ⟨false, false, ints .i64 (Dg.dg x)⟩ := by simpa [Vh.rowAt, ro] using g3.symm
      subst hrow
      refine hK [] _ a ⟨κ2, ra, g1, rfl, by rw [List.append_nil]; exact h3, ?_⟩
      have hl := congrArg List.length g4
      simp only [List.length_take, ints_length] at hl
      have h5 : (ra.cells.take (Dg.dg x).length).take (Dg.dg (Nat.gcd x y)).length = ints .i64 (Dg.dg (Nat.gcd x y)) := by rw [h4]; exact g4
      rwa [List.take_take, Nat.min_eq_left (by omega)] at h5
    · rw [n_mkS0 (r' := b) (by simp [sig])]
      have hrow : row = ⟨false, false, ints .i64 (Dg.dg y)⟩ := by simpa [Vh.rowAt, ro] using g3.symm
      subst hrow
      refine hK [] _ b ⟨κ2, rb, g1, rfl, by rw [List.append_nil]; exact k3, ?_⟩
      have hl := congrArg List.length g4
      simp only [List.length_take, ints_length] at hl
      have h5 : (rb.cells.take (Dg.dg y).length).take (Dg.dg (Nat.gcd x y)).length = ints .i64 (Dg.dg (Nat.gcd x y)) := by rw [k4]; exact g4
      rwa [List.take_take, Nat.min_eq_left (by omega)] at h5
  · have hrow : row = row' := by simpa [Vh.rowAt] using g3.symm
    subst hrow
    rw [n_mkS0 (r' := H.length) (by simp [sig]), List.map_cons, List.map_nil, flat_row hf ho]
    exact hK [some row] _ H.length ⟨κ2, row, g1, rfl, by simp [Vh.rowAt], g4⟩
theorem rfits_calls (κ : SK) (n : Nat) (hk : okS κ n) (hn : n < 9223372036854775807) : ACalls Tryd.prog 74 [mkS κ 0 0 n] [ro []] (List.range 1) fun v H => v = .bool (decide (n ≤ 256)) ∧ H = [ro []] := by
  refine ACalls.body Tryd.func74 ent_rfits ir_rfits_ok rs_rfits_ok Tryd.ntmps74 (by simp) rfl ?_
  unfold ir_rfits
  have e0 : s0 [mkS κ 0 0 n] 0 = mkS κ 0 0 n := rfl
  simp (disch := omega) only [sN, ↓reduceIte, Nat.reduceEqDiff, Nat.reduceAdd, Nat.reduceMul, Nat.reduceSub, reduceCtorEq, e_none, e_some, e_bindS, e0, k_len hk]
  refine ret_keep (by simp) ⟨?_, rfl⟩
  simp only [e_upd, e_putS, e_putN, e_t, e_c, Nat.reduceEqDiff, ↓reduceIte, reduceCtorEq, Nat.reduceAdd]
  congr 1
  exact decide_eq_decide.2 (by omega)
theorem dg_fits {n k : Nat} : (Dg.dg n).length ≤ 4 * k ↔ (n : Int) < BB ^ k := by
  have e : BB ^ k = ((256 ^ (4 * k) : Nat) : Int) := by rw [bb_db, Int.natCast_pow]; rfl
  rw [e]
  constructor
  · intro h
    have := Nat.lt_of_lt_of_le (Dg.dg_lt n) (Nat.pow_le_pow_right (n := 256) (by omega) h)
    omega
  · intro h
    exact Dg.dg_len_le (by omega)
theorem call_fits {x a : Nat} {u : AV} (hx : (Dg.dg x).length ≤ 1000000) (hu : AtD H u x a) {b : Bool} (hb : decide ((x : Int) < BB ^ 64) = b) (hK : K (putI d s (.bool b)) H) : thenC Tryd.prog K d s H [u] (.func 74 []) := by
  obtain ⟨κ, ra, h1, rfl, h3, h4⟩ := hu
  refine call_do (rfits_calls κ (Dg.dg x).length h1 (by omega)) [(a, 0)] rfl (by simp [underL, mkS_under]) (allRo_once rfl _) ?_ ⟨seen_ro h3 (by simp) rfl rfl, trivial⟩ ?_
  · rw [n_lcons, n_lnil, n_mkS0 (r' := a) rfl, List.append_nil]
  rintro v0 H0' ⟨rfl, rfl⟩
  rw [m_merge, m_ro, m_nil, n_bool, show List.drop [ro []].length [ro []] = [] from rfl, List.map_nil, List.append_nil]
  rw [show decide ((Dg.dg x).length ≤ 256) = b from by rw [← hb]; exact decide_eq_decide.2 (dg_fits (k := 64))]
  exact hK
end
end Go.Proofs.YtpkeneadkiabiaaDoor


/- Contracts: the reference's reduced, as a whole. -/
-- NEWSET
namespace Go.Proofs.YtpkeneadkiabiaaDoor
open Go Go.Vh

section
variable {K : St → AHeap → Prop} {d : Option Nat} {s : St} {H : AHeap}
theorem call_natV {x a : Nat} {u : AV} (hx : (Dg.dg x).length ≤ 1000000) (hu : AtD H u x a) (hK : ∀ R w, NumV (H ++ R) w (x : Int) H.length → K (putI d s w) (H ++ R)) : thenC Tryd.prog K d s H [u] (.func 62 []) := by
  refine call_nat hx hu (fun h => ?_) fun h κ l row hn => ?_
  · subst h
    have := hK [] .nilslice .nil
    rwa [List.append_nil] at this
  · exact hK [some row] _ (.new (by simp [Vh.rowAt]) (Nat.le_refl _) hn)
end
theorem redX_nat (x y : Nat) : redX (x : Int) (y : Int) = ((x / Nat.gcd x y : Nat) : Int) := by
  unfold redX
  rw [Int.toNat_natCast, Int.toNat_natCast, Int.natCast_ediv]

set_option maxHeartbeats 1000000 in
theorem rreducedB_calls (H0 : AHeap) (x y : Nat) (hy : 0 < y) {u v : AV} {a b : Nat} (hlx : (Dg.dg x).length ≤ 10000) (hly : (Dg.dg y).length ≤ 10000) (hu : AtD H0 u x a) (hv : AtD H0 v y b) :
    ACalls Tryd.prog 80 [u, v] H0 (List.range H0.length) fun w H => Base H0 H ∧ ∃ w1 w2, w = .tuple [.agg [w1, w2], .int .i64 (redE (x : Int) (y : Int))] ∧ NumV H w1 (if redE (x : Int) (y : Int) = 0 then redX (x : Int) (y : Int) else 0) H0.length ∧ NumV H w2 (if redE (x : Int) (y : Int) = 0 then redX (y : Int) (x : Int) else 0) H0.length := by
  refine ACalls.body Tryd.func80 ent_rreduced ir_rreduced_ok rs_rreduced_ok Tryd.ntmps80 (by simp) rfl ?_
  unfold ir_rreduced
  have e0 : s0 [u, v] 0 = u := rfl
  have e1 : s0 [u, v] 1 = v := rfl
  have hz : [AV.nilslice, AV.nilslice].all AV.cell = true := rfl
  have gp : 0 < Nat.gcd x y := Nat.gcd_pos_of_pos_right _ hy
  have gle : Nat.gcd x y ≤ y := Nat.le_of_dvd hy (Nat.gcd_dvd_right _ _)
  have glen : (Dg.dg (Nat.gcd x y)).length ≤ 10000 := Nat.le_trans (Dg.dg_len_le (Nat.lt_of_le_of_lt gle (Dg.dg_lt y))) hly
  have qlx : (Dg.dg (x / Nat.gcd x y)).length ≤ 10000 := Nat.le_trans (Dg.dg_len_le (Nat.lt_of_le_of_lt (Nat.div_le_self _ _) (Dg.dg_lt x))) hlx
  have qly : (Dg.dg (y / Nat.gcd x y)).length ≤ 10000 := Nat.le_trans (Dg.dg_len_le (Nat.lt_of_le_of_lt (Nat.div_le_self _ _) (Dg.dg_lt y))) hly
  have rx := redX_nat x y
  have ry := redX_nat y x
  rw [Nat.gcd_comm y x] at ry
  simp (disch := omega) only [sN, ↓reduceIte, Nat.reduceEqDiff, Nat.reduceAdd, Nat.reduceMul, Nat.reduceSub, reduceCtorEq, e_none, e_some, e_bindS, e0, e1]
  rw [x_allocA hz]
  simp (disch := omega) only [sN, ↓reduceIte, Nat.reduceEqDiff, Nat.reduceAdd, Nat.reduceMul, Nat.reduceSub, reduceCtorEq, e_none, e_some, e_bindS, e0, e1, List.map_cons, List.map_nil]
  refine call_gcd hlx hly (hu.base Base.one) (hv.base Base.one) ?_
  intro R1 g rg ag
  simp (disch := omega) only [sN, ↓reduceIte, Nat.reduceEqDiff, Nat.reduceAdd, Nat.reduceMul, Nat.reduceSub, reduceCtorEq, e_none, e_some, e_bindS, e0, e1, List.map_cons, List.map_nil]
  refine call_div gp hlx glen (hu.base Base.one.app) ag ?_
  intro w1 z1 row1 o1 f1 a1 c1
  simp (disch := omega) only [sN, ↓reduceIte, Nat.reduceEqDiff, Nat.reduceAdd, Nat.reduceMul, Nat.reduceSub, reduceCtorEq, e_none, e_some, e_bindS, e0, e1, List.map_cons, List.map_nil, List.getElem?_cons_zero, List.getElem?_cons_succ]
  obtain ⟨z1', hz1'⟩ : ∃ z, z = z1 := ⟨_, rfl⟩
  refine call_div gp hly glen (hv.base Base.one.app.app) (ag.base Base.one) ?_
  intro w2 z2 row2 o2 f2 a2 c2
  have a1' := a1.base (Base.one (R := [some row2]))
  obtain ⟨H1, hH1⟩ : ∃ q, q = H0 ++ [rw_ [AV.nilslice, AV.nilslice]] ++ R1 ++ [some row1] ++ [some row2] := ⟨_, rfl⟩
  have hB1 : Base H0 H1 := by rw [hH1]; exact Base.one.app.app.app
  have hr0 : Vh.rowAt H1 H0.length = some ⟨true, false, [.nilslice, .nilslice]⟩ := by
    rw [hH1, row_left (by simp), row_left (by simp), row_left (by simp)]
    simp [Vh.rowAt, rw_]
  have hl1 : H0.length < H1.length := by rw [hH1]; simp
  rw [← hH1] at a1' a2 ⊢
  simp (disch := omega) only [sN, ↓reduceIte, Nat.reduceEqDiff, Nat.reduceAdd, Nat.reduceMul, Nat.reduceSub, reduceCtorEq, e_none, e_some, e_bindS, List.map_cons, List.map_nil, List.getElem?_cons_zero, List.getElem?_cons_succ]
  by_cases l1 : ((x / Nat.gcd x y : Nat) : Int) < BB ^ 64
  · refine call_fits (b := true) (Nat.le_trans qlx (by omega)) a1' (decide_eq_true l1) ?_
    simp (disch := omega) only [sN, ↓reduceIte, Nat.reduceEqDiff, Nat.reduceAdd, Nat.reduceMul, Nat.reduceSub, reduceCtorEq, e_none, e_some, e_bindS, List.map_cons, List.map_nil]
    by_cases l2 : ((y / Nat.gcd x y : Nat) : Int) < BB ^ 64
    · have hE : redE (x : Int) (y : Int) = 0 := by unfold redE; rw [rx, ry, if_pos ⟨l1, l2⟩]
      rw [hE, if_pos rfl, if_pos rfl, rx, ry]
      refine call_fits (b := true) (Nat.le_trans qly (by omega)) a2 (decide_eq_true l2) ?_
      simp (disch := omega) only [sN, ↓reduceIte, Nat.reduceEqDiff, Nat.reduceAdd, Nat.reduceMul, Nat.reduceSub, reduceCtorEq, e_none, e_some, e_bindS, List.map_cons, List.map_nil]
      refine call_natV (Nat.le_trans qlx (by omega)) a1' ?_
      intro R2 w3 n3
      simp (disch := omega) only [sN, ↓reduceIte, Nat.reduceEqDiff, Nat.reduceAdd, Nat.reduceMul, Nat.reduceSub, reduceCtorEq, e_none, e_some, e_bindS, List.map_cons, List.map_nil]
      refine call_natV (Nat.le_trans qly (by omega)) (a2.base Base.one) ?_
      intro R3 w4 n4
      have n3' := n3.app (R := R3)
      have hB3 : Base H0 (H1 ++ R2 ++ R3) := hB1.app.app
      have hr3 : Vh.rowAt (H1 ++ R2 ++ R3) H0.length = some ⟨true, false, [.nilslice, .nilslice]⟩ := by rw [row_left (by simp; omega), row_left hl1, hr0]
      simp (disch := omega) only [sN, ↓reduceIte, Nat.reduceEqDiff, Nat.reduceAdd, Nat.reduceMul, Nat.reduceSub, reduceCtorEq, e_none, e_some, e_bindS, List.map_cons, List.map_nil]
      rw [p_build2 (v1 := w3) (v2 := w4) (by simp only [e_upd, e_putS, e_putN, e_t, e_c, Nat.reduceEqDiff, ↓reduceIte, reduceCtorEq, Nat.reduceAdd]) (by simp only [e_upd, e_putS, e_putN, e_t, e_c, Nat.reduceEqDiff, ↓reduceIte, reduceCtorEq, Nat.reduceAdd]) n3.cell n4.cell]
      simp (disch := omega) only [sN, ↓reduceIte, Nat.reduceEqDiff, Nat.reduceAdd, Nat.reduceMul, Nat.reduceSub, reduceCtorEq, e_none, e_some, e_bindS]
      rw [x_storeNA (n := 2) (r := H0.length) (l := [.nilslice, .nilslice]) (l' := [w3, w4]) (by simp only [e_upd, e_putS, e_putN, e_t, e_c, Nat.reduceEqDiff, ↓reduceIte, reduceCtorEq, Nat.reduceAdd]) (by simp only [e_upd, e_putS, e_putN, e_t, e_c, Nat.reduceEqDiff, ↓reduceIte, reduceCtorEq, Nat.reduceAdd]) (by simp [n3.cell, n4.cell]) hr3 rfl rfl]
      simp (disch := omega) only [sN, ↓reduceIte, Nat.reduceEqDiff, Nat.reduceAdd, Nat.reduceMul, Nat.reduceSub, reduceCtorEq, e_none, e_some, e_bindS]
      refine ret_keep (by rw [List.length_set]; exact hB3.1) ?_
      rw [rs_rreduced, ares_cell2 (r := H0.length) (row := ⟨true, false, [w3, w4]⟩) (l := [w3, w4]) (by simp only [e_upd, e_putS, e_putN, e_t, e_c, Nat.reduceEqDiff, ↓reduceIte, reduceCtorEq, Nat.reduceAdd]) (by rw [rowAt_set (by have := hB3.1; simp; omega), if_pos rfl]; rfl) rfl rfl]
      refine ⟨hB3.set (Nat.le_refl _), w3, w4, ?_, (n3'.set hl1).le (by omega), (n4.set (by simp; omega)).le (by simp; omega)⟩
      simp only [e_upd, e_putS, e_putN, e_t, e_c, Nat.reduceEqDiff, ↓reduceIte, reduceCtorEq, Nat.reduceAdd]
    · have hE : redE (x : Int) (y : Int) = 8 := by unfold redE; rw [rx, ry, if_neg fun h => l2 h.2]
      rw [hE, if_neg (by decide), if_neg (by decide)]
      refine call_fits (b := false) (Nat.le_trans qly (by omega)) a2 (decide_eq_false l2) ?_
      simp (disch := omega) only [sN, ↓reduceIte, Nat.reduceEqDiff, Nat.reduceAdd, Nat.reduceMul, Nat.reduceSub, reduceCtorEq, e_none, e_some, e_bindS, p_build, afill, List.map_cons, List.map_nil, Option.map_some]
      rw [x_storeNA (n := 2) (r := H0.length) (l := [.nilslice, .nilslice]) (l' := [.nilslice, .nilslice]) (by simp only [e_upd, e_putS, e_putN, e_t, e_c, Nat.reduceEqDiff, ↓reduceIte, reduceCtorEq, Nat.reduceAdd]) (by simp only [e_upd, e_putS, e_putN, e_t, e_c, Nat.reduceEqDiff, ↓reduceIte, reduceCtorEq, Nat.reduceAdd]) rfl hr0 rfl rfl]
      simp (disch := omega) only [sN, ↓reduceIte, Nat.reduceEqDiff, Nat.reduceAdd, Nat.reduceMul, Nat.reduceSub, reduceCtorEq, e_none, e_some, e_bindS]
      refine ret_keep (by rw [List.length_set]; exact hB1.1) ?_
      rw [rs_rreduced, ares_cell2 (r := H0.length) (row := ⟨true, false, [.nilslice, .nilslice]⟩) (l := [.nilslice, .nilslice]) (by simp only [e_upd, e_putS, e_putN, e_t, e_c, Nat.reduceEqDiff, ↓reduceIte, reduceCtorEq, Nat.reduceAdd]) (by rw [rowAt_set hl1, if_pos rfl]; rfl) rfl rfl]
      refine ⟨hB1.set (Nat.le_refl _), .nilslice, .nilslice, ?_, .nil, .nil⟩
      simp only [e_upd, e_putS, e_putN, e_t, e_c, Nat.reduceEqDiff, ↓reduceIte, reduceCtorEq, Nat.reduceAdd]
  · have hE : redE (x : Int) (y : Int) = 8 := by unfold redE; rw [rx, ry, if_neg fun h => l1 h.1]
    rw [hE, if_neg (by decide), if_neg (by decide)]
    refine call_fits (b := false) (Nat.le_trans qlx (by omega)) a1' (decide_eq_false l1) ?_
    simp (disch := omega) only [sN, ↓reduceIte, Nat.reduceEqDiff, Nat.reduceAdd, Nat.reduceMul, Nat.reduceSub, reduceCtorEq, e_none, e_some, e_bindS, p_build, afill, List.map_cons, List.map_nil, Option.map_some]
    rw [x_storeNA (n := 2) (r := H0.length) (l := [.nilslice, .nilslice]) (l' := [.nilslice, .nilslice]) (by simp only [e_upd, e_putS, e_putN, e_t, e_c, Nat.reduceEqDiff, ↓reduceIte, reduceCtorEq, Nat.reduceAdd]) (by simp only [e_upd, e_putS, e_putN, e_t, e_c, Nat.reduceEqDiff, ↓reduceIte, reduceCtorEq, Nat.reduceAdd]) rfl hr0 rfl rfl]
    simp (disch := omega) only [sN, ↓reduceIte, Nat.reduceEqDiff, Nat.reduceAdd, Nat.reduceMul, Nat.reduceSub, reduceCtorEq, e_none, e_some, e_bindS]
    refine ret_keep (by rw [List.length_set]; exact hB1.1) ?_
    rw [rs_rreduced, ares_cell2 (r := H0.length) (row := ⟨true, false, [.nilslice, .nilslice]⟩) (l := [.nilslice, .nilslice]) (by simp only [e_upd, e_putS, e_putN, e_t, e_c, Nat.reduceEqDiff, ↓reduceIte, reduceCtorEq, Nat.reduceAdd]) (by rw [rowAt_set hl1, if_pos rfl]; rfl) rfl rfl]
    refine ⟨hB1.set (Nat.le_refl _), .nilslice, .nilslice, ?_, .nil, .nil⟩
    simp only [e_upd, e_putS, e_putN, e_t, e_c, Nat.reduceEqDiff, ↓reduceIte, reduceCtorEq, Nat.reduceAdd]
end Go.Proofs.YtpkeneadkiabiaaDoor


/- Contracts: the reference's Tail. -/
-- NEWSET
namespace Go.Proofs.YtpkeneadkiabiaaDoor
open Go Go.Vh

end Go.Proofs.YtpkeneadkiabiaaDoor


/- Contracts: fractions are compared; ExactTails' walk. -/
-- NEWSET
namespace Go.Proofs.YtpkeneadkiabiaaDoor
open Go Go.Vh

theorem rSameFrac_calls (H0 : AHeap) {w1 w2 w3 w4 : AV} {x y : Int} {k : Nat} (hk : k ≤ 100000) (h1 : AtN H0 w1 x) (h2 : AtN H0 w2 y) (h3 : AtN H0 w3 x) (h4 : AtN H0 w4 y) (hx : x < BB ^ k) (hy : y < BB ^ k) :
    ACalls Tryd.prog 75 [.agg [w1, w2], .agg [w3, w4]] H0 (List.range H0.length) fun v H => v = .bool true ∧ Base H0 H := by
  refine ACalls.body Tryd.func75 ent_rSameFrac ir_rSameFrac_ok rs_rSameFrac_ok Tryd.ntmps75 (by simp) rfl ?_
  unfold ir_rSameFrac
  have e0 : s0 [.agg [w1, w2], .agg [w3, w4]] 0 = .agg [w1, w2] := rfl
  have e1 : s0 [.agg [w1, w2], .agg [w3, w4]] 1 = .agg [w3, w4] := rfl
  simp (disch := omega) only [sN, ↓reduceIte, Nat.reduceEqDiff, Nat.reduceAdd, Nat.reduceMul, Nat.reduceSub, reduceCtorEq, e_none, e_some, e_bindS, e0, e1]
  rw [x_boxN (l := [w1, w2]) (by simp only [e_upd, e_putS, e_putN, e_t, e_c, Nat.reduceEqDiff, ↓reduceIte, reduceCtorEq, Nat.reduceAdd, e0]) (by simp [h1.cell, h2.cell])]
  simp (disch := omega) only [sN, ↓reduceIte, Nat.reduceEqDiff, Nat.reduceAdd, Nat.reduceMul, Nat.reduceSub, reduceCtorEq, e_none, e_some, e_bindS, e0, e1]
  rw [x_boxN (l := [w3, w4]) (by simp only [e_upd, e_putS, e_putN, e_t, e_c, Nat.reduceEqDiff, ↓reduceIte, reduceCtorEq, Nat.reduceAdd, e1]) (by simp [h3.cell, h4.cell])]
  obtain ⟨H1, hH1⟩ : ∃ q, q = H0 ++ [rw_ [w1, w2]] ++ [rw_ [w3, w4]] := ⟨_, rfl⟩
  have hB : Base H0 H1 := by rw [hH1]; exact Base.one.app
  have r2 : Vh.rowAt H1 H0.length = some ⟨true, false, [w1, w2]⟩ := by rw [hH1, row_left (by simp)]; simp [Vh.rowAt, rw_]
  have r3 : Vh.rowAt H1 (H0 ++ [rw_ [w1, w2]]).length = some ⟨true, false, [w3, w4]⟩ := by rw [hH1]; simp [Vh.rowAt, rw_]
  rw [← hH1]
  simp (disch := omega) only [sN, ↓reduceIte, Nat.reduceEqDiff, Nat.reduceAdd, Nat.reduceMul, Nat.reduceSub, reduceCtorEq, e_none, e_some, e_bindS, p_fieldAddr, Nat.zero_add, r2, r3, Option.bind_some, Option.map_some, List.getElem?_cons_zero, List.getElem?_cons_succ, List.map_cons, List.map_nil]
  refine call_sameX (h1.base hB) (h3.base hB) rfl hx hk ?_
  simp (disch := omega) only [sN, ↓reduceIte, Nat.reduceEqDiff, Nat.reduceAdd, Nat.reduceMul, Nat.reduceSub, reduceCtorEq, e_none, e_some, e_bindS, p_fieldAddr, Nat.zero_add, r2, r3, Option.bind_some, Option.map_some, List.getElem?_cons_zero, List.getElem?_cons_succ, List.map_cons, List.map_nil]
  refine call_sameX (h2.base hB) (h4.base hB) rfl hy hk ?_
  simp (disch := omega) only [sN, ↓reduceIte, Nat.reduceEqDiff, Nat.reduceAdd, Nat.reduceMul, Nat.reduceSub, reduceCtorEq, e_none, e_some, e_bindS]
  refine ret_keep hB.1 ⟨?_, hB⟩
  simp only [e_upd, e_putS, e_putN, e_t, e_c, Nat.reduceEqDiff, ↓reduceIte, reduceCtorEq, Nat.reduceAdd]

theorem lfrac_calls (H0 : AHeap) {w1 w2 w3 w4 : AV} {x y e : Int} {k : Nat} (hk : k ≤ 100000) (h1 : AtN H0 w1 x) (h2 : AtN H0 w2 y) (h3 : AtN H0 w3 x) (h4 : AtN H0 w4 y) (hx : x < BB ^ k) (hy : y < BB ^ k) :
    ACalls Tryd.prog 24 [.agg [w1, w2], .int .i64 e, .agg [w3, w4], .int .i64 e] H0 (List.range H0.length) fun v H => v = .bool true ∧ Base H0 H := by
  refine ACalls.body Tryd.func24 ent_lfrac ir_lfrac_ok rs_lfrac_ok Tryd.ntmps24 (by simp) rfl ?_
  unfold ir_lfrac
  have e0 : s0 [.agg [w1, w2], .int .i64 e, .agg [w3, w4], .int .i64 e] 0 = .agg [w1, w2] := rfl
  have e1 : s0 [.agg [w1, w2], .int .i64 e, .agg [w3, w4], .int .i64 e] 1 = .int .i64 e := rfl
  have e2 : s0 [.agg [w1, w2], .int .i64 e, .agg [w3, w4], .int .i64 e] 2 = .agg [w3, w4] := rfl
  have e3 : s0 [.agg [w1, w2], .int .i64 e, .agg [w3, w4], .int .i64 e] 3 = .int .i64 e := rfl
  simp (disch := omega) only [sN, ↓reduceIte, Nat.reduceEqDiff, Nat.reduceAdd, Nat.reduceMul, Nat.reduceSub, reduceCtorEq, e_none, e_some, e_bindS, e0, e1, e2, e3]
  rw [x_boxN (l := [w1, w2]) (by simp only [e_upd, e_putS, e_putN, e_t, e_c, Nat.reduceEqDiff, ↓reduceIte, reduceCtorEq, Nat.reduceAdd, e0]) (by simp [h1.cell, h2.cell])]
  simp (disch := omega) only [sN, ↓reduceIte, Nat.reduceEqDiff, Nat.reduceAdd, Nat.reduceMul, Nat.reduceSub, reduceCtorEq, e_none, e_some, e_bindS, e0, e1, e2, e3]
  rw [x_boxN (l := [w3, w4]) (by simp only [e_upd, e_putS, e_putN, e_t, e_c, Nat.reduceEqDiff, ↓reduceIte, reduceCtorEq, Nat.reduceAdd, e2]) (by simp [h3.cell, h4.cell])]
  obtain ⟨H1, hH1⟩ : ∃ q, q = H0 ++ [rw_ [w1, w2]] ++ [rw_ [w3, w4]] := ⟨_, rfl⟩
  have hB : Base H0 H1 := by rw [hH1]; exact Base.one.app
  have r2 : Vh.rowAt H1 H0.length = some ⟨true, false, [w1, w2]⟩ := by rw [hH1, row_left (by simp)]; simp [Vh.rowAt, rw_]
  have r3 : Vh.rowAt H1 (H0 ++ [rw_ [w1, w2]]).length = some ⟨true, false, [w3, w4]⟩ := by rw [hH1]; simp [Vh.rowAt, rw_]
  rw [← hH1]
  simp (disch := omega) only [sN, ↓reduceIte, Nat.reduceEqDiff, Nat.reduceAdd, Nat.reduceMul, Nat.reduceSub, reduceCtorEq, e_none, e_some, e_bindS, e1, e3, beq_self_eq_true]
  rw [x_loadNA (n := 2) (r := H0.length) (l := [w1, w2]) (by simp only [e_upd, e_putS, e_putN, e_t, e_c, Nat.reduceEqDiff, ↓reduceIte, reduceCtorEq, Nat.reduceAdd]) r2 rfl rfl]
  simp (disch := omega) only [sN, ↓reduceIte, Nat.reduceEqDiff, Nat.reduceAdd, Nat.reduceMul, Nat.reduceSub, reduceCtorEq, e_none, e_some, e_bindS, e1, e3]
  rw [x_loadNA (n := 2) (r := (H0 ++ [rw_ [w1, w2]]).length) (l := [w3, w4]) (by simp only [e_upd, e_putS, e_putN, e_t, e_c, Nat.reduceEqDiff, ↓reduceIte, reduceCtorEq, Nat.reduceAdd]) r3 rfl rfl]
  simp (disch := omega) only [sN, ↓reduceIte, Nat.reduceEqDiff, Nat.reduceAdd, Nat.reduceMul, Nat.reduceSub, reduceCtorEq, e_none, e_some, e_bindS, List.map_cons, List.map_nil]
  refine ⟨_, (rSameFrac_calls H1 hk (h1.base hB) (h2.base hB) (h3.base hB) (h4.base hB) hx hy).g.mono ?_⟩
  rintro v H ⟨rfl, hB2⟩
  simp (disch := omega) only [sN, ↓reduceIte, Nat.reduceEqDiff, Nat.reduceAdd, Nat.reduceMul, Nat.reduceSub, reduceCtorEq, e_none, e_some, e_bindS]
  refine ret_keep (hB.trans hB2).1 ⟨?_, hB.trans hB2⟩
  simp only [e_upd, e_putS, e_putN, e_t, e_c, Nat.reduceEqDiff, ↓reduceIte, reduceCtorEq, Nat.reduceAdd]
end Go.Proofs.YtpkeneadkiabiaaDoor

