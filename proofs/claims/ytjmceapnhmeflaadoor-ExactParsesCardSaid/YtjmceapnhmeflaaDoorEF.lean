/- Contracts: the reference's Tail. -/
import Derived.Test.YtjmceapnhmeflaaDoorVX
import Derived.Test.YtjmceapnhmeflaaDoorED
import Derived.Test.YtjmceapnhmeflaaDoorFH
set_option linter.unusedSimpArgs false
set_option linter.unusedVariables false
-- NEWSET
namespace Go.Proofs.YtjmceapnhmeflaaDoor
open Go Go.Vh

end Go.Proofs.YtjmceapnhmeflaaDoor


/- Contracts: fractions are compared; ExactTails' walk. -/
-- NEWSET
namespace Go.Proofs.YtjmceapnhmeflaaDoor
open Go Go.Vh

theorem rSameFrac_calls (H0 : AHeap) {w1 w2 w3 w4 : AV} {x y : Int} {k : Nat} (hk : k ≤ 100000) (h1 : AtN H0 w1 x) (h2 : AtN H0 w2 y) (h3 : AtN H0 w3 x) (h4 : AtN H0 w4 y) (hx : x < BB ^ k) (hy : y < BB ^ k) :
    ACalls Tryd.prog 75 [.agg [w1, w2], .agg [w3, w4]] H0 (List.range H0.length) fun v H => v = .bool true ∧ Base H0 H := by
  refine ACalls.body Tryd.func75 ent_rSameFrac ir_rSameFrac_ok rs_rSameFrac_ok Tryd.ntmps75 (by simp) rfl ?_
  unfold ir_rSameFrac
  have e0 : s0 [.agg [w1, w2], .agg [w3, w4]] 0 = .agg [w1, w2] := rfl
  have e1 : s0 [.agg [w1, w2], .agg [w3, w4]] 1 = .agg [w3, w4] := rfl
  simp (disch := omega) only [sN, ↓reduceIte, Nat.reduceEqDiff, Nat.reduceAdd, Nat.reduceMul, Nat.reduceSub, reduceCtorEq, e_none, e_some, e_bindS, e0, e1]
  rw [x_boxN (l := [w1, w2]) (by simp only [e_upd, e_putS, e_putN, e_t, e_c, Nat.reduceEqDiff, ↓reduceIte, reduceCtorEq, Nat.reduceAdd, e0]) (by simp [h1.cell, h2.cell])]
  simp (disch := omega) only [sN, ↓reduceIte, Nat.reduceEqDiff, Nat.reduceAdd, Nat.reduceMul, Nat.reduceSub, reduceCtorEq, e_none, e_some, e_bindS, e0, e1]
  rw [x_boxN (l := [w3, w4]) (by simp only [e_upd, e_putS, e_putN, e_t, e_c, Nat.reduceEqDiff, ↓reduceIte, reduceCtorEq, Nat.reduceAdd, e1]) (by simp [h3.cell, h4.cell])]
  obtain ⟨H1, hH1⟩ : ∃ q, q = H0 ++ [rw_ [w1, w2]] ++ [rw_ [w3, w4]] := ⟨_, rfl⟩
  have hB : Base H0 H1 := by rw [hH1]; exact Base.one.app
  have r2 : Vh.rowAt H1 H0.length = some ⟨true, false, [w1, w2]⟩ := by rw [hH1, row_left (by simp)]; simp [Vh.rowAt, rw_]
  have r3 : Vh.rowAt H1 (H0 ++ [rw_ [w1, w2]]).length = some ⟨true, false, [w3, w4]⟩ := by rw [hH1]; simp [Vh.rowAt, rw_]
  rw [← hH1]
  simp (disch := omega) only [sN, ↓reduceIte, Nat.reduceEqDiff, Nat.reduceAdd, Nat.reduceMul, Nat.reduceSub, reduceCtorEq, e_none, e_some, e_bindS, p_fieldAddr, Nat.zero_add, r2, r3, Option.bind_some, Option.map_some, List.getElem?_cons_zero, List.getElem?_cons_succ, List.map_cons, List.map_nil]
  refine call_sameX (h1.base hB) (h3.base hB) rfl hx hk ?_
  simp (disch := omega) only [sN, ↓reduceIte, Nat.reduceEqDiff, Nat.reduceAdd, Nat.reduceMul, Nat.reduceSub, reduceCtorEq, e_none, e_some, e_bindS, p_fieldAddr, Nat.zero_add, r2, r3, Option.bind_some, Option.map_some, List.getElem?_cons_zero, List.getElem?_cons_succ, List.map_cons, List.map_nil]
  refine call_sameX (h2.base hB) (h4.base hB) rfl hy hk ?_
  simp (disch := omega) only [sN, ↓reduceIte, Nat.reduceEqDiff, Nat.reduceAdd, Nat.reduceMul, Nat.reduceSub, reduceCtorEq, e_none, e_some, e_bindS]
  refine ret_keep hB.1 ⟨?_, hB⟩
  simp only [e_upd, e_putS, e_putN, e_t, e_c, Nat.reduceEqDiff, ↓reduceIte, reduceCtorEq, Nat.reduceAdd]

theorem lfrac_calls (H0 : AHeap) {w1 w2 w3 w4 : AV} {x y e : Int} {k : Nat} (hk : k ≤ 100000) (h1 : AtN H0 w1 x) (h2 : AtN H0 w2 y) (h3 : AtN H0 w3 x) (h4 : AtN H0 w4 y) (hx : x < BB ^ k) (hy : y < BB ^ k) :
    ACalls Tryd.prog 24 [.agg [w1, w2], .int .i64 e, .agg [w3, w4], .int .i64 e] H0 (List.range H0.length) fun v H => v = .bool true ∧ Base H0 H := by
  refine ACalls.body Tryd.func24 ent_lfrac ir_lfrac_ok rs_lfrac_ok Tryd.ntmps24 (by simp) rfl ?_
  unfold ir_lfrac
  have e0 : s0 [.agg [w1, w2], .int .i64 e, .agg [w3, w4], .int .i64 e] 0 = .agg [w1, w2] := rfl
  have e1 : s0 [.agg [w1, w2], .int .i64 e, .agg [w3, w4], .int .i64 e] 1 = .int .i64 e := rfl
  have e2 : s0 [.agg [w1, w2], .int .i64 e, .agg [w3, w4], .int .i64 e] 2 = .agg [w3, w4] := rfl
  have e3 : s0 [.agg [w1, w2], .int .i64 e, .agg [w3, w4], .int .i64 e] 3 = .int .i64 e := rfl
  simp (disch := omega) only [sN, ↓reduceIte, Nat.reduceEqDiff, Nat.reduceAdd, Nat.reduceMul, Nat.reduceSub, reduceCtorEq, e_none, e_some, e_bindS, e0, e1, e2, e3]
  rw [x_boxN (l := [w1, w2]) (by simp only [e_upd, e_putS, e_putN, e_t, e_c, Nat.reduceEqDiff, ↓reduceIte, reduceCtorEq, Nat.reduceAdd, e0]) (by simp [h1.cell, h2.cell])]
  simp (disch := omega) only [sN, ↓reduceIte, Nat.reduceEqDiff, Nat.reduceAdd, Nat.reduceMul, Nat.reduceSub, reduceCtorEq, e_none, e_some, e_bindS, e0, e1, e2, e3]
  rw [x_boxN (l := [w3, w4]) (by simp only [e_upd, e_putS, e_putN, e_t, e_c, Nat.reduceEqDiff, ↓reduceIte, reduceCtorEq, Nat.reduceAdd, e2]) (by simp [h3.cell, h4.cell])]
  obtain ⟨H1, hH1⟩ : ∃ q, q = H0 ++ [rw_ [w1, w2]] ++ [rw_ [w3, w4]] := ⟨_, rfl⟩
  have hB : Base H0 H1 := by rw [hH1]; exact Base.one.app
  have r2 : Vh.rowAt H1 H0.length = some ⟨true, false, [w1, w2]⟩ := by rw [hH1, row_left (by simp)]; simp [Vh.rowAt, rw_]
  have r3 : Vh.rowAt H1 (H0 ++ [rw_ [w1, w2]]).length = some ⟨true, false, [w3, w4]⟩ := by rw [hH1]; simp [Vh.rowAt, rw_]
  rw [← hH1]
  simp (disch := omega) only [sN, ↓reduceIte, Nat.reduceEqDiff, Nat.reduceAdd, Nat.reduceMul, Nat.reduceSub, reduceCtorEq, e_none, e_some, e_bindS, e1, e3, beq_self_eq_true]
  rw [x_loadNA (n := 2) (r := H0.length) (l := [w1, w2]) (by simp only [e_upd, e_putS, e_putN, e_t, e_c, Nat.reduceEqDiff, ↓reduceIte, reduceCtorEq, Nat.reduceAdd]) r2 rfl rfl]
  simp (disch := omega) only [sN, ↓reduceIte, Nat.reduceEqDiff, Nat.reduceAdd, Nat.reduceMul, Nat.reduceSub, reduceCtorEq, e_none, e_some, e_bindS, e1, e3]
  rw [x_loadNA (n := 2) (r := (H0 ++ [rw_ [w1, w2]]).length) (l := [w3, w4]) (by simp only [e_upd, e_putS, e_putN, e_t, e_c, Nat.reduceEqDiff, ↓reduceIte, reduceCtorEq, Nat.reduceAdd]) r3 rfl rfl]
  simp (disch := omega) only [sN, ↓reduceIte, Nat.reduceEqDiff, Nat.reduceAdd, Nat.reduceMul, Nat.reduceSub, reduceCtorEq, e_none, e_some, e_bindS, List.map_cons, List.map_nil]
  refine ⟨_, (rSameFrac_calls H1 hk (h1.base hB) (h2.base hB) (h3.base hB) (h4.base hB) hx hy).g.mono ?_⟩
  rintro v H ⟨rfl, hB2⟩
  simp (disch := omega) only [sN, ↓reduceIte, Nat.reduceEqDiff, Nat.reduceAdd, Nat.reduceMul, Nat.reduceSub, reduceCtorEq, e_none, e_some, e_bindS]
  refine ret_keep (hB.trans hB2).1 ⟨?_, hB.trans hB2⟩
  simp only [e_upd, e_putS, e_putN, e_t, e_c, Nat.reduceEqDiff, ↓reduceIte, reduceCtorEq, Nat.reduceAdd]
end Go.Proofs.YtjmceapnhmeflaaDoor

