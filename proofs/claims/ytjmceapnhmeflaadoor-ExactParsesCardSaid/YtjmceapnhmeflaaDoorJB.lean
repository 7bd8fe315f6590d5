/- Contracts: Reduce, on both sides. -/
import Derived.Test.YtjmceapnhmeflaaDoorVX
import Derived.Test.YtjmceapnhmeflaaDoorJD
import Derived.Test.YtjmceapnhmeflaaDoorGA
set_option linter.unusedSimpArgs false
set_option linter.unusedVariables false
-- NEWSET
namespace Go.Proofs.YtjmceapnhmeflaaDoor
open Go Go.Vh

def rfE (q : Fr) : Int := if cfE [q] = 0 then redE q.x q.y else cfE [q]
def rfN (q : Fr) : Int := if rfE q = 0 then redX q.x q.y else 0
def rfD (q : Fr) : Int := if rfE q = 0 then redX q.y q.x else 0
/-- A fraction and an error as the answer. -/
def AnsF (x y e : Int) (H0 : AHeap) (v : AV) (H : AHeap) : Prop := Base H0 H ∧ ∃ w1 w2, v = .tuple [.agg [w1, w2], .int .i64 e] ∧ NumV H w1 x H0.length ∧ NumV H w2 y H0.length
theorem rfE_bad {q : Fr} (h : cfE [q] ≠ 0) : rfE q = cfE [q] ∧ rfN q = 0 ∧ rfD q = 0 := by
  have h1 : rfE q = cfE [q] := if_neg h
  exact ⟨h1, by unfold rfN; rw [h1, if_neg h], by unfold rfD; rw [h1, if_neg h]⟩
theorem rfE_good {q : Fr} (h : cfE [q] = 0) : rfE q = redE q.x q.y ∧ rfN q = (if redE q.x q.y = 0 then redX q.x q.y else 0) ∧ rfD q = (if redE q.x q.y = 0 then redX q.y q.x else 0) := by
  have h1 : rfE q = redE q.x q.y := if_pos h
  exact ⟨h1, by unfold rfN; rw [h1], by unfold rfD; rw [h1]⟩

set_option maxHeartbeats 1000000 in
theorem xReduce_calls (H0 : AHeap) {q : Fr} (hq : q.ok H0) : ACalls Tryd.prog 28 [.agg [q.w, q.w2]] H0 (List.range H0.length) (AnsF (rfN q) (rfD q) (rfE q) H0) := by
  refine ACalls.body Tryd.func28 ent_xReduceB ir_xReduceB_ok rs_xReduceB_ok Tryd.ntmps28 (by simp) rfl ?_
  unfold ir_xReduceB
  have e0 : s0 [.agg [q.w, q.w2]] 0 = .agg [q.w, q.w2] := rfl
  have hz : [AV.nilslice, AV.nilslice].all AV.cell = true := rfl
  simp (disch := omega) only [sN, ↓reduceIte, Nat.reduceEqDiff, Nat.reduceAdd, Nat.reduceMul, Nat.reduceSub, reduceCtorEq, e_none, e_some, e_bindS, e0]
  rw [x_boxN (l := [q.w, q.w2]) (by simp only [e_upd, e_putS, e_putN, e_t, e_c, Nat.reduceEqDiff, ↓reduceIte, reduceCtorEq, Nat.reduceAdd, e0]) (by simp [hq.1.cell, hq.2.1.cell])]
  simp (disch := omega) only [sN, ↓reduceIte, Nat.reduceEqDiff, Nat.reduceAdd, Nat.reduceMul, Nat.reduceSub, reduceCtorEq, e_none, e_some, e_bindS]
  rw [x_allocA hz]
  obtain ⟨H1, hH1⟩ : ∃ h, h = H0 ++ [rw_ [q.w, q.w2]] ++ [rw_ [AV.nilslice, AV.nilslice]] := ⟨_, rfl⟩
  have hB1 : Base H0 H1 := by rw [hH1]; exact Base.one.app
  have r1 : Vh.rowAt H1 H0.length = some ⟨true, false, [q.w, q.w2]⟩ := by rw [hH1, rowAt_append_left (by simp)]; simp [Vh.rowAt, rw_]
  have r2 : Vh.rowAt H1 (H0 ++ [rw_ [q.w, q.w2]]).length = some ⟨true, false, [.nilslice, .nilslice]⟩ := by rw [hH1]; simp [Vh.rowAt, rw_]
  obtain ⟨p2, hp2⟩ : ∃ p, p = (H0 ++ [rw_ [q.w, q.w2]]).length := ⟨_, rfl⟩
  have hp2' : H0.length ≤ p2 := by rw [hp2]; simp
  rw [← hp2] at r2
  rw [← hH1, ← hp2]
  clear hH1 hp2
  simp (disch := omega) only [sN, ↓reduceIte, Nat.reduceEqDiff, Nat.reduceAdd, Nat.reduceMul, Nat.reduceSub, reduceCtorEq, e_none, e_some, e_bindS]
  rw [x_loadNA (n := 2) (r := H0.length) (l := [q.w, q.w2]) (by simp only [e_upd, e_putS, e_putN, e_t, e_c, Nat.reduceEqDiff, ↓reduceIte, reduceCtorEq, Nat.reduceAdd]) r1 rfl rfl]
  simp (disch := omega) only [sN, ↓reduceIte, Nat.reduceEqDiff, Nat.reduceAdd, Nat.reduceMul, Nat.reduceSub, reduceCtorEq, e_none, e_some, e_bindS]
  rw [x_bsF1 (v1 := q.w) (v2 := q.w2) (by simp only [e_upd, e_putS, e_putN, e_t, e_c, Nat.reduceEqDiff, ↓reduceIte, reduceCtorEq, Nat.reduceAdd]) hq.1.cell hq.2.1.cell]
  simp (disch := omega) only [sN, ↓reduceIte, Nat.reduceEqDiff, Nat.reduceAdd, Nat.reduceMul, Nat.reduceSub, reduceCtorEq, e_none, e_some, e_bindS, List.map_cons, List.map_nil]
  refine ⟨_, (checkFracs_calls (H1 ++ [rw_ [q.w, q.w2]]) [q] (n := 1) (r := H1.length) (row := ⟨true, false, [q.w, q.w2]⟩) rfl (by omega) (by simp [Vh.rowAt, rw_]) rfl ?_).g.mono ?_⟩
  · intro f hf
    simp only [List.mem_cons, List.not_mem_nil, or_false] at hf
    subst hf
    exact hq.base hB1.app
  rintro v H ⟨rfl, hB2⟩
  have hB12 : Base H1 H := Base.one.trans hB2
  have hBH := hB1.trans hB12
  have q1 := hB12.row r1
  have q2 := hB12.row r2
  have hp2l := row_lt q2
  by_cases hc : cfE [q] = 0
  · obtain ⟨l1, l2, l3⟩ := cfE1_short hc
    obtain ⟨E1, E2, E3⟩ := rfE_good hc
    rw [hc, E1, E2, E3]
    simp (disch := omega) only [sN, ↓reduceIte, Nat.reduceEqDiff, Nat.reduceAdd, Nat.reduceMul, Nat.reduceSub, reduceCtorEq, e_none, e_some, e_bindS, q1, p_fieldAddr, Nat.zero_add, Option.bind_some, Option.map_some, List.getElem?_cons_zero, List.getElem?_cons_succ, List.map_cons, List.map_nil]
    obtain ⟨b1, k1⟩ := (hq.1.base hBH).k l1
    obtain ⟨b2, k2⟩ := (hq.2.1.base hBH).k l2
    have hy0 := k2.nonneg
    refine call_in2 (in_reduced (by omega)) rfl (k1.mono (by omega)) (k2.mono (by omega)) (hk_F fun R w3 w4 n3 n4 => ?_)
    simp (disch := omega) only [sN, ↓reduceIte, Nat.reduceEqDiff, Nat.reduceAdd, Nat.reduceMul, Nat.reduceSub, reduceCtorEq, e_none, e_some, e_bindS, List.getElem?_cons_zero, List.getElem?_cons_succ]
    rw [x_storeNA (n := 2) (r := p2) (l := [.nilslice, .nilslice]) (l' := [w3, w4]) (by simp only [e_upd, e_putS, e_putN, e_t, e_c, Nat.reduceEqDiff, ↓reduceIte, reduceCtorEq, Nat.reduceAdd]) (by simp only [e_upd, e_putS, e_putN, e_t, e_c, Nat.reduceEqDiff, ↓reduceIte, reduceCtorEq, Nat.reduceAdd]) (by simp [n3.cell, n4.cell]) (by rw [rowAt_append_left hp2l]; exact q2) rfl rfl]
    simp (disch := omega) only [sN, ↓reduceIte, Nat.reduceEqDiff, Nat.reduceAdd, Nat.reduceMul, Nat.reduceSub, reduceCtorEq, e_none, e_some, e_bindS]
    refine ret_keep (by have := hBH.1; simp; omega) ?_
    rw [rs_xReduceB, ares_cell2 (r := p2) (row := ⟨true, false, [w3, w4]⟩) (l := [w3, w4]) (by simp only [e_upd, e_putS, e_putN, e_t, e_c, Nat.reduceEqDiff, ↓reduceIte, reduceCtorEq, Nat.reduceAdd]) (by rw [rowAt_set (by simp; omega), if_pos rfl]; rfl) rfl rfl]
    refine ⟨hBH.app.set hp2', w3, w4, ?_, (n3.set hp2l).le hBH.1, (n4.set hp2l).le hBH.1⟩
    simp only [e_upd, e_putS, e_putN, e_t, e_c, Nat.reduceEqDiff, ↓reduceIte, reduceCtorEq, Nat.reduceAdd]
  · obtain ⟨E1, E2, E3⟩ := rfE_bad hc
    rw [E1, E2, E3]
    simp (disch := omega) only [sN, ↓reduceIte, Nat.reduceEqDiff, Nat.reduceAdd, Nat.reduceMul, Nat.reduceSub, reduceCtorEq, e_none, e_some, e_bindS, p_build, afill, List.map_cons, List.map_nil, Option.map_some]
    rw [x_storeNA (n := 2) (r := p2) (l := [.nilslice, .nilslice]) (l' := [.nilslice, .nilslice]) (by simp only [e_upd, e_putS, e_putN, e_t, e_c, Nat.reduceEqDiff, ↓reduceIte, reduceCtorEq, Nat.reduceAdd]) (by simp only [e_upd, e_putS, e_putN, e_t, e_c, Nat.reduceEqDiff, ↓reduceIte, reduceCtorEq, Nat.reduceAdd]) rfl q2 rfl rfl]
    simp (disch := omega) only [sN, ↓reduceIte, Nat.reduceEqDiff, Nat.reduceAdd, Nat.reduceMul, Nat.reduceSub, reduceCtorEq, e_none, e_some, e_bindS]
    refine ret_keep (by have := hBH.1; simp; omega) ?_
    rw [rs_xReduceB, ares_cell2 (r := p2) (row := ⟨true, false, [.nilslice, .nilslice]⟩) (l := [.nilslice, .nilslice]) (by simp only [e_upd, e_putS, e_putN, e_t, e_c, Nat.reduceEqDiff, ↓reduceIte, reduceCtorEq, Nat.reduceAdd]) (by rw [rowAt_set hp2l, if_pos rfl]; rfl) rfl rfl]
    refine ⟨hBH.set hp2', .nilslice, .nilslice, ?_, .nil, .nil⟩
    simp only [e_upd, e_putS, e_putN, e_t, e_c, Nat.reduceEqDiff, ↓reduceIte, reduceCtorEq, Nat.reduceAdd]

set_option maxHeartbeats 1000000 in
theorem rReduce_calls (H0 : AHeap) {q : Fr} (hq : q.ok H0) : ACalls Tryd.prog 29 [.agg [q.w, q.w2]] H0 (List.range H0.length) (AnsF (rfN q) (rfD q) (rfE q) H0) := by
  refine ACalls.body Tryd.func29 ent_rReduce ir_rReduce_ok rs_rReduce_ok Tryd.ntmps29 (by simp) rfl ?_
  unfold ir_rReduce
  have e0 : s0 [.agg [q.w, q.w2]] 0 = .agg [q.w, q.w2] := rfl
  have hz : [AV.nilslice, AV.nilslice].all AV.cell = true := rfl
  simp (disch := omega) only [sN, ↓reduceIte, Nat.reduceEqDiff, Nat.reduceAdd, Nat.reduceMul, Nat.reduceSub, reduceCtorEq, e_none, e_some, e_bindS, e0]
  rw [x_boxN (l := [q.w, q.w2]) (by simp only [e_upd, e_putS, e_putN, e_t, e_c, Nat.reduceEqDiff, ↓reduceIte, reduceCtorEq, Nat.reduceAdd, e0]) (by simp [hq.1.cell, hq.2.1.cell])]
  simp (disch := omega) only [sN, ↓reduceIte, Nat.reduceEqDiff, Nat.reduceAdd, Nat.reduceMul, Nat.reduceSub, reduceCtorEq, e_none, e_some, e_bindS]
  rw [x_allocA hz]
  obtain ⟨H1, hH1⟩ : ∃ h, h = H0 ++ [rw_ [q.w, q.w2]] ++ [rw_ [AV.nilslice, AV.nilslice]] := ⟨_, rfl⟩
  have hB1 : Base H0 H1 := by rw [hH1]; exact Base.one.app
  have r1 : Vh.rowAt H1 H0.length = some ⟨true, false, [q.w, q.w2]⟩ := by rw [hH1, rowAt_append_left (by simp)]; simp [Vh.rowAt, rw_]
  have r2 : Vh.rowAt H1 (H0 ++ [rw_ [q.w, q.w2]]).length = some ⟨true, false, [.nilslice, .nilslice]⟩ := by rw [hH1]; simp [Vh.rowAt, rw_]
  obtain ⟨p2, hp2⟩ : ∃ p, p = (H0 ++ [rw_ [q.w, q.w2]]).length := ⟨_, rfl⟩
  have hp2' : H0.length ≤ p2 := by rw [hp2]; simp
  rw [← hp2] at r2
  rw [← hH1, ← hp2]
  clear hH1 hp2
  simp (disch := omega) only [sN, ↓reduceIte, Nat.reduceEqDiff, Nat.reduceAdd, Nat.reduceMul, Nat.reduceSub, reduceCtorEq, e_none, e_some, e_bindS]
  rw [x_loadNA (n := 2) (r := H0.length) (l := [q.w, q.w2]) (by simp only [e_upd, e_putS, e_putN, e_t, e_c, Nat.reduceEqDiff, ↓reduceIte, reduceCtorEq, Nat.reduceAdd]) r1 rfl rfl]
  simp (disch := omega) only [sN, ↓reduceIte, Nat.reduceEqDiff, Nat.reduceAdd, Nat.reduceMul, Nat.reduceSub, reduceCtorEq, e_none, e_some, e_bindS, List.map_cons, List.map_nil]
  refine ⟨_, (rCheckFrac_calls H1 (hq.base hB1)).g.mono ?_⟩
  rintro v H ⟨rfl, hB12⟩
  have hBH := hB1.trans hB12
  have q1 := hB12.row r1
  have q2 := hB12.row r2
  have hp2l := row_lt q2
  have hqH := hq.base hBH
  by_cases hc : cfE [q] = 0
  · obtain ⟨l1, l2, l3⟩ := cfE1_short hc
    obtain ⟨E1, E2, E3⟩ := rfE_good hc
    rw [hc, E1, E2, E3]
    obtain ⟨x0, xl⟩ := hqH.1.dgl
    obtain ⟨y0, yl⟩ := hqH.2.1.dgl
    simp (disch := omega) only [sN, ↓reduceIte, Nat.reduceEqDiff, Nat.reduceAdd, Nat.reduceMul, Nat.reduceSub, reduceCtorEq, e_none, e_some, e_bindS, q1, p_fieldAddr, Nat.zero_add, Option.bind_some, Option.map_some, List.getElem?_cons_zero, List.getElem?_cons_succ, List.map_cons, List.map_nil]
    refine call_digV0 hqH.1 hqH.2.2.1 fun R1 v1 a1 m1 c1 => ?_
    simp (disch := omega) only [sN, ↓reduceIte, Nat.reduceEqDiff, Nat.reduceAdd, Nat.reduceMul, Nat.reduceSub, reduceCtorEq, e_none, e_some, e_bindS, List.map_cons, List.map_nil]
    refine call_digV (hqH.2.1.base Base.one) hqH.2.2.2 fun R2 v2 a2 m2 c2 => ?_
    simp (disch := omega) only [sN, ↓reduceIte, Nat.reduceEqDiff, Nat.reduceAdd, Nat.reduceMul, Nat.reduceSub, reduceCtorEq, e_none, e_some, e_bindS, List.map_cons, List.map_nil]
    have hred := rreducedB_calls (H ++ R1 ++ R2) q.x.toNat q.y.toNat (by omega) (Nat.le_trans xl (by omega)) (Nat.le_trans yl (by omega)) (m1.base Base.one) m2
    rw [Int.toNat_of_nonneg x0, Int.toNat_of_nonneg y0] at hred
    refine ⟨_, hred.g.mono ?_⟩
    rintro v3 H3 ⟨hB3, w3, w4, rfl, n3, n4⟩
    have hB2 : Base H H3 := Base.one.app.trans hB3
    have hl3 : H.length ≤ (H ++ R1 ++ R2).length := by simp
    simp (disch := omega) only [sN, ↓reduceIte, Nat.reduceEqDiff, Nat.reduceAdd, Nat.reduceMul, Nat.reduceSub, reduceCtorEq, e_none, e_some, e_bindS, List.getElem?_cons_zero, List.getElem?_cons_succ]
    rw [x_storeNA (n := 2) (r := p2) (l := [.nilslice, .nilslice]) (l' := [w3, w4]) (by simp only [e_upd, e_putS, e_putN, e_t, e_c, Nat.reduceEqDiff, ↓reduceIte, reduceCtorEq, Nat.reduceAdd]) (by simp only [e_upd, e_putS, e_putN, e_t, e_c, Nat.reduceEqDiff, ↓reduceIte, reduceCtorEq, Nat.reduceAdd]) (by simp [n3.cell, n4.cell]) (hB2.row q2) rfl rfl]
    simp (disch := omega) only [sN, ↓reduceIte, Nat.reduceEqDiff, Nat.reduceAdd, Nat.reduceMul, Nat.reduceSub, reduceCtorEq, e_none, e_some, e_bindS]
    refine ret_keep (by have := (hBH.trans hB2).1; simp; omega) ?_
    rw [rs_rReduce, ares_cell2 (r := p2) (row := ⟨true, false, [w3, w4]⟩) (l := [w3, w4]) (by simp only [e_upd, e_putS, e_putN, e_t, e_c, Nat.reduceEqDiff, ↓reduceIte, reduceCtorEq, Nat.reduceAdd]) (by rw [rowAt_set (by have := hB2.1; omega), if_pos rfl]; rfl) rfl rfl]
    refine ⟨(hBH.trans hB2).set hp2', w3, w4, ?_, (n3.set (by omega)).le (by have := hBH.1; omega), (n4.set (by omega)).le (by have := hBH.1; omega)⟩
    simp only [e_upd, e_putS, e_putN, e_t, e_c, Nat.reduceEqDiff, ↓reduceIte, reduceCtorEq, Nat.reduceAdd]
  · obtain ⟨E1, E2, E3⟩ := rfE_bad hc
    rw [E1, E2, E3]
    simp (disch := omega) only [sN, ↓reduceIte, Nat.reduceEqDiff, Nat.reduceAdd, Nat.reduceMul, Nat.reduceSub, reduceCtorEq, e_none, e_some, e_bindS, p_build, afill, List.map_cons, List.map_nil, Option.map_some]
    rw [x_storeNA (n := 2) (r := p2) (l := [.nilslice, .nilslice]) (l' := [.nilslice, .nilslice]) (by simp only [e_upd, e_putS, e_putN, e_t, e_c, Nat.reduceEqDiff, ↓reduceIte, reduceCtorEq, Nat.reduceAdd]) (by simp only [e_upd, e_putS, e_putN, e_t, e_c, Nat.reduceEqDiff, ↓reduceIte, reduceCtorEq, Nat.reduceAdd]) rfl q2 rfl rfl]
    simp (disch := omega) only [sN, ↓reduceIte, Nat.reduceEqDiff, Nat.reduceAdd, Nat.reduceMul, Nat.reduceSub, reduceCtorEq, e_none, e_some, e_bindS]
    refine ret_keep (by have := hBH.1; simp; omega) ?_
    rw [rs_rReduce, ares_cell2 (r := p2) (row := ⟨true, false, [.nilslice, .nilslice]⟩) (l := [.nilslice, .nilslice]) (by simp only [e_upd, e_putS, e_putN, e_t, e_c, Nat.reduceEqDiff, ↓reduceIte, reduceCtorEq, Nat.reduceAdd]) (by rw [rowAt_set hp2l, if_pos rfl]; rfl) rfl rfl]
    refine ⟨hBH.set hp2', .nilslice, .nilslice, ?_, .nil, .nil⟩
    simp only [e_upd, e_putS, e_putN, e_t, e_c, Nat.reduceEqDiff, ↓reduceIte, reduceCtorEq, Nat.reduceAdd]
end Go.Proofs.YtjmceapnhmeflaaDoor


/- Contracts: FracText, on both sides. -/
-- NEWSET
namespace Go.Proofs.YtjmceapnhmeflaaDoor
open Go Go.Vh

theorem in_digits {x : Int} : In1 76 x 50000 [] (UpP (.str (strOfNums (txN x.toNat)))) := fun κ l h1 h2 h3 h4 => by
  subst h4
  exact ⟨_, xdigits_calls κ l h1 h2 h3⟩
section
variable {K : St → AHeap → Prop} {d : Option Nat} {s : St} {H : AHeap}
theorem call_in1_0 {f : FuncId} {x : Int} {k a : Nat} {u : AV} {rest : List AV} {Q : AHeap → AV → AHeap → Prop} (h : In1 f x k rest Q) (hr : rest.all AV.flat = true) (hu : AtK H u x a k)
    (hK : ∀ (σ : List (Nat × Nat)) (H0 : AHeap) (v0 : AV) (H0' : AHeap), σ.length = H0.length → allRo H0 = true → Q H0 v0 H0' → K (putI d s (v0.ren (sig σ H.length))) (H ++ (H0'.drop H0.length).map (renRow (sig σ H.length)))) : thenC0 Tryd.prog K d s H (u :: rest) (.func f []) := by
  obtain ⟨κ, l, row, h1, rfl, h3, h4, h5, h6, h7⟩ := hu
  obtain ⟨W, hc⟩ := h κ l h1 h7 h5 h6
  refine call_do0 hc [(a, 0)] rfl ?_ (allRo_once rfl _) (allRo_img rfl _) ?_ ⟨seen_limbs h3 h4, trivial⟩ fun v0 H0' hq => ?_
  · simp [underL, mkS_under, flatL_under hr]
  · rw [n_lcons, flatL_ren hr, n_mkS0 (r' := a) rfl, List.append_nil]
  · have := hK [(a, 0)] [ro (ints .u32 l)] v0 H0' rfl rfl hq
    rw [m_merge, m_ro, m_nil]
    exact this
theorem call_text {x a : Nat} {u : AV} (hx : (Dg.dg x).length ≤ 100000) (hu : AtD H u x a) (hK : ∀ R, K (putI d s (.str (strOfNums (txN x)))) (H ++ R)) : thenC Tryd.prog K d s H [u] (.func 81 []) := by
  obtain ⟨κ, row, h1, rfl, h3, h4⟩ := hu
  refine call_c1 (da := 0) (rest := []) (rtext_calls κ x h1 hx) ints_flat rfl h3 (by rw [ints_length, Nat.zero_add]; exact AtD.len (H := H) (v := .any) (r := 0) h4) (by rw [List.drop_zero, ints_length, h4]) rfl ?_
  rintro v0 H0' ⟨R, rfl, rfl⟩
  exact hK _
theorem call_text0 {x a : Nat} {u : AV} (hx : (Dg.dg x).length ≤ 100000) (hu : AtD H u x a) (hK : ∀ R, K (putI d s (.str (strOfNums (txN x)))) (H ++ R)) : thenC0 Tryd.prog K d s H [u] (.func 81 []) := by
  obtain ⟨κ, row, h1, rfl, h3, h4⟩ := hu
  refine call_do0 (rtext_calls κ x h1 hx) [(a, 0)] rfl ?_ rfl rfl ?_ ⟨seen_ro (n := 1) (σ := sig [(a, 0)] H.length) h3 (by rw [ints_length, Nat.zero_add]; exact AtD.len (H := H) (v := .any) (r := 0) h4) (by rw [flatL_ren ints_flat, List.drop_zero, ints_length, h4]) (flatL_under ints_flat), trivial⟩ fun v0 H0' ⟨R, h5, h6⟩ => ?_
  · simp [underL, mkS_under]
  · rw [n_lcons, n_mkS0 (r' := a) rfl]; rfl
  · subst h5; subst h6
    rw [m_merge, m_ro, m_nil]
    exact hK _
end
theorem b_strAdd {x y : ByteArray} (h : x.size + y.size ≤ 9223372036854775807) : abin .add (.str x) (.str y) = some (.str (x ++ y)) := by
  show astr .add x y = _
  unfold astr
  simp only [if_pos h]
theorem txN_len {n k : Nat} (h : (n : Int) < BB ^ k) : (txN n).length ≤ 10 * k + 1 := by
  unfold txN
  split
  · simp
  · rw [List.length_reverse, tb_length]
    have h2 : 4294967296 ^ k ≤ (10 ^ 10) ^ k := Nat.pow_le_pow_left (by omega) k
    rw [← Nat.pow_mul] at h2
    have h1 : n < 4294967296 ^ k := by
      rw [show BB = ((4294967296 : Nat) : Int) from rfl, ← Int.natCast_pow] at h
      omega
    have := Dt.dg_len_le (n := n) (k := 10 * k) (by omega)
    omega
/-- the text of a fraction that is reduced -/
def slS (x y : Int) : ByteArray := (strOfNums (txN x.toNat) ++ ⟨#[47]⟩) ++ strOfNums (txN y.toNat)
def ftS (q : Fr) : ByteArray := if rfE q = 0 then slS (rfN q) (rfD q) else ⟨#[]⟩
theorem rf_lt {q : Fr} (h : rfE q = 0) : rfN q < BB ^ 64 ∧ rfD q < BB ^ 64 ∧ rfN q = redX q.x q.y ∧ rfD q = redX q.y q.x := by
  have hN : rfN q = redX q.x q.y := if_pos h
  have hD : rfD q = redX q.y q.x := if_pos h
  have hr : redE q.x q.y = 0 := by
    unfold rfE at h; split at h
    · exact h
    · rename_i h2; exact absurd h h2
  rw [hN, hD]
  unfold redE at hr; split at hr
  · rename_i h2; exact ⟨h2.1, h2.2, rfl, rfl⟩
  · omega
theorem size_app (x y : ByteArray) : (x ++ y).size = x.size + y.size := ByteArray.size_append
theorem size47 : (⟨#[47]⟩ : ByteArray).size = 1 := rfl

set_option maxHeartbeats 1000000 in
theorem xFracText_calls (H0 : AHeap) {q : Fr} (hq : q.ok H0) : ACalls Tryd.prog 25 [.agg [q.w, q.w2]] H0 (List.range H0.length) fun v H => v = .tuple [.str (ftS q), .int .i64 (rfE q)] ∧ Base H0 H := by
  refine ACalls.body Tryd.func25 ent_xFracText ir_xFracText_ok rs_xFracText_ok Tryd.ntmps25 (by simp) rfl ?_
  unfold ir_xFracText
  have e0 : s0 [.agg [q.w, q.w2]] 0 = .agg [q.w, q.w2] := rfl
  have hz : [AV.nilslice, AV.nilslice].all AV.cell = true := rfl
  simp (disch := omega) only [sN, ↓reduceIte, Nat.reduceEqDiff, Nat.reduceAdd, Nat.reduceMul, Nat.reduceSub, reduceCtorEq, e_none, e_some, e_bindS, e0]
  rw [x_boxN (l := [q.w, q.w2]) (by simp only [e_upd, e_putS, e_putN, e_t, e_c, Nat.reduceEqDiff, ↓reduceIte, reduceCtorEq, Nat.reduceAdd, e0]) (by simp [hq.1.cell, hq.2.1.cell])]
  have r1 : Vh.rowAt (H0 ++ [rw_ [q.w, q.w2]]) H0.length = some ⟨true, false, [q.w, q.w2]⟩ := by simp [Vh.rowAt, rw_]
  have hB1 : Base H0 (H0 ++ [rw_ [q.w, q.w2]]) := Base.one
  simp (disch := omega) only [sN, ↓reduceIte, Nat.reduceEqDiff, Nat.reduceAdd, Nat.reduceMul, Nat.reduceSub, reduceCtorEq, e_none, e_some, e_bindS]
  rw [x_loadNA (n := 2) (r := H0.length) (l := [q.w, q.w2]) (by simp only [e_upd, e_putS, e_putN, e_t, e_c, Nat.reduceEqDiff, ↓reduceIte, reduceCtorEq, Nat.reduceAdd]) r1 rfl rfl]
  simp (disch := omega) only [sN, ↓reduceIte, Nat.reduceEqDiff, Nat.reduceAdd, Nat.reduceMul, Nat.reduceSub, reduceCtorEq, e_none, e_some, e_bindS, List.map_cons, List.map_nil]
  refine ⟨_, (xReduce_calls _ (hq.base hB1)).g.mono ?_⟩
  rintro v H ⟨hB2, w1, w2, rfl, n1, n2⟩
  have hBH := hB1.trans hB2
  simp (disch := omega) only [sN, ↓reduceIte, Nat.reduceEqDiff, Nat.reduceAdd, Nat.reduceMul, Nat.reduceSub, reduceCtorEq, e_none, e_some, e_bindS, List.getElem?_cons_zero, List.getElem?_cons_succ]
  rw [x_allocA hz]
  simp (disch := omega) only [sN, ↓reduceIte, Nat.reduceEqDiff, Nat.reduceAdd, Nat.reduceMul, Nat.reduceSub, reduceCtorEq, e_none, e_some, e_bindS]
  rw [x_storeNA (n := 2) (r := H.length) (l := [.nilslice, .nilslice]) (l' := [w1, w2]) (by simp only [e_upd, e_putS, e_putN, e_t, e_c, Nat.reduceEqDiff, ↓reduceIte, reduceCtorEq, Nat.reduceAdd]) (by simp only [e_upd, e_putS, e_putN, e_t, e_c, Nat.reduceEqDiff, ↓reduceIte, reduceCtorEq, Nat.reduceAdd]) (by simp [n1.cell, n2.cell]) (by simp [Vh.rowAt, rw_]) rfl rfl, set_last]
  obtain ⟨H3, hH3⟩ : ∃ h, h = H ++ [rw_ [w1, w2]] := ⟨_, rfl⟩
  have hB3 : Base H0 H3 := by rw [hH3]; exact hBH.app
  have r4 : Vh.rowAt H3 H.length = some ⟨true, false, [w1, w2]⟩ := by rw [hH3]; simp [Vh.rowAt, rw_]
  have a1 : AtN H3 w1 (rfN q) := by rw [hH3] at *; exact n1.app.normAt r4
  have a2 : AtN H3 w2 (rfD q) := by rw [hH3] at *; exact n2.app.normAt r4
  rw [← hH3]
  clear n1 n2 hH3
  by_cases hc : rfE q = 0
  · obtain ⟨l1, l2, _, _⟩ := rf_lt hc
    have hF : ftS q = slS (rfN q) (rfD q) := if_pos hc
    rw [hF, hc]
    obtain ⟨b1, k1⟩ := a1.at l1
    obtain ⟨b2, k2⟩ := a2.at l2
    have t1 := txN_len (n := (rfN q).toNat) (k := 64) (by rw [Int.toNat_of_nonneg k1.nonneg]; exact l1)
    have t2 := txN_len (n := (rfD q).toNat) (k := 64) (by rw [Int.toNat_of_nonneg k2.nonneg]; exact l2)
    have s1 := str_size (txN (rfN q).toNat)
    have s2 := str_size (txN (rfD q).toNat)
    have p1 := b_strAdd (x := strOfNums (txN (rfN q).toNat)) (y := ⟨#[47]⟩) (by rw [size47]; omega)
    have p2 := b_strAdd (x := strOfNums (txN (rfN q).toNat) ++ ⟨#[47]⟩) (y := strOfNums (txN (rfD q).toNat)) (by rw [size_app, size47]; omega)
    simp (disch := omega) only [sN, ↓reduceIte, Nat.reduceEqDiff, Nat.reduceAdd, Nat.reduceMul, Nat.reduceSub, reduceCtorEq, e_none, e_some, e_bindS, r4, p_fieldAddr, Nat.zero_add, Option.bind_some, Option.map_some, List.getElem?_cons_zero, List.getElem?_cons_succ, List.map_cons, List.map_nil]
    refine call_in1_0 in_digits rfl (k1.mono (by omega)) (hk_P (fun _ => rfl) fun R1 => ?_)
    simp (disch := omega) only [sN, ↓reduceIte, Nat.reduceEqDiff, Nat.reduceAdd, Nat.reduceMul, Nat.reduceSub, reduceCtorEq, e_none, e_some, e_bindS, p1, List.map_cons, List.map_nil]
    refine call_in1 in_digits rfl (k2.mono (show 64 ≤ 50000 by omega)).app (hk_P (fun _ => rfl) fun R2 => ?_)
    simp (disch := omega) only [sN, ↓reduceIte, Nat.reduceEqDiff, Nat.reduceAdd, Nat.reduceMul, Nat.reduceSub, reduceCtorEq, e_none, e_some, e_bindS, p2]
    refine ret_keep (by have := hB3.1; simp; omega) ?_
    rw [rs_xFracText, q_tmp2, q_then]
    refine ⟨?_, hB3.app.app⟩
    simp only [e_upd, e_putS, e_putN, e_t, e_c, Nat.reduceEqDiff, ↓reduceIte, reduceCtorEq, Nat.reduceAdd]
    rfl
  · have hF : ftS q = ⟨#[]⟩ := if_neg hc
    rw [hF]
    simp (disch := omega) only [sN, ↓reduceIte, Nat.reduceEqDiff, Nat.reduceAdd, Nat.reduceMul, Nat.reduceSub, reduceCtorEq, e_none, e_some, e_bindS]
    refine ret_keep hB3.1 ?_
    rw [rs_xFracText, q_tmp2, q_then]
    refine ⟨?_, hB3⟩
    simp only [e_upd, e_putS, e_putN, e_t, e_c, Nat.reduceEqDiff, ↓reduceIte, reduceCtorEq, Nat.reduceAdd]

set_option maxHeartbeats 1000000 in
theorem rFracText_calls (H0 : AHeap) {q : Fr} (hq : q.ok H0) : ACalls Tryd.prog 30 [.agg [q.w, q.w2]] H0 (List.range H0.length) fun v H => v = .tuple [.str (ftS q), .int .i64 (rfE q)] ∧ Base H0 H := by
  refine ACalls.body Tryd.func30 ent_rFracText ir_rFracText_ok rs_rFracText_ok Tryd.ntmps30 (by simp) rfl ?_
  unfold ir_rFracText
  have e0 : s0 [.agg [q.w, q.w2]] 0 = .agg [q.w, q.w2] := rfl
  have hz : [AV.nilslice, AV.nilslice].all AV.cell = true := rfl
  simp (disch := omega) only [sN, ↓reduceIte, Nat.reduceEqDiff, Nat.reduceAdd, Nat.reduceMul, Nat.reduceSub, reduceCtorEq, e_none, e_some, e_bindS, e0]
  rw [x_boxN (l := [q.w, q.w2]) (by simp only [e_upd, e_putS, e_putN, e_t, e_c, Nat.reduceEqDiff, ↓reduceIte, reduceCtorEq, Nat.reduceAdd, e0]) (by simp [hq.1.cell, hq.2.1.cell])]
  have r1 : Vh.rowAt (H0 ++ [rw_ [q.w, q.w2]]) H0.length = some ⟨true, false, [q.w, q.w2]⟩ := by simp [Vh.rowAt, rw_]
  have hB1 : Base H0 (H0 ++ [rw_ [q.w, q.w2]]) := Base.one
  simp (disch := omega) only [sN, ↓reduceIte, Nat.reduceEqDiff, Nat.reduceAdd, Nat.reduceMul, Nat.reduceSub, reduceCtorEq, e_none, e_some, e_bindS]
  rw [x_loadNA (n := 2) (r := H0.length) (l := [q.w, q.w2]) (by simp only [e_upd, e_putS, e_putN, e_t, e_c, Nat.reduceEqDiff, ↓reduceIte, reduceCtorEq, Nat.reduceAdd]) r1 rfl rfl]
  simp (disch := omega) only [sN, ↓reduceIte, Nat.reduceEqDiff, Nat.reduceAdd, Nat.reduceMul, Nat.reduceSub, reduceCtorEq, e_none, e_some, e_bindS, List.map_cons, List.map_nil]
  refine ⟨_, (rReduce_calls _ (hq.base hB1)).g.mono ?_⟩
  rintro v H ⟨hB2, w1, w2, rfl, n1, n2⟩
  have hBH := hB1.trans hB2
  simp (disch := omega) only [sN, ↓reduceIte, Nat.reduceEqDiff, Nat.reduceAdd, Nat.reduceMul, Nat.reduceSub, reduceCtorEq, e_none, e_some, e_bindS, List.getElem?_cons_zero, List.getElem?_cons_succ]
  rw [x_allocA hz]
  simp (disch := omega) only [sN, ↓reduceIte, Nat.reduceEqDiff, Nat.reduceAdd, Nat.reduceMul, Nat.reduceSub, reduceCtorEq, e_none, e_some, e_bindS]
  rw [x_storeNA (n := 2) (r := H.length) (l := [.nilslice, .nilslice]) (l' := [w1, w2]) (by simp only [e_upd, e_putS, e_putN, e_t, e_c, Nat.reduceEqDiff, ↓reduceIte, reduceCtorEq, Nat.reduceAdd]) (by simp only [e_upd, e_putS, e_putN, e_t, e_c, Nat.reduceEqDiff, ↓reduceIte, reduceCtorEq, Nat.reduceAdd]) (by simp [n1.cell, n2.cell]) (by simp [Vh.rowAt, rw_]) rfl rfl, set_last]
  obtain ⟨H3, hH3⟩ : ∃ h, h = H ++ [rw_ [w1, w2]] := ⟨_, rfl⟩
  have hB3 : Base H0 H3 := by rw [hH3]; exact hBH.app
  have r4 : Vh.rowAt H3 H.length = some ⟨true, false, [w1, w2]⟩ := by rw [hH3]; simp [Vh.rowAt, rw_]
  have a1 : AtN H3 w1 (rfN q) := by rw [hH3] at *; exact n1.app.normAt r4
  have a2 : AtN H3 w2 (rfD q) := by rw [hH3] at *; exact n2.app.normAt r4
  rw [← hH3]
  clear n1 n2 hH3
  by_cases hc : rfE q = 0
  · obtain ⟨l1, l2, _, _⟩ := rf_lt hc
    have hF : ftS q = slS (rfN q) (rfD q) := if_pos hc
    rw [hF, hc]
    obtain ⟨c1, m1, k1⟩ := a1.x l1
    obtain ⟨c2, m2, k2⟩ := a2.x l2
    obtain ⟨x0, xl⟩ := k1.dgl
    obtain ⟨y0, yl⟩ := k2.dgl
    have t1 := txN_len (n := (rfN q).toNat) (k := 64) (by rw [Int.toNat_of_nonneg x0]; exact l1)
    have t2 := txN_len (n := (rfD q).toNat) (k := 64) (by rw [Int.toNat_of_nonneg y0]; exact l2)
    have s1 := str_size (txN (rfN q).toNat)
    have s2 := str_size (txN (rfD q).toNat)
    have p1 := b_strAdd (x := strOfNums (txN (rfN q).toNat)) (y := ⟨#[47]⟩) (by rw [size47]; omega)
    have p2 := b_strAdd (x := strOfNums (txN (rfN q).toNat) ++ ⟨#[47]⟩) (y := strOfNums (txN (rfD q).toNat)) (by rw [size_app, size47]; omega)
    simp (disch := omega) only [sN, ↓reduceIte, Nat.reduceEqDiff, Nat.reduceAdd, Nat.reduceMul, Nat.reduceSub, reduceCtorEq, e_none, e_some, e_bindS, r4, p_fieldAddr, Nat.zero_add, Option.bind_some, Option.map_some, List.getElem?_cons_zero, List.getElem?_cons_succ, List.map_cons, List.map_nil]
    refine call_digV0 k1 (by omega) fun R1 v1 b1 d1 _ => ?_
    simp (disch := omega) only [sN, ↓reduceIte, Nat.reduceEqDiff, Nat.reduceAdd, Nat.reduceMul, Nat.reduceSub, reduceCtorEq, e_none, e_some, e_bindS, List.map_cons, List.map_nil]
    refine call_text0 (Nat.le_trans xl (by omega)) d1 fun R2 => ?_
    simp (disch := omega) only [sN, ↓reduceIte, Nat.reduceEqDiff, Nat.reduceAdd, Nat.reduceMul, Nat.reduceSub, reduceCtorEq, e_none, e_some, e_bindS, p1, List.map_cons, List.map_nil]
    refine call_digV (k2.base Base.one.app) (by omega) fun R3 v3 b3 d3 _ => ?_
    simp (disch := omega) only [sN, ↓reduceIte, Nat.reduceEqDiff, Nat.reduceAdd, Nat.reduceMul, Nat.reduceSub, reduceCtorEq, e_none, e_some, e_bindS, List.map_cons, List.map_nil]
    refine call_text (Nat.le_trans yl (by omega)) d3 fun R4 => ?_
    simp (disch := omega) only [sN, ↓reduceIte, Nat.reduceEqDiff, Nat.reduceAdd, Nat.reduceMul, Nat.reduceSub, reduceCtorEq, e_none, e_some, e_bindS, p2]
    refine ret_keep (by have := hB3.1; simp; omega) ?_
    rw [rs_rFracText, q_tmp2, q_then]
    refine ⟨?_, hB3.app.app.app.app⟩
    simp only [e_upd, e_putS, e_putN, e_t, e_c, Nat.reduceEqDiff, ↓reduceIte, reduceCtorEq, Nat.reduceAdd]
    rfl
  · have hF : ftS q = ⟨#[]⟩ := if_neg hc
    rw [hF]
    simp (disch := omega) only [sN, ↓reduceIte, Nat.reduceEqDiff, Nat.reduceAdd, Nat.reduceMul, Nat.reduceSub, reduceCtorEq, e_none, e_some, e_bindS]
    refine ret_keep hB3.1 ?_
    rw [rs_rFracText, q_tmp2, q_then]
    refine ⟨?_, hB3⟩
    simp only [e_upd, e_putS, e_putN, e_t, e_c, Nat.reduceEqDiff, ↓reduceIte, reduceCtorEq, Nat.reduceAdd]
end Go.Proofs.YtjmceapnhmeflaaDoor

