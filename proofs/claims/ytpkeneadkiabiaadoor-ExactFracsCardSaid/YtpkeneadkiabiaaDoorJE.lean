/- Contracts: exact's products of fractions, and what is common to sums and differences: the closures. -/
import Derived.Test.YtpkeneadkiabiaaDoorVX
import Derived.Test.YtpkeneadkiabiaaDoorJC
set_option linter.unusedSimpArgs false
set_option linter.unusedVariables false
-- NEWSET
namespace Go.Proofs.YtpkeneadkiabiaaDoor
open Go Go.Vh

theorem fracMul1_calls (H0 : AHeap) {q p : Fr} {a b : Nat} (ha : Vh.rowAt H0 a = some ⟨true, false, [q.w, q.w2]⟩) (hb : Vh.rowAt H0 b = some ⟨true, false, [p.w, p.w2]⟩) (hq : q.ok H0) (hp : p.ok H0) :
    ACalls Tryd.prog 93 [.ptr a 0, .ptr b 0] H0 (List.range H0.length) fun v H => v = .int .i64 (cfE [q, p]) ∧ Base H0 H := by
  refine ACalls.body Tryd.func93 ent_fracMul1 ir_fracMul1_ok rs_fracMul1_ok Tryd.ntmps93 (by simp) rfl ?_
  unfold ir_fracMul1
  have e0 : s0 [.ptr a 0, .ptr b 0] 0 = .ptr a 0 := rfl
  have e1 : s0 [.ptr a 0, .ptr b 0] 1 = .ptr b 0 := rfl
  simp (disch := omega) only [sN, ↓reduceIte, Nat.reduceEqDiff, Nat.reduceAdd, Nat.reduceMul, Nat.reduceSub, reduceCtorEq, e_none, e_some, e_bindS, e0, e1]
  rw [x_loadNA (n := 2) (r := a) (l := [q.w, q.w2]) (by simp only [e_upd, e_putS, e_putN, e_t, e_c, Nat.reduceEqDiff, ↓reduceIte, reduceCtorEq, Nat.reduceAdd, e0]) ha rfl rfl]
  simp (disch := omega) only [sN, ↓reduceIte, Nat.reduceEqDiff, Nat.reduceAdd, Nat.reduceMul, Nat.reduceSub, reduceCtorEq, e_none, e_some, e_bindS, e0, e1]
  rw [x_loadNA (n := 2) (r := b) (l := [p.w, p.w2]) (by simp only [e_upd, e_putS, e_putN, e_t, e_c, Nat.reduceEqDiff, ↓reduceIte, reduceCtorEq, Nat.reduceAdd, e1]) hb rfl rfl]
  simp (disch := omega) only [sN, ↓reduceIte, Nat.reduceEqDiff, Nat.reduceAdd, Nat.reduceMul, Nat.reduceSub, reduceCtorEq, e_none, e_some, e_bindS]
  rw [x_bsF2 (v1 := q.w) (v2 := q.w2) (v3 := p.w) (v4 := p.w2) (by simp only [e_upd, e_putS, e_putN, e_t, e_c, Nat.reduceEqDiff, ↓reduceIte, reduceCtorEq, Nat.reduceAdd]) (by simp only [e_upd, e_putS, e_putN, e_t, e_c, Nat.reduceEqDiff, ↓reduceIte, reduceCtorEq, Nat.reduceAdd]) hq.1.cell hq.2.1.cell hp.1.cell hp.2.1.cell]
  simp (disch := omega) only [sN, ↓reduceIte, Nat.reduceEqDiff, Nat.reduceAdd, Nat.reduceMul, Nat.reduceSub, reduceCtorEq, e_none, e_some, e_bindS, List.map_cons, List.map_nil]
  refine ⟨_, (checkFracs_calls (H0 ++ [rw_ [q.w, q.w2, p.w, p.w2]]) [q, p] (n := 2) (r := H0.length) (row := ⟨true, false, [q.w, q.w2, p.w, p.w2]⟩) rfl (by omega) (by simp [Vh.rowAt, rw_]) rfl ?_).g.mono ?_⟩
  · intro f hf
    simp only [List.mem_cons, List.not_mem_nil, or_false] at hf
    rcases hf with rfl | rfl
    · exact hq.base Base.one
    · exact hp.base Base.one
  rintro v H ⟨rfl, hB⟩
  have hBH := Base.one.trans hB
  simp (disch := omega) only [sN, ↓reduceIte, Nat.reduceEqDiff, Nat.reduceAdd, Nat.reduceMul, Nat.reduceSub, reduceCtorEq, e_none, e_some, e_bindS]
  refine ret_keep hBH.1 ?_
  rw [rs_fracMul1, q_tmp, q_then]
  refine ⟨?_, hBH⟩
  simp only [e_upd, e_putS, e_putN, e_t, e_c, Nat.reduceEqDiff, ↓reduceIte, reduceCtorEq, Nat.reduceAdd]

theorem over1_calls (H0 : AHeap) {q p : Fr} {a b : Nat} (ha : Vh.rowAt H0 a = some ⟨true, false, [q.w, q.w2]⟩) (hb : Vh.rowAt H0 b = some ⟨true, false, [p.w, p.w2]⟩) (hq : q.ok H0) (hp : p.ok H0) :
    ACalls Tryd.prog 122 [.ptr a 0, .ptr b 0] H0 (List.range H0.length) fun v H => v = .int .i64 (cfE [q, p]) ∧ Base H0 H := by
  refine ACalls.body Tryd.func122 ent_over1 ir_over1_ok rs_over1_ok Tryd.ntmps122 (by simp) rfl ?_
  unfold ir_over1
  have e0 : s0 [.ptr a 0, .ptr b 0] 0 = .ptr a 0 := rfl
  have e1 : s0 [.ptr a 0, .ptr b 0] 1 = .ptr b 0 := rfl
  simp (disch := omega) only [sN, ↓reduceIte, Nat.reduceEqDiff, Nat.reduceAdd, Nat.reduceMul, Nat.reduceSub, reduceCtorEq, e_none, e_some, e_bindS, e0, e1]
  rw [x_loadNA (n := 2) (r := a) (l := [q.w, q.w2]) (by simp only [e_upd, e_putS, e_putN, e_t, e_c, Nat.reduceEqDiff, ↓reduceIte, reduceCtorEq, Nat.reduceAdd, e0]) ha rfl rfl]
  simp (disch := omega) only [sN, ↓reduceIte, Nat.reduceEqDiff, Nat.reduceAdd, Nat.reduceMul, Nat.reduceSub, reduceCtorEq, e_none, e_some, e_bindS, e0, e1]
  rw [x_loadNA (n := 2) (r := b) (l := [p.w, p.w2]) (by simp only [e_upd, e_putS, e_putN, e_t, e_c, Nat.reduceEqDiff, ↓reduceIte, reduceCtorEq, Nat.reduceAdd, e1]) hb rfl rfl]
  simp (disch := omega) only [sN, ↓reduceIte, Nat.reduceEqDiff, Nat.reduceAdd, Nat.reduceMul, Nat.reduceSub, reduceCtorEq, e_none, e_some, e_bindS]
  rw [x_bsF2 (v1 := q.w) (v2 := q.w2) (v3 := p.w) (v4 := p.w2) (by simp only [e_upd, e_putS, e_putN, e_t, e_c, Nat.reduceEqDiff, ↓reduceIte, reduceCtorEq, Nat.reduceAdd]) (by simp only [e_upd, e_putS, e_putN, e_t, e_c, Nat.reduceEqDiff, ↓reduceIte, reduceCtorEq, Nat.reduceAdd]) hq.1.cell hq.2.1.cell hp.1.cell hp.2.1.cell]
  simp (disch := omega) only [sN, ↓reduceIte, Nat.reduceEqDiff, Nat.reduceAdd, Nat.reduceMul, Nat.reduceSub, reduceCtorEq, e_none, e_some, e_bindS, List.map_cons, List.map_nil]
  refine ⟨_, (checkFracs_calls (H0 ++ [rw_ [q.w, q.w2, p.w, p.w2]]) [q, p] (n := 2) (r := H0.length) (row := ⟨true, false, [q.w, q.w2, p.w, p.w2]⟩) rfl (by omega) (by simp [Vh.rowAt, rw_]) rfl ?_).g.mono ?_⟩
  · intro f hf
    simp only [List.mem_cons, List.not_mem_nil, or_false] at hf
    rcases hf with rfl | rfl
    · exact hq.base Base.one
    · exact hp.base Base.one
  rintro v H ⟨rfl, hB⟩
  have hBH := Base.one.trans hB
  simp (disch := omega) only [sN, ↓reduceIte, Nat.reduceEqDiff, Nat.reduceAdd, Nat.reduceMul, Nat.reduceSub, reduceCtorEq, e_none, e_some, e_bindS]
  refine ret_keep hBH.1 ?_
  rw [rs_over1, q_tmp, q_then]
  refine ⟨?_, hBH⟩
  simp only [e_upd, e_putS, e_putN, e_t, e_c, Nat.reduceEqDiff, ↓reduceIte, reduceCtorEq, Nat.reduceAdd]

/-- Numbers as the parts of an answer. -/
theorem Fr.ok.ks {H : AHeap} {q : Fr} (h : q.ok H) (h1 : q.n ≤ 64) (h2 : q.m ≤ 64) : (∃ r, AtK H q.w q.x r 64) ∧ ∃ r, AtK H q.w2 q.y r 64 := ⟨h.1.k h1, h.2.1.k h2⟩

set_option maxHeartbeats 1000000 in
theorem fracMul2_calls (H0 : AHeap) {q p : Fr} {a b c : Nat} (ha : Vh.rowAt H0 a = some ⟨true, false, [q.w, q.w2]⟩) (hb : Vh.rowAt H0 b = some ⟨true, false, [p.w, p.w2]⟩) (hc : Vh.rowAt H0 c = some ⟨true, false, [.nilslice, .nilslice]⟩) (hq : q.ok H0) (hp : p.ok H0) (hg : cfE [q, p] = 0) :
    ACalls Tryd.prog 94 [.ptr a 0, .ptr b 0, .ptr c 0] H0 (List.range H0.length) fun v H => v = .int .i64 (redE (q.x * p.x) (q.y * p.y)) ∧ ∃ R u1 u2, H = (H0 ++ R).set c (rw_ [u1, u2]) ∧ NumV (H0 ++ R) u1 (if redE (q.x * p.x) (q.y * p.y) = 0 then redX (q.x * p.x) (q.y * p.y) else 0) H0.length ∧ NumV (H0 ++ R) u2 (if redE (q.x * p.x) (q.y * p.y) = 0 then redX (q.y * p.y) (q.x * p.x) else 0) H0.length := by
  refine ACalls.body Tryd.func94 ent_fracMul2 ir_fracMul2_ok rs_fracMul2_ok Tryd.ntmps94 (by simp) rfl ?_
  unfold ir_fracMul2
  have e0 : s0 [.ptr a 0, .ptr b 0, .ptr c 0] 0 = .ptr a 0 := rfl
  have e1 : s0 [.ptr a 0, .ptr b 0, .ptr c 0] 1 = .ptr b 0 := rfl
  have e2 : s0 [.ptr a 0, .ptr b 0, .ptr c 0] 2 = .ptr c 0 := rfl
  obtain ⟨l1, l2, l3, l4, y1, y2⟩ := cfE2_good hg
  obtain ⟨⟨i1, k1⟩, i2, k2⟩ := hq.ks l1 l2
  obtain ⟨⟨i3, k3⟩, i4, k4⟩ := hp.ks l3 l4
  have hcl := row_lt hc
  have bN := mul_pow k1.nonneg k3.nonneg k1.lt_pow k3.lt_pow
  have bD := mul_pow k2.nonneg k4.nonneg k2.lt_pow k4.lt_pow
  have hpos : 0 < q.y * p.y := Int.mul_pos (by have := k2.nonneg; omega) (by have := k4.nonneg; omega)
  simp (disch := omega) only [sN, ↓reduceIte, Nat.reduceEqDiff, Nat.reduceAdd, Nat.reduceMul, Nat.reduceSub, reduceCtorEq, e_none, e_some, e_bindS, e0, e1, e2, ha, hb, p_fieldAddr, Nat.zero_add, Option.bind_some, Option.map_some, List.getElem?_cons_zero, List.getElem?_cons_succ, List.map_cons, List.map_nil]
  refine call_in2_0 in_mul rfl (k1.mono (by omega)) (k3.mono (by omega)) (hk_N fun R1 v1 n1 => ?_)
  simp (disch := omega) only [sN, ↓reduceIte, Nat.reduceEqDiff, Nat.reduceAdd, Nat.reduceMul, Nat.reduceSub, reduceCtorEq, e_none, e_some, e_bindS, List.map_cons, List.map_nil]
  have ha1 : Vh.rowAt (H0 ++ R1) a = some ⟨true, false, [q.w, q.w2]⟩ := Base.one.row ha
  obtain ⟨j1, m1⟩ := (n1.normAt ha1).at bN
  refine call_in2 in_mul rfl (k2.mono (show 64 ≤ 100000 by omega)).app (k4.mono (show 64 ≤ 100000 by omega)).app (hk_N fun R2 v2 n2 => ?_)
  simp (disch := omega) only [sN, ↓reduceIte, Nat.reduceEqDiff, Nat.reduceAdd, Nat.reduceMul, Nat.reduceSub, reduceCtorEq, e_none, e_some, e_bindS, List.map_cons, List.map_nil]
  have ha2 : Vh.rowAt (H0 ++ R1 ++ R2) a = some ⟨true, false, [q.w, q.w2]⟩ := Base.one.row ha1
  obtain ⟨j2, m2⟩ := (n2.normAt ha2).at bD
  refine call_in2 (in_reduced hpos) rfl (m1.mono (by omega)).app (m2.mono (by omega)) (hk_F fun R3 u1 u2 n3 n4 => ?_)
  simp (disch := omega) only [sN, ↓reduceIte, Nat.reduceEqDiff, Nat.reduceAdd, Nat.reduceMul, Nat.reduceSub, reduceCtorEq, e_none, e_some, e_bindS, e2, List.getElem?_cons_zero, List.getElem?_cons_succ]
  rw [x_storeNA (n := 2) (r := c) (l := [.nilslice, .nilslice]) (l' := [u1, u2]) (by simp only [e_upd, e_putS, e_putN, e_t, e_c, Nat.reduceEqDiff, ↓reduceIte, reduceCtorEq, Nat.reduceAdd, e2]) (by simp only [e_upd, e_putS, e_putN, e_t, e_c, Nat.reduceEqDiff, ↓reduceIte, reduceCtorEq, Nat.reduceAdd]) (by simp [n3.cell, n4.cell]) (Base.one.app.app.row hc) rfl rfl]
  simp (disch := omega) only [sN, ↓reduceIte, Nat.reduceEqDiff, Nat.reduceAdd, Nat.reduceMul, Nat.reduceSub, reduceCtorEq, e_none, e_some, e_bindS]
  refine ret_keep (by simp <;> omega) ?_
  rw [rs_fracMul2, q_tmp, q_then]
  refine ⟨?_, R1 ++ R2 ++ R3, u1, u2, by simp [List.append_assoc], ?_, ?_⟩
  · simp only [e_upd, e_putS, e_putN, e_t, e_c, Nat.reduceEqDiff, ↓reduceIte, reduceCtorEq, Nat.reduceAdd]
  · have := n3.le (m' := H0.length) (by simp <;> omega)
    simpa [List.append_assoc] using this
  · have := n4.le (m' := H0.length) (by simp <;> omega)
    simpa [List.append_assoc] using this
end Go.Proofs.YtpkeneadkiabiaaDoor


/- Contracts: exact's products of fractions. -/
-- NEWSET
namespace Go.Proofs.YtpkeneadkiabiaaDoor
open Go Go.Vh

/-- the parts of an answer -/
def anN (c x y : Int) : Int := if c = 0 then (if redE x y = 0 then redX x y else 0) else 0
def anD (c x y : Int) : Int := if c = 0 then (if redE x y = 0 then redX y x else 0) else 0
def anE (c x y : Int) : Int := if c = 0 then redE x y else c
theorem x_bsK2 {s : St} {H : AHeap} {x y : Opd} {v1 v2 z1 z2 : AV} (h1 : evo s x = v1) (h2 : evo s y = v2) (c1 : v1.cell = true) (c2 : v2.cell = true) (d1 : z1.cell = true) (d2 : z2.cell = true) : ieff (.buildSlice 2 [z1, z2] [(0, (1, x)), (1, (1, y))]) s H = some (.slice H.length 0 2 2, H ++ [rw_ [v1, v2]]) := by
  simp [ieff, h1, h2, afill, aparts_cell c1, aparts_cell c2, c1, c2, anew, rw_]

/-- how the heap is between the steps: the boxes, the closures and the result -/
structure FB (H1 H : AHeap) (g c : Nat) (fs : List AV) (u1 u2 : AV) : Prop where
  base : Base H1 H
  fns : Vh.rowAt H g = some ⟨true, false, fs⟩
  res : Vh.rowAt H c = some ⟨true, false, [u1, u2]⟩
theorem NumV.base2 {H H' : AHeap} {w : AV} {x : Int} {m : Nat} (h : NumV H w x m) (hb : Base H H') : NumV H' w x m := by
  rcases h with h | ⟨κ, l, row, r, h1, h2, h3, h4⟩
  · exact .inl h
  · exact .inr ⟨κ, l, row, r, h1, h2, hb.row h3, h4⟩

set_option maxHeartbeats 1000000 in
theorem xFracMul_calls (H0 : AHeap) {q p : Fr} (hq : q.ok H0) (hp : p.ok H0) : ACalls Tryd.prog 37 [.agg [q.w, q.w2], .agg [p.w, p.w2]] H0 (List.range H0.length) (AnsO (cfE [q, p]) (q.x * p.x) (q.y * p.y) H0) := by
  refine ACalls.body Tryd.func37 ent_xFracMul ir_xFracMul_ok rs_xFracMul_ok Tryd.ntmps37 (by simp) rfl ?_
  unfold ir_xFracMul
  show iwp _ _ _ (retPost _ _ (AnsF (anN (cfE [q, p]) (q.x * p.x) (q.y * p.y)) (anD (cfE [q, p]) (q.x * p.x) (q.y * p.y)) (anE (cfE [q, p]) (q.x * p.x) (q.y * p.y)) H0)) _ _
  have e0 : s0 [.agg [q.w, q.w2], .agg [p.w, p.w2]] 0 = .agg [q.w, q.w2] := rfl
  have e1 : s0 [.agg [q.w, q.w2], .agg [p.w, p.w2]] 1 = .agg [p.w, p.w2] := rfl
  have hz : [AV.nilslice, AV.nilslice].all AV.cell = true := rfl
  simp (disch := omega) only [sN, ↓reduceIte, Nat.reduceEqDiff, Nat.reduceAdd, Nat.reduceMul, Nat.reduceSub, reduceCtorEq, e_none, e_some, e_bindS, e0, e1]
  rw [x_boxN (l := [q.w, q.w2]) (by simp only [e_upd, e_putS, e_putN, e_t, e_c, Nat.reduceEqDiff, ↓reduceIte, reduceCtorEq, Nat.reduceAdd, e0]) (by simp [hq.1.cell, hq.2.1.cell])]
  simp (disch := omega) only [sN, ↓reduceIte, Nat.reduceEqDiff, Nat.reduceAdd, Nat.reduceMul, Nat.reduceSub, reduceCtorEq, e_none, e_some, e_bindS, e0, e1]
  rw [x_boxN (l := [p.w, p.w2]) (by simp only [e_upd, e_putS, e_putN, e_t, e_c, Nat.reduceEqDiff, ↓reduceIte, reduceCtorEq, Nat.reduceAdd, e1]) (by simp [hp.1.cell, hp.2.1.cell])]
  obtain ⟨p2, hp2⟩ : ∃ r, r = (H0 ++ [rw_ [q.w, q.w2]]).length := ⟨_, rfl⟩
  have hp2' : H0.length ≤ p2 := by rw [hp2]; simp
  obtain ⟨H1, hH1⟩ : ∃ h, h = H0 ++ [rw_ [q.w, q.w2]] ++ [rw_ [p.w, p.w2]] := ⟨_, rfl⟩
  have hB1 : Base H0 H1 := by rw [hH1]; exact Base.one.app
  have r1 : Vh.rowAt H1 H0.length = some ⟨true, false, [q.w, q.w2]⟩ := by rw [hH1, rowAt_append_left (by simp)]; simp [Vh.rowAt, rw_]
  have r2 : Vh.rowAt H1 p2 = some ⟨true, false, [p.w, p.w2]⟩ := by rw [hH1, hp2]; simp [Vh.rowAt, rw_]
  rw [← hp2, ← hH1]
  clear hH1 hp2
  simp (disch := omega) only [sN, ↓reduceIte, Nat.reduceEqDiff, Nat.reduceAdd, Nat.reduceMul, Nat.reduceSub, reduceCtorEq, e_none, e_some, e_bindS]
  rw [x_allocA hz]
  obtain ⟨p3, hp3⟩ : ∃ r, r = H1.length := ⟨_, rfl⟩
  obtain ⟨H2, hH2⟩ : ∃ h, h = H1 ++ [rw_ [AV.nilslice, AV.nilslice]] := ⟨_, rfl⟩
  have hB2 : Base H0 H2 := by rw [hH2]; exact hB1.app
  have hp3' : H0.length ≤ p3 := by rw [hp3]; exact hB1.1
  have s1 : Vh.rowAt H2 H0.length = some ⟨true, false, [q.w, q.w2]⟩ := by rw [hH2]; exact Base.one.row r1
  have s2 : Vh.rowAt H2 p2 = some ⟨true, false, [p.w, p.w2]⟩ := by rw [hH2]; exact Base.one.row r2
  have s3 : Vh.rowAt H2 p3 = some ⟨true, false, [.nilslice, .nilslice]⟩ := by rw [hH2, hp3]; simp [Vh.rowAt, rw_]
  rw [← hp3, ← hH2]
  clear hH2 hp3
  simp (disch := omega) only [sN, ↓reduceIte, Nat.reduceEqDiff, Nat.reduceAdd, Nat.reduceMul, Nat.reduceSub, reduceCtorEq, e_none, e_some, e_bindS]
  rw [x_allocA hz]
  obtain ⟨c, hcd⟩ : ∃ r, r = H2.length := ⟨_, rfl⟩
  rw [← hcd]
  simp (disch := omega) only [sN, ↓reduceIte, Nat.reduceEqDiff, Nat.reduceAdd, Nat.reduceMul, Nat.reduceSub, reduceCtorEq, e_none, e_some, e_bindS, p_makeFunc, Option.bind_some, Option.map_some, List.map_cons, List.map_nil]
  rw [x_bsK2 (v1 := .func 93 [.ptr H0.length 0, .ptr p2 0]) (v2 := .func 94 [.ptr H0.length 0, .ptr p2 0, .ptr c 0]) (by simp only [e_upd, e_putS, e_putN, e_t, e_c, Nat.reduceEqDiff, ↓reduceIte, reduceCtorEq, Nat.reduceAdd]) (by simp only [e_upd, e_putS, e_putN, e_t, e_c, Nat.reduceEqDiff, ↓reduceIte, reduceCtorEq, Nat.reduceAdd]) rfl rfl rfl rfl]
  obtain ⟨g, hgd⟩ : ∃ r, r = (H2 ++ [rw_ [AV.nilslice, AV.nilslice]]).length := ⟨_, rfl⟩
  obtain ⟨fs, hfs⟩ : ∃ f, f = [AV.func 93 [.ptr H0.length 0, .ptr p2 0], .func 94 [.ptr H0.length 0, .ptr p2 0, .ptr c 0]] := ⟨_, rfl⟩
  obtain ⟨H3, hH3⟩ : ∃ h, h = H2 ++ [rw_ [AV.nilslice, AV.nilslice]] ++ [rw_ fs] := ⟨_, rfl⟩
  have hF3 : FB H2 H3 g c fs .nilslice .nilslice := by
    rw [hH3]
    exact ⟨Base.one.app, by rw [hgd]; simp [Vh.rowAt, rw_], by rw [hcd, rowAt_append_left (by simp)]; simp [Vh.rowAt, rw_]⟩
  have hcg : c ≠ g := by rw [hcd, hgd]; simp
  have hgl : g < H3.length := by rw [hH3, hgd]; simp
  rw [← hfs, ← hgd, ← hH3]
  have hc2 : H2.length ≤ c := by omega
  clear hH3 hgd hcd
  simp (disch := omega) only [sN, ↓reduceIte, Nat.reduceEqDiff, Nat.reduceAdd, Nat.reduceMul, Nat.reduceSub, reduceCtorEq, e_none, e_some, e_bindS, List.map_cons, List.map_nil]
  have hfirst : ACalls Tryd.prog 92 [.slice g 0 2 2] H3 (List.range H3.length) fun w H' => (w = .int .i64 0 ∧ (H3.length ≤ H'.length ∧ ∃ u1 u2, FB H2 H' g c fs u1 u2 ∧ anE (cfE [q, p]) (q.x * p.x) (q.y * p.y) = 0 ∧ NumV H' u1 (anN (cfE [q, p]) (q.x * p.x) (q.y * p.y)) H3.length ∧ NumV H' u2 (anD (cfE [q, p]) (q.x * p.x) (q.y * p.y)) H3.length)) ∨ ∃ (i : Nat) (e : Int), w = .int .i64 e ∧ e ≠ 0 ∧ (H3.length ≤ H'.length ∧ ∃ u1 u2, FB H2 H' g c fs u1 u2 ∧ anE (cfE [q, p]) (q.x * p.x) (q.y * p.y) = e ∧ NumV H' u1 (anN (cfE [q, p]) (q.x * p.x) (q.y * p.y)) H3.length ∧ NumV H' u2 (anD (cfE [q, p]) (q.x * p.x) (q.y * p.y)) H3.length) := by
    refine firstError_calls (fs := fs) (S := fun i H' => H3.length ≤ H'.length ∧ ∃ u1 u2, FB H2 H' g c fs u1 u2 ∧ match i with
      | 0 => u1 = .nilslice ∧ u2 = .nilslice
      | 1 => u1 = .nilslice ∧ u2 = .nilslice ∧ cfE [q, p] = 0
      | _ => anE (cfE [q, p]) (q.x * p.x) (q.y * p.y) = 0 ∧ NumV H' u1 (anN (cfE [q, p]) (q.x * p.x) (q.y * p.y)) H3.length ∧ NumV H' u2 (anD (cfE [q, p]) (q.x * p.x) (q.y * p.y)) H3.length)
      (E := fun _ e H' => H3.length ≤ H'.length ∧ ∃ u1 u2, FB H2 H' g c fs u1 u2 ∧ anE (cfE [q, p]) (q.x * p.x) (q.y * p.y) = e ∧ NumV H' u1 (anN (cfE [q, p]) (q.x * p.x) (q.y * p.y)) H3.length ∧ NumV H' u2 (anD (cfE [q, p]) (q.x * p.x) (q.y * p.y)) H3.length)
      (H0 := H3) (r := g) (n := 2) ⟨Nat.le_refl _, .nilslice, .nilslice, hF3, rfl, rfl⟩ (by omega) ?_ ?_ ?_ ?_
    · rintro i H ⟨_, u1, u2, hF, _⟩
      exact ⟨_, hF.fns, rfl⟩
    · rintro i H ⟨h, _⟩
      exact h
    · rintro i e H ⟨h, _⟩
      exact h
    · intro i hi H h
      rcases i with _ | _ | i
      · obtain ⟨hl, u1, u2, hF, rfl, rfl⟩ := h
        refine ⟨_, _, by rw [hfs]; rfl, _, (fracMul1_calls H (hF.base.row s1) (hF.base.row s2) (hq.base (hB2.trans hF.base)) (hp.base (hB2.trans hF.base))).mono fun v H' ⟨hv, hB⟩ => ⟨_, hv, ?_⟩⟩
        have hF' : FB H2 H' g c fs .nilslice .nilslice := ⟨hF.base.trans hB, hB.row hF.fns, hB.row hF.res⟩
        by_cases hc : cfE [q, p] = 0
        · exact .inl ⟨hc, Nat.le_trans hl hB.1, _, _, hF', rfl, rfl, hc⟩
        · refine .inr ⟨hc, Nat.le_trans hl hB.1, _, _, hF', if_neg hc, ?_, ?_⟩
          · rw [anN, if_neg hc]; exact .nil
          · rw [anD, if_neg hc]; exact .nil
      · obtain ⟨hl, u1, u2, hF, rfl, rfl, hc⟩ := h
        refine ⟨_, _, by rw [hfs]; rfl, _, (fracMul2_calls H (hF.base.row s1) (hF.base.row s2) hF.res (hq.base (hB2.trans hF.base)) (hp.base (hB2.trans hF.base)) hc).mono fun v H' ⟨hv, R, w1, w2, hH', n1, n2⟩ => ⟨_, hv, ?_⟩⟩
        have hcl := row_lt hF.res
        have hB : Base H2 H' := by rw [hH']; exact (hF.base.trans Base.one).set hc2
        have hF' : FB H2 H' g c fs w1 w2 := by
          refine ⟨hB, ?_, ?_⟩
          · rw [hH', row_other0 hcg, rowAt_append_left (row_lt hF.fns)]; exact hF.fns
          · rw [hH', rowAt_set (by simp; omega), if_pos rfl]; rfl
        have hle : H3.length ≤ H'.length := by rw [hH']; simp; omega
        have h0H : H0.length ≤ H.length := (hB2.trans hF.base).1
        have k1 : NumV H' w1 (anN (cfE [q, p]) (q.x * p.x) (q.y * p.y)) H3.length := by
          rw [anN, if_pos hc, hH']; exact (n1.set hcl).le hl
        have k2 : NumV H' w2 (anD (cfE [q, p]) (q.x * p.x) (q.y * p.y)) H3.length := by
          rw [anD, if_pos hc, hH']; exact (n2.set hcl).le hl
        have kE : anE (cfE [q, p]) (q.x * p.x) (q.y * p.y) = redE (q.x * p.x) (q.y * p.y) := if_pos hc
        by_cases hr : redE (q.x * p.x) (q.y * p.y) = 0
        · exact .inl ⟨hr, hle, _, _, hF', by rw [kE, hr], k1, k2⟩
        · exact .inr ⟨hr, hle, _, _, hF', kE, k1, k2⟩
      · omega
  refine ⟨_, hfirst.g.mono ?_⟩
  rintro v H hor
  obtain ⟨e, rfl, hl, u1, u2, hF, hE, n1, n2⟩ : ∃ e : Int, v = .int .i64 e ∧ (H3.length ≤ H.length ∧ ∃ u1 u2, FB H2 H g c fs u1 u2 ∧ anE (cfE [q, p]) (q.x * p.x) (q.y * p.y) = e ∧ NumV H u1 (anN (cfE [q, p]) (q.x * p.x) (q.y * p.y)) H3.length ∧ NumV H u2 (anD (cfE [q, p]) (q.x * p.x) (q.y * p.y)) H3.length) := by
    rcases hor with ⟨h1, h2⟩ | ⟨i, e, h1, _, h2⟩
    · exact ⟨0, h1, h2⟩
    · exact ⟨e, h1, h2⟩
  have hBH := hB2.trans hF.base
  have q3 := hF.base.row s3
  have hl3 := row_lt q3
  have hp3c : p3 < H0.length + 0 ∨ H0.length ≤ p3 := .inr hp3'
  simp (disch := omega) only [sN, ↓reduceIte, Nat.reduceEqDiff, Nat.reduceAdd, Nat.reduceMul, Nat.reduceSub, reduceCtorEq, e_none, e_some, e_bindS]
  rw [x_loadNA (n := 2) (r := c) (l := [u1, u2]) (by simp only [e_upd, e_putS, e_putN, e_t, e_c, Nat.reduceEqDiff, ↓reduceIte, reduceCtorEq, Nat.reduceAdd]) hF.res rfl rfl]
  simp (disch := omega) only [sN, ↓reduceIte, Nat.reduceEqDiff, Nat.reduceAdd, Nat.reduceMul, Nat.reduceSub, reduceCtorEq, e_none, e_some, e_bindS]
  rw [x_storeNA (n := 2) (r := p3) (l := [.nilslice, .nilslice]) (l' := [u1, u2]) (by simp only [e_upd, e_putS, e_putN, e_t, e_c, Nat.reduceEqDiff, ↓reduceIte, reduceCtorEq, Nat.reduceAdd]) (by simp only [e_upd, e_putS, e_putN, e_t, e_c, Nat.reduceEqDiff, ↓reduceIte, reduceCtorEq, Nat.reduceAdd]) (by simp [n1.cell, n2.cell]) q3 rfl rfl]
  simp (disch := omega) only [sN, ↓reduceIte, Nat.reduceEqDiff, Nat.reduceAdd, Nat.reduceMul, Nat.reduceSub, reduceCtorEq, e_none, e_some, e_bindS]
  refine ret_keep (by have := hBH.1; simp; omega) ?_
  rw [rs_xFracMul, ares_cell2 (r := p3) (row := ⟨true, false, [u1, u2]⟩) (l := [u1, u2]) (by simp only [e_upd, e_putS, e_putN, e_t, e_c, Nat.reduceEqDiff, ↓reduceIte, reduceCtorEq, Nat.reduceAdd]) (by rw [rowAt_set hl3, if_pos rfl]; rfl) rfl rfl]
  have hp3l : p3 < H3.length := Nat.lt_of_lt_of_le (row_lt s3) hF3.base.1
  have h03 : H0.length ≤ H3.length := (hB2.trans hF3.base).1
  refine ⟨hBH.set hp3', u1, u2, ?_, (n1.set hp3l).le h03, (n2.set hp3l).le h03⟩
  rw [hE]
  simp only [e_upd, e_putS, e_putN, e_t, e_c, Nat.reduceEqDiff, ↓reduceIte, reduceCtorEq, Nat.reduceAdd]
end Go.Proofs.YtpkeneadkiabiaaDoor


/- Contracts: what is common to exact's sums and differences of fractions. -/
-- NEWSET
namespace Go.Proofs.YtpkeneadkiabiaaDoor
open Go Go.Vh

set_option maxHeartbeats 1000000 in
theorem over2_calls (H0 : AHeap) {q p : Fr} {f a b m J : Nat} {jN jE : Int} (hf : Vh.rowAt H0 f = some ⟨true, false, [.func J []]⟩) (ha : Vh.rowAt H0 a = some ⟨true, false, [q.w, q.w2]⟩) (hb : Vh.rowAt H0 b = some ⟨true, false, [p.w, p.w2]⟩) (hm : Vh.rowAt H0 m = some ⟨true, false, [.nilslice]⟩) (hq : q.ok H0) (hp : p.ok H0) (hg : cfE [q, p] = 0)
    (hJ : In2 J (q.x * p.y) (p.x * q.y) 100000 100000 [] (UpE jN jE)) :
    ACalls Tryd.prog 123 [.ptr f 0, .ptr a 0, .ptr b 0, .ptr m 0] H0 (List.range H0.length) fun v H => v = .int .i64 jE ∧ ∃ R w, H = (H0 ++ R).set m (rw_ [w]) ∧ NumV (H0 ++ R) w jN H0.length := by
  refine ACalls.body Tryd.func123 ent_over2 ir_over2_ok rs_over2_ok Tryd.ntmps123 (by simp) rfl ?_
  unfold ir_over2
  have e0 : s0 [.ptr f 0, .ptr a 0, .ptr b 0, .ptr m 0] 0 = .ptr f 0 := rfl
  have e1 : s0 [.ptr f 0, .ptr a 0, .ptr b 0, .ptr m 0] 1 = .ptr a 0 := rfl
  have e2 : s0 [.ptr f 0, .ptr a 0, .ptr b 0, .ptr m 0] 2 = .ptr b 0 := rfl
  have e3 : s0 [.ptr f 0, .ptr a 0, .ptr b 0, .ptr m 0] 3 = .ptr m 0 := rfl
  obtain ⟨l1, l2, l3, l4, y1, y2⟩ := cfE2_good hg
  obtain ⟨⟨i1, k1⟩, i2, k2⟩ := hq.ks l1 l2
  obtain ⟨⟨i3, k3⟩, i4, k4⟩ := hp.ks l3 l4
  have hml := row_lt hm
  have b1 := mul_pow k1.nonneg k4.nonneg k1.lt_pow k4.lt_pow
  have b2 := mul_pow k3.nonneg k2.nonneg k3.lt_pow k2.lt_pow
  simp (disch := omega) only [sN, ↓reduceIte, Nat.reduceEqDiff, Nat.reduceAdd, Nat.reduceMul, Nat.reduceSub, reduceCtorEq, e_none, e_some, e_bindS, e0, e1, e2, e3, hf, ha, hb, p_fieldAddr, Nat.zero_add, Option.bind_some, Option.map_some, List.getElem?_cons_zero, List.getElem?_cons_succ, List.map_cons, List.map_nil]
  refine call_in2_0 in_mul rfl (k1.mono (by omega)) (k4.mono (by omega)) (hk_N fun R1 v1 n1 => ?_)
  simp (disch := omega) only [sN, ↓reduceIte, Nat.reduceEqDiff, Nat.reduceAdd, Nat.reduceMul, Nat.reduceSub, reduceCtorEq, e_none, e_some, e_bindS, List.map_cons, List.map_nil]
  have ha1 : Vh.rowAt (H0 ++ R1) a = some ⟨true, false, [q.w, q.w2]⟩ := Base.one.row ha
  obtain ⟨j1, m1⟩ := (n1.normAt ha1).at b1
  refine call_in2_0 in_mul rfl (k3.mono (show 64 ≤ 100000 by omega)).app (k2.mono (show 64 ≤ 100000 by omega)).app (hk_N fun R2 v2 n2 => ?_)
  simp (disch := omega) only [sN, ↓reduceIte, Nat.reduceEqDiff, Nat.reduceAdd, Nat.reduceMul, Nat.reduceSub, reduceCtorEq, e_none, e_some, e_bindS, List.map_cons, List.map_nil]
  have ha2 : Vh.rowAt (H0 ++ R1 ++ R2) a = some ⟨true, false, [q.w, q.w2]⟩ := Base.one.row ha1
  obtain ⟨j2, m2⟩ := (n2.normAt ha2).at b2
  refine call_in2 hJ rfl (m1.mono (by omega)).app (m2.mono (by omega)) (hk_E fun R3 w n3 => ?_)
  simp (disch := omega) only [sN, ↓reduceIte, Nat.reduceEqDiff, Nat.reduceAdd, Nat.reduceMul, Nat.reduceSub, reduceCtorEq, e_none, e_some, e_bindS, e3, List.getElem?_cons_zero, List.getElem?_cons_succ]
  rw [x_store1A (r := m) (off := 0) (v := w) (l := [.nilslice]) (by simp only [e_upd, e_putS, e_putN, e_t, e_c, Nat.reduceEqDiff, ↓reduceIte, reduceCtorEq, Nat.reduceAdd, e3]) (by simp only [e_upd, e_putS, e_putN, e_t, e_c, Nat.reduceEqDiff, ↓reduceIte, reduceCtorEq, Nat.reduceAdd]) n3.cell (Base.one.app.app.row hm) (by simp), List.set_cons_zero]
  simp (disch := omega) only [sN, ↓reduceIte, Nat.reduceEqDiff, Nat.reduceAdd, Nat.reduceMul, Nat.reduceSub, reduceCtorEq, e_none, e_some, e_bindS]
  refine ret_keep (by simp <;> omega) ?_
  rw [rs_over2, q_tmp, q_then]
  refine ⟨?_, R1 ++ R2 ++ R3, w, by simp [List.append_assoc], ?_⟩
  · simp only [e_upd, e_putS, e_putN, e_t, e_c, Nat.reduceEqDiff, ↓reduceIte, reduceCtorEq, Nat.reduceAdd]
  · have := n3.le (m' := H0.length) (by simp <;> omega)
    simpa [List.append_assoc] using this

set_option maxHeartbeats 1000000 in
theorem over3_calls (H0 : AHeap) {q p : Fr} {a b c m k : Nat} {w : AV} {x : Int} (hm : Vh.rowAt H0 m = some ⟨true, false, [w]⟩) (ha : Vh.rowAt H0 a = some ⟨true, false, [q.w, q.w2]⟩) (hb : Vh.rowAt H0 b = some ⟨true, false, [p.w, p.w2]⟩) (hc : Vh.rowAt H0 c = some ⟨true, false, [.nilslice, .nilslice]⟩) (hw : NumV H0 w x k) (hxb : x < BB ^ 1000) (hq : q.ok H0) (hp : p.ok H0) (hg : cfE [q, p] = 0) :
    ACalls Tryd.prog 124 [.ptr m 0, .ptr a 0, .ptr b 0, .ptr c 0] H0 (List.range H0.length) fun v H => v = .int .i64 (redE x (q.y * p.y)) ∧ ∃ R u1 u2, H = (H0 ++ R).set c (rw_ [u1, u2]) ∧ NumV (H0 ++ R) u1 (if redE x (q.y * p.y) = 0 then redX x (q.y * p.y) else 0) H0.length ∧ NumV (H0 ++ R) u2 (if redE x (q.y * p.y) = 0 then redX (q.y * p.y) x else 0) H0.length := by
  refine ACalls.body Tryd.func124 ent_over3 ir_over3_ok rs_over3_ok Tryd.ntmps124 (by simp) rfl ?_
  unfold ir_over3
  have e0 : s0 [.ptr m 0, .ptr a 0, .ptr b 0, .ptr c 0] 0 = .ptr m 0 := rfl
  have e1 : s0 [.ptr m 0, .ptr a 0, .ptr b 0, .ptr c 0] 1 = .ptr a 0 := rfl
  have e2 : s0 [.ptr m 0, .ptr a 0, .ptr b 0, .ptr c 0] 2 = .ptr b 0 := rfl
  have e3 : s0 [.ptr m 0, .ptr a 0, .ptr b 0, .ptr c 0] 3 = .ptr c 0 := rfl
  obtain ⟨l1, l2, l3, l4, y1, y2⟩ := cfE2_good hg
  obtain ⟨⟨i1, k1⟩, i2, k2⟩ := hq.ks l1 l2
  obtain ⟨⟨i3, k3⟩, i4, k4⟩ := hp.ks l3 l4
  have hcl := row_lt hc
  obtain ⟨jw, mw⟩ := (hw.normAt ha).at hxb
  have bD := mul_pow k2.nonneg k4.nonneg k2.lt_pow k4.lt_pow
  have hpos : 0 < q.y * p.y := Int.mul_pos (by have := k2.nonneg; omega) (by have := k4.nonneg; omega)
  simp (disch := omega) only [sN, ↓reduceIte, Nat.reduceEqDiff, Nat.reduceAdd, Nat.reduceMul, Nat.reduceSub, reduceCtorEq, e_none, e_some, e_bindS, e0, e1, e2, e3, hm, ha, hb, p_fieldAddr, Nat.zero_add, Option.bind_some, Option.map_some, List.getElem?_cons_zero, List.getElem?_cons_succ, List.map_cons, List.map_nil]
  refine call_in2_0 in_mul rfl (k2.mono (by omega)) (k4.mono (by omega)) (hk_N fun R1 v1 n1 => ?_)
  simp (disch := omega) only [sN, ↓reduceIte, Nat.reduceEqDiff, Nat.reduceAdd, Nat.reduceMul, Nat.reduceSub, reduceCtorEq, e_none, e_some, e_bindS, List.map_cons, List.map_nil]
  have ha1 : Vh.rowAt (H0 ++ R1) a = some ⟨true, false, [q.w, q.w2]⟩ := Base.one.row ha
  obtain ⟨j1, m1⟩ := (n1.normAt ha1).at bD
  refine call_in2 (in_reduced hpos) rfl (mw.mono (show 1000 ≤ 100000 by omega)).app (m1.mono (by omega)) (hk_F fun R3 u1 u2 n3 n4 => ?_)
  simp (disch := omega) only [sN, ↓reduceIte, Nat.reduceEqDiff, Nat.reduceAdd, Nat.reduceMul, Nat.reduceSub, reduceCtorEq, e_none, e_some, e_bindS, e3, List.getElem?_cons_zero, List.getElem?_cons_succ]
  rw [x_storeNA (n := 2) (r := c) (l := [.nilslice, .nilslice]) (l' := [u1, u2]) (by simp only [e_upd, e_putS, e_putN, e_t, e_c, Nat.reduceEqDiff, ↓reduceIte, reduceCtorEq, Nat.reduceAdd, e3]) (by simp only [e_upd, e_putS, e_putN, e_t, e_c, Nat.reduceEqDiff, ↓reduceIte, reduceCtorEq, Nat.reduceAdd]) (by simp [n3.cell, n4.cell]) (Base.one.app.row hc) rfl rfl]
  simp (disch := omega) only [sN, ↓reduceIte, Nat.reduceEqDiff, Nat.reduceAdd, Nat.reduceMul, Nat.reduceSub, reduceCtorEq, e_none, e_some, e_bindS]
  refine ret_keep (by simp <;> omega) ?_
  rw [rs_over3, q_tmp, q_then]
  refine ⟨?_, R1 ++ R3, u1, u2, by simp [List.append_assoc], ?_, ?_⟩
  · simp only [e_upd, e_putS, e_putN, e_t, e_c, Nat.reduceEqDiff, ↓reduceIte, reduceCtorEq, Nat.reduceAdd]
  · have := n3.le (m' := H0.length) (by simp <;> omega)
    simpa [List.append_assoc] using this
  · have := n4.le (m' := H0.length) (by simp <;> omega)
    simpa [List.append_assoc] using this
end Go.Proofs.YtpkeneadkiabiaaDoor

