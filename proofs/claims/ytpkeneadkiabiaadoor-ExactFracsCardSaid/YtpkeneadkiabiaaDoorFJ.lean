/- Contracts: FracCompare. -/
import Derived.Test.YtpkeneadkiabiaaDoorVX
import Derived.Test.YtpkeneadkiabiaaDoorFI
import Derived.Test.YtpkeneadkiabiaaDoorFG
import Derived.Test.YtpkeneadkiabiaaDoorV8
import Derived.Test.YtpkeneadkiabiaaDoorChecked
set_option linter.unusedSimpArgs false
set_option linter.unusedVariables false
-- NEWSET
namespace Go.Proofs.YtpkeneadkiabiaaDoor
open Go Go.Vh

section
variable {f : FuncId} {x y z z' e : Int} {k k' a b : Nat} {u v c : AV} {rest : List AV} {K : St → AHeap → Prop} {d : Option Nat} {s : St} {H : AHeap}
theorem call_in2_0 {Q : AHeap → AV → AHeap → Prop} (h : In2 f x y k k' rest Q) (hr : rest.all AV.flat = true) (hu : AtK H u x a k) (hv : AtK H v y b k')
    (hK : ∀ (σ : List (Nat × Nat)) (H0 : AHeap) (v0 : AV) (H0' : AHeap), σ.length = H0.length → allRo H0 = true → Q H0 v0 H0' → K (putI d s (v0.ren (sig σ H.length))) (H ++ (H0'.drop H0.length).map (renRow (sig σ H.length)))) : thenC0 Tryd.prog K d s H (u :: v :: rest) (.func f []) := by
  obtain ⟨κ, l, row, h1, rfl, h3, h4, h5, h6, h7⟩ := hu
  obtain ⟨κ', l', row', k1, rfl, k3, k4, k5, k6, k7⟩ := hv
  obtain ⟨W, hc⟩ := h κ κ' l l' h1 k1 h7 k7 h5 k5 h6 k6
  refine call_do0 hc [(a, 0), (b, 0)] rfl ?_ (allRo_once rfl _) (allRo_img rfl _) ?_ ⟨seen_limbs h3 h4, seen_limbs k3 k4, trivial⟩ fun v0 H0' hq => ?_
  · simp [underL, mkS_under, flatL_under hr]
  · rw [n_lcons, n_lcons, flatL_ren hr, n_mkS0 (r' := a) rfl, n_mkS0 (r' := b) rfl, List.append_nil]
  · have := hK [(a, 0), (b, 0)] [ro (ints .u32 l), ro (ints .u32 l')] v0 H0' rfl rfl hq
    rw [m_merge, m_ro, m_ro, m_nil]
    exact this
theorem x_bsF2 {x y : Opd} {v1 v2 v3 v4 z1 z2 z3 z4 : AV} (h1 : evo s x = .agg [v1, v2]) (h2 : evo s y = .agg [v3, v4]) (c1 : v1.cell = true) (c2 : v2.cell = true) (c3 : v3.cell = true) (c4 : v4.cell = true) :
    ieff (.buildSlice 2 [z1, z2, z3, z4] [(0, (2, x)), (2, (2, y))]) s H = some (.slice H.length 0 2 2, H ++ [rw_ [v1, v2, v3, v4]]) := by
  simp [ieff, h1, h2, afill, aparts, c1, c2, c3, c4, anew, rw_]
end

/-- what FracCompare answers -/
def fcC (q p : Fr) : Int := if cfE [q, p] = 0 then cmpI (q.x * p.y) (p.x * q.y) else 0

theorem cfE_short {q p : Fr} (h : cfE [q, p] = 0) : (q.n ≤ 64 ∧ q.m ≤ 64) ∧ p.n ≤ 64 ∧ p.m ≤ 64 := by
  unfold cfE at h
  split at h
  · rename_i hs
    simpa [Fr.short] using hs
  · omega
set_option maxHeartbeats 1000000 in
theorem xFracCompare_calls (H0 : AHeap) {q p : Fr} (hq : q.ok H0) (hp : p.ok H0) :
    ACalls Tryd.prog 31 [.agg [q.w, q.w2], .agg [p.w, p.w2]] H0 (List.range H0.length) fun v H => v = .tuple [.int .i64 (fcC q p), .int .i64 (cfE [q, p])] ∧ Base H0 H := by
  refine ACalls.body Tryd.func31 ent_xFracCompare ir_xFracCompare_ok rs_xFracCompare_ok Tryd.ntmps31 (by simp) rfl ?_
  unfold ir_xFracCompare
  have e0 : s0 [.agg [q.w, q.w2], .agg [p.w, p.w2]] 0 = .agg [q.w, q.w2] := rfl
  have e1 : s0 [.agg [q.w, q.w2], .agg [p.w, p.w2]] 1 = .agg [p.w, p.w2] := rfl
  simp -implicitDefEqProofs (disch := omega) only [sN, ↓reduceIte, Nat.reduceEqDiff, Nat.reduceAdd, Nat.reduceMul, Nat.reduceSub, reduceCtorEq, e_none, e_some, e_bindS, e0, e1]
  rw [x_boxN (l := [q.w, q.w2]) (by simp only [e_upd, e_putS, e_putN, e_t, e_c, Nat.reduceEqDiff, ↓reduceIte, reduceCtorEq, Nat.reduceAdd, e0]) (by simp [hq.1.cell, hq.2.1.cell])]
  simp -implicitDefEqProofs (disch := omega) only [sN, ↓reduceIte, Nat.reduceEqDiff, Nat.reduceAdd, Nat.reduceMul, Nat.reduceSub, reduceCtorEq, e_none, e_some, e_bindS, e0, e1]
  rw [x_boxN (l := [p.w, p.w2]) (by simp only [e_upd, e_putS, e_putN, e_t, e_c, Nat.reduceEqDiff, ↓reduceIte, reduceCtorEq, Nat.reduceAdd, e1]) (by simp [hp.1.cell, hp.2.1.cell])]
  obtain ⟨H1, hH1⟩ : ∃ h, h = H0 ++ [rw_ [q.w, q.w2]] ++ [rw_ [p.w, p.w2]] := ⟨_, rfl⟩
  have hB : Base H0 H1 := by rw [hH1]; exact Base.one.app
  have r2 : Vh.rowAt H1 H0.length = some ⟨true, false, [q.w, q.w2]⟩ := by rw [hH1, rowAt_append_left (by simp)]; simp [Vh.rowAt, rw_]
  have r3 : Vh.rowAt H1 (H0 ++ [rw_ [q.w, q.w2]]).length = some ⟨true, false, [p.w, p.w2]⟩ := by rw [hH1]; simp [Vh.rowAt, rw_]
  rw [← hH1]
  simp -implicitDefEqProofs (disch := omega) only [sN, ↓reduceIte, Nat.reduceEqDiff, Nat.reduceAdd, Nat.reduceMul, Nat.reduceSub, reduceCtorEq, e_none, e_some, e_bindS]
  rw [x_loadNA (n := 2) (r := H0.length) (l := [q.w, q.w2]) (by simp only [e_upd, e_putS, e_putN, e_t, e_c, Nat.reduceEqDiff, ↓reduceIte, reduceCtorEq, Nat.reduceAdd]) r2 rfl rfl]
  simp -implicitDefEqProofs (disch := omega) only [sN, ↓reduceIte, Nat.reduceEqDiff, Nat.reduceAdd, Nat.reduceMul, Nat.reduceSub, reduceCtorEq, e_none, e_some, e_bindS]
  rw [x_loadNA (n := 2) (r := (H0 ++ [rw_ [q.w, q.w2]]).length) (l := [p.w, p.w2]) (by simp only [e_upd, e_putS, e_putN, e_t, e_c, Nat.reduceEqDiff, ↓reduceIte, reduceCtorEq, Nat.reduceAdd]) r3 rfl rfl]
  simp -implicitDefEqProofs (disch := omega) only [sN, ↓reduceIte, Nat.reduceEqDiff, Nat.reduceAdd, Nat.reduceMul, Nat.reduceSub, reduceCtorEq, e_none, e_some, e_bindS]
  rw [x_bsF2 (v1 := q.w) (v2 := q.w2) (v3 := p.w) (v4 := p.w2) (by simp only [e_upd, e_putS, e_putN, e_t, e_c, Nat.reduceEqDiff, ↓reduceIte, reduceCtorEq, Nat.reduceAdd]) (by simp only [e_upd, e_putS, e_putN, e_t, e_c, Nat.reduceEqDiff, ↓reduceIte, reduceCtorEq, Nat.reduceAdd]) hq.1.cell hq.2.1.cell hp.1.cell hp.2.1.cell]
  simp -implicitDefEqProofs (disch := omega) only [sN, ↓reduceIte, Nat.reduceEqDiff, Nat.reduceAdd, Nat.reduceMul, Nat.reduceSub, reduceCtorEq, e_none, e_some, e_bindS, List.map_cons, List.map_nil]
  have hB2 : Base H0 (H1 ++ [rw_ [q.w, q.w2, p.w, p.w2]]) := hB.app
  refine ⟨_, (checkFracs_calls (H1 ++ [rw_ [q.w, q.w2, p.w, p.w2]]) [q, p] (n := 2) (r := H1.length) (row := ⟨true, false, [q.w, q.w2, p.w, p.w2]⟩) rfl (by omega) (by simp [Vh.rowAt, rw_]) rfl ?_).g.mono ?_⟩
  · intro f hf
    simp only [List.mem_cons, List.not_mem_nil, or_false] at hf
    rcases hf with rfl | rfl
    · exact hq.base hB2
    · exact hp.base hB2
  rintro v H ⟨rfl, hB3⟩
  have hBH := hB2.trans hB3
  have hB1H : Base H1 H := Base.one.trans hB3
  have q2 := hB1H.row r2
  have q3 := hB1H.row r3
  by_cases he : cfE [q, p] = 0
  · have hfc : fcC q p = cmpI (q.x * p.y) (p.x * q.y) := by unfold fcC; rw [if_pos he]
    rw [he, hfc]
    obtain ⟨⟨s1, s2⟩, s3, s4⟩ := cfE_short he
    obtain ⟨b1, a1⟩ := (hq.1.base hBH).k s1
    obtain ⟨b2, a2⟩ := (hq.2.1.base hBH).k s2
    obtain ⟨b3, a3⟩ := (hp.1.base hBH).k s3
    obtain ⟨b4, a4⟩ := (hp.2.1.base hBH).k s4
    have p1 := mul_pow a1.nonneg a4.nonneg a1.lt_pow a4.lt_pow
    have p2 := mul_pow a3.nonneg a2.nonneg a3.lt_pow a2.lt_pow
    simp -implicitDefEqProofs (disch := omega) only [sN, ↓reduceIte, Nat.reduceEqDiff, Nat.reduceAdd, Nat.reduceMul, Nat.reduceSub, reduceCtorEq, e_none, e_some, e_bindS, p_fieldAddr, Nat.zero_add, q2, q3, Option.bind_some, Option.map_some, List.getElem?_cons_zero, List.getElem?_cons_succ, List.map_cons, List.map_nil]
    refine call_in2_0 in_mul rfl (a1.mono (by omega)) (a4.mono (by omega)) (hk_N fun R1 w1 n1 => ?_)
    simp -implicitDefEqProofs (disch := omega) only [sN, ↓reduceIte, Nat.reduceEqDiff, Nat.reduceAdd, Nat.reduceMul, Nat.reduceSub, reduceCtorEq, e_none, e_some, e_bindS, List.map_cons, List.map_nil]
    refine call_in2 in_mul rfl (a3.mono (show 64 ≤ 100000 by omega)).app (a2.mono (show 64 ≤ 100000 by omega)).app (hk_N fun R2 w2 n2 => ?_)
    simp -implicitDefEqProofs (disch := omega) only [sN, ↓reduceIte, Nat.reduceEqDiff, Nat.reduceAdd, Nat.reduceMul, Nat.reduceSub, reduceCtorEq, e_none, e_some, e_bindS, List.map_cons, List.map_nil]
    have hrow0 : Vh.rowAt (H ++ R1 ++ R2) H0.length = some ⟨true, false, [q.w, q.w2]⟩ := ((Base.one (R := R1)).app (R := R2)).row q2
    obtain ⟨c1, m1⟩ := (n1.app.normAt hrow0).at p1
    obtain ⟨c2, m2⟩ := (n2.normAt hrow0).at p2
    refine call_in2 in_compare rfl (m1.mono (by omega)) (m2.mono (by omega)) (hk_P (fun _ => rfl) fun R3 => ?_)
    simp -implicitDefEqProofs (disch := omega) only [sN, ↓reduceIte, Nat.reduceEqDiff, Nat.reduceAdd, Nat.reduceMul, Nat.reduceSub, reduceCtorEq, e_none, e_some, e_bindS]
    refine ret_keep hBH.app.app.app.1 ?_
    rw [show rs_xFracCompare = [.tmp 4, .tmp 5] from rfl, q_tmp2, q_then]
    refine ⟨?_, hBH.app.app.app⟩
    simp only [e_upd, e_putS, e_putN, e_t, e_c, Nat.reduceEqDiff, ↓reduceIte, reduceCtorEq, Nat.reduceAdd]
  · have hfc : fcC q p = 0 := by unfold fcC; rw [if_neg he]
    rw [hfc]
    simp -implicitDefEqProofs (disch := omega) only [sN, ↓reduceIte, Nat.reduceEqDiff, Nat.reduceAdd, Nat.reduceMul, Nat.reduceSub, reduceCtorEq, e_none, e_some, e_bindS]
    refine ret_keep hBH.1 ?_
    rw [show rs_xFracCompare = [.tmp 4, .tmp 5] from rfl, q_tmp2, q_then]
    refine ⟨?_, hBH⟩
    simp only [e_upd, e_putS, e_putN, e_t, e_c, Nat.reduceEqDiff, ↓reduceIte, reduceCtorEq, Nat.reduceAdd]
end Go.Proofs.YtpkeneadkiabiaaDoor


/- The sums of samples: they do not grow with the bad things. -/
-- NEWSET
namespace Go.Proofs.YtpkeneadkiabiaaDoor
open Go Go.Vh

end Go.Proofs.YtpkeneadkiabiaaDoor


/- Contracts: sort.Search; the bound's closure. -/
-- NEWSET
namespace Go.Proofs.YtpkeneadkiabiaaDoor
open Go Go.Vh

end Go.Proofs.YtpkeneadkiabiaaDoor

