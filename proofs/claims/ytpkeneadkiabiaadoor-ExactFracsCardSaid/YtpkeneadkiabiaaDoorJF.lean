/- Contracts: exact's sums and differences of fractions. -/
import Derived.Test.YtpkeneadkiabiaaDoorVX
import Derived.Test.YtpkeneadkiabiaaDoorJE
import Derived.Test.YtpkeneadkiabiaaDoorEE
set_option linter.unusedSimpArgs false
set_option linter.unusedVariables false
-- NEWSET
namespace Go.Proofs.YtpkeneadkiabiaaDoor
open Go Go.Vh

/-- how the heap is between the steps -/
structure FO (H1 H : AHeap) (g m c : Nat) (fs : List AV) (w u1 u2 : AV) : Prop where
  base : Base H1 H
  fns : Vh.rowAt H g = some ⟨true, false, fs⟩
  num : Vh.rowAt H m = some ⟨true, false, [w]⟩
  res : Vh.rowAt H c = some ⟨true, false, [u1, u2]⟩

set_option maxHeartbeats 2000000 in
theorem overCommon_calls (H0 : AHeap) {q p : Fr} {J : Nat} {jN jE : Int} (hq : q.ok H0) (hp : p.ok H0) (hJ : In2 J (q.x * p.y) (p.x * q.y) 100000 100000 [] (UpE jN jE)) (hxb : cfE [q, p] = 0 → jN < BB ^ 1000) :
    ACalls Tryd.prog 86 [.agg [q.w, q.w2], .agg [p.w, p.w2], .func J []] H0 (List.range H0.length) (AnsF (anN (if cfE [q, p] = 0 then jE else cfE [q, p]) jN (q.y * p.y)) (anD (if cfE [q, p] = 0 then jE else cfE [q, p]) jN (q.y * p.y)) (anE (if cfE [q, p] = 0 then jE else cfE [q, p]) jN (q.y * p.y)) H0) := by
  refine ACalls.body Tryd.func86 ent_overCommon ir_overCommon_ok rs_overCommon_ok Tryd.ntmps86 (by simp) rfl ?_
  unfold ir_overCommon
  have e0 : s0 [.agg [q.w, q.w2], .agg [p.w, p.w2], .func J []] 0 = .agg [q.w, q.w2] := rfl
  have e1 : s0 [.agg [q.w, q.w2], .agg [p.w, p.w2], .func J []] 1 = .agg [p.w, p.w2] := rfl
  have e2 : s0 [.agg [q.w, q.w2], .agg [p.w, p.w2], .func J []] 2 = .func J [] := rfl
  have hz : [AV.nilslice, AV.nilslice].all AV.cell = true := rfl
  simp (disch := omega) only [sN, ↓reduceIte, Nat.reduceEqDiff, Nat.reduceAdd, Nat.reduceMul, Nat.reduceSub, reduceCtorEq, e_none, e_some, e_bindS, e0, e1]
  rw [x_boxN (l := [q.w, q.w2]) (by simp only [e_upd, e_putS, e_putN, e_t, e_c, Nat.reduceEqDiff, ↓reduceIte, reduceCtorEq, Nat.reduceAdd, e0]) (by simp [hq.1.cell, hq.2.1.cell])]
  simp (disch := omega) only [sN, ↓reduceIte, Nat.reduceEqDiff, Nat.reduceAdd, Nat.reduceMul, Nat.reduceSub, reduceCtorEq, e_none, e_some, e_bindS, e0, e1]
  rw [x_boxN (l := [p.w, p.w2]) (by simp only [e_upd, e_putS, e_putN, e_t, e_c, Nat.reduceEqDiff, ↓reduceIte, reduceCtorEq, Nat.reduceAdd, e1]) (by simp [hp.1.cell, hp.2.1.cell])]
  obtain ⟨p2, hp2⟩ : ∃ r, r = (H0 ++ [rw_ [q.w, q.w2]]).length := ⟨_, rfl⟩
  have hp2' : H0.length ≤ p2 := by rw [hp2]; simp
  obtain ⟨H1, hH1⟩ : ∃ h, h = H0 ++ [rw_ [q.w, q.w2]] ++ [rw_ [p.w, p.w2]] := ⟨_, rfl⟩
  have hB1 : Base H0 H1 := by rw [hH1]; exact Base.one.app
  have r1 : Vh.rowAt H1 H0.length = some ⟨true, false, [q.w, q.w2]⟩ := by rw [hH1, rowAt_append_left (by simp)]; simp [Vh.rowAt, rw_]
  have r2 : Vh.rowAt H1 p2 = some ⟨true, false, [p.w, p.w2]⟩ := by rw [hH1, hp2]; simp [Vh.rowAt, rw_]
  rw [← hp2, ← hH1]
  clear hH1 hp2
  simp (disch := omega) only [sN, ↓reduceIte, Nat.reduceEqDiff, Nat.reduceAdd, Nat.reduceMul, Nat.reduceSub, reduceCtorEq, e_none, e_some, e_bindS, e2]
  rw [x_boxA (v := .func J []) (by simp only [e_upd, e_putS, e_putN, e_t, e_c, Nat.reduceEqDiff, ↓reduceIte, reduceCtorEq, Nat.reduceAdd, e2]) rfl]
  obtain ⟨f, hfd⟩ : ∃ r, r = H1.length := ⟨_, rfl⟩
  obtain ⟨Hf, hHf⟩ : ∃ h, h = H1 ++ [rw_ [AV.func J []]] := ⟨_, rfl⟩
  have hBf : Base H0 Hf := by rw [hHf]; exact hB1.app
  have t1 : Vh.rowAt Hf H0.length = some ⟨true, false, [q.w, q.w2]⟩ := by rw [hHf]; exact Base.one.row r1
  have t2 : Vh.rowAt Hf p2 = some ⟨true, false, [p.w, p.w2]⟩ := by rw [hHf]; exact Base.one.row r2
  have t3 : Vh.rowAt Hf f = some ⟨true, false, [.func J []]⟩ := by rw [hHf, hfd]; simp [Vh.rowAt, rw_]
  rw [← hfd, ← hHf]
  clear hHf hfd
  simp (disch := omega) only [sN, ↓reduceIte, Nat.reduceEqDiff, Nat.reduceAdd, Nat.reduceMul, Nat.reduceSub, reduceCtorEq, e_none, e_some, e_bindS]
  rw [x_allocA hz]
  obtain ⟨p3, hp3⟩ : ∃ r, r = Hf.length := ⟨_, rfl⟩
  obtain ⟨H2, hH2⟩ : ∃ h, h = Hf ++ [rw_ [AV.nilslice, AV.nilslice]] := ⟨_, rfl⟩
  have hB2 : Base H0 H2 := by rw [hH2]; exact hBf.app
  have hp3' : H0.length ≤ p3 := by rw [hp3]; exact hBf.1
  have s1 : Vh.rowAt H2 H0.length = some ⟨true, false, [q.w, q.w2]⟩ := by rw [hH2]; exact Base.one.row t1
  have s2 : Vh.rowAt H2 p2 = some ⟨true, false, [p.w, p.w2]⟩ := by rw [hH2]; exact Base.one.row t2
  have sf : Vh.rowAt H2 f = some ⟨true, false, [.func J []]⟩ := by rw [hH2]; exact Base.one.row t3
  have s3 : Vh.rowAt H2 p3 = some ⟨true, false, [.nilslice, .nilslice]⟩ := by rw [hH2, hp3]; simp [Vh.rowAt, rw_]
  rw [← hp3, ← hH2]
  clear hH2 hp3 t1 t2 t3
  simp (disch := omega) only [sN, ↓reduceIte, Nat.reduceEqDiff, Nat.reduceAdd, Nat.reduceMul, Nat.reduceSub, reduceCtorEq, e_none, e_some, e_bindS]
  rw [x_allocA (show [AV.nilslice].all AV.cell = true from rfl)]
  obtain ⟨m, hmd⟩ : ∃ r, r = H2.length := ⟨_, rfl⟩
  rw [← hmd]
  simp (disch := omega) only [sN, ↓reduceIte, Nat.reduceEqDiff, Nat.reduceAdd, Nat.reduceMul, Nat.reduceSub, reduceCtorEq, e_none, e_some, e_bindS]
  rw [x_allocA hz]
  obtain ⟨c, hcd⟩ : ∃ r, r = (H2 ++ [rw_ [AV.nilslice]]).length := ⟨_, rfl⟩
  rw [← hcd]
  simp (disch := omega) only [sN, ↓reduceIte, Nat.reduceEqDiff, Nat.reduceAdd, Nat.reduceMul, Nat.reduceSub, reduceCtorEq, e_none, e_some, e_bindS, p_makeFunc, Option.bind_some, Option.map_some, List.map_cons, List.map_nil]
  rw [x_bs3 (v1 := .func 122 [.ptr H0.length 0, .ptr p2 0]) (v2 := .func 123 [.ptr f 0, .ptr H0.length 0, .ptr p2 0, .ptr m 0]) (v3 := .func 124 [.ptr m 0, .ptr H0.length 0, .ptr p2 0, .ptr c 0]) (by simp only [e_upd, e_putS, e_putN, e_t, e_c, Nat.reduceEqDiff, ↓reduceIte, reduceCtorEq, Nat.reduceAdd]) (by simp only [e_upd, e_putS, e_putN, e_t, e_c, Nat.reduceEqDiff, ↓reduceIte, reduceCtorEq, Nat.reduceAdd]) (by simp only [e_upd, e_putS, e_putN, e_t, e_c, Nat.reduceEqDiff, ↓reduceIte, reduceCtorEq, Nat.reduceAdd]) rfl rfl rfl]
  obtain ⟨g, hgd⟩ : ∃ r, r = (H2 ++ [rw_ [AV.nilslice]] ++ [rw_ [AV.nilslice, AV.nilslice]]).length := ⟨_, rfl⟩
  obtain ⟨fs, hfs⟩ : ∃ f', f' = [AV.func 122 [.ptr H0.length 0, .ptr p2 0], .func 123 [.ptr f 0, .ptr H0.length 0, .ptr p2 0, .ptr m 0], .func 124 [.ptr m 0, .ptr H0.length 0, .ptr p2 0, .ptr c 0]] := ⟨_, rfl⟩
  obtain ⟨H3, hH3⟩ : ∃ h, h = H2 ++ [rw_ [AV.nilslice]] ++ [rw_ [AV.nilslice, AV.nilslice]] ++ [rw_ fs] := ⟨_, rfl⟩
  have hF3 : FO H2 H3 g m c fs .nilslice .nilslice .nilslice := by
    rw [hH3]
    refine ⟨Base.one.app.app, by rw [hgd]; simp [Vh.rowAt, rw_], ?_, ?_⟩
    · rw [hmd, rowAt_append_left (by simp), rowAt_append_left (by simp)]; simp [Vh.rowAt, rw_]
    · rw [hcd, rowAt_append_left (by simp)]; simp [Vh.rowAt, rw_]
  have hcm : c = m + 1 := by rw [hcd, hmd]; simp
  have hgm : g = m + 2 := by rw [hgd, hmd]; simp
  have hl3' : H3.length = m + 3 := by rw [hH3, hmd]; simp
  have hm2 : H2.length = m := hmd.symm
  rw [← hfs, ← hgd, ← hH3]
  clear hH3 hgd hcd hmd
  simp (disch := omega) only [sN, ↓reduceIte, Nat.reduceEqDiff, Nat.reduceAdd, Nat.reduceMul, Nat.reduceSub, reduceCtorEq, e_none, e_some, e_bindS, List.map_cons, List.map_nil]
  have hfirst : ACalls Tryd.prog 92 [.slice g 0 3 3] H3 (List.range H3.length) fun w H' => (w = .int .i64 0 ∧ (H3.length ≤ H'.length ∧ ∃ w u1 u2, FO H2 H' g m c fs w u1 u2 ∧ (anE (if cfE [q, p] = 0 then jE else cfE [q, p]) jN (q.y * p.y)) = 0 ∧ NumV H' u1 (anN (if cfE [q, p] = 0 then jE else cfE [q, p]) jN (q.y * p.y)) H3.length ∧ NumV H' u2 (anD (if cfE [q, p] = 0 then jE else cfE [q, p]) jN (q.y * p.y)) H3.length)) ∨ ∃ (i : Nat) (e : Int), w = .int .i64 e ∧ e ≠ 0 ∧ (H3.length ≤ H'.length ∧ ∃ w u1 u2, FO H2 H' g m c fs w u1 u2 ∧ (anE (if cfE [q, p] = 0 then jE else cfE [q, p]) jN (q.y * p.y)) = e ∧ NumV H' u1 (anN (if cfE [q, p] = 0 then jE else cfE [q, p]) jN (q.y * p.y)) H3.length ∧ NumV H' u2 (anD (if cfE [q, p] = 0 then jE else cfE [q, p]) jN (q.y * p.y)) H3.length) := by
    refine firstError_calls (fs := fs) (S := fun i H' => match i with
      | 0 => H3.length ≤ H'.length ∧ FO H2 H' g m c fs .nilslice .nilslice .nilslice
      | 1 => H3.length ≤ H'.length ∧ FO H2 H' g m c fs .nilslice .nilslice .nilslice ∧ cfE [q, p] = 0
      | 2 => H3.length ≤ H'.length ∧ ∃ w, FO H2 H' g m c fs w .nilslice .nilslice ∧ cfE [q, p] = 0 ∧ jE = 0 ∧ NumV H' w jN H3.length
      | _ => (H3.length ≤ H'.length ∧ ∃ w u1 u2, FO H2 H' g m c fs w u1 u2 ∧ (anE (if cfE [q, p] = 0 then jE else cfE [q, p]) jN (q.y * p.y)) = 0 ∧ NumV H' u1 (anN (if cfE [q, p] = 0 then jE else cfE [q, p]) jN (q.y * p.y)) H3.length ∧ NumV H' u2 (anD (if cfE [q, p] = 0 then jE else cfE [q, p]) jN (q.y * p.y)) H3.length))
      (E := fun _ e H' => (H3.length ≤ H'.length ∧ ∃ w u1 u2, FO H2 H' g m c fs w u1 u2 ∧ (anE (if cfE [q, p] = 0 then jE else cfE [q, p]) jN (q.y * p.y)) = e ∧ NumV H' u1 (anN (if cfE [q, p] = 0 then jE else cfE [q, p]) jN (q.y * p.y)) H3.length ∧ NumV H' u2 (anD (if cfE [q, p] = 0 then jE else cfE [q, p]) jN (q.y * p.y)) H3.length))
      (H0 := H3) (r := g) (n := 3) ⟨Nat.le_refl _, hF3⟩ (by omega) ?_ ?_ ?_ ?_
    · intro i H h
      rcases i with _ | _ | _ | i
      · exact ⟨_, h.2.fns, rfl⟩
      · exact ⟨_, h.2.1.fns, rfl⟩
      · obtain ⟨_, w, hF, _⟩ := h; exact ⟨_, hF.fns, rfl⟩
      · obtain ⟨_, w, u1, u2, hF, _⟩ := h; exact ⟨_, hF.fns, rfl⟩
    · intro i H h
      rcases i with _ | _ | _ | i
      · exact h.1
      · exact h.1
      · exact h.1
      · exact h.1
    · rintro i e H ⟨h, _⟩
      exact h
    · intro i hi H h
      rcases i with _ | _ | _ | i
      · obtain ⟨hl, hF⟩ := h
        refine ⟨_, _, by rw [hfs]; rfl, _, (over1_calls H (hF.base.row s1) (hF.base.row s2) (hq.base (hB2.trans hF.base)) (hp.base (hB2.trans hF.base))).mono fun v H' ⟨hv, hB⟩ => ⟨_, hv, ?_⟩⟩
        have hF' : FO H2 H' g m c fs .nilslice .nilslice .nilslice := ⟨hF.base.trans hB, hB.row hF.fns, hB.row hF.num, hB.row hF.res⟩
        by_cases hc : cfE [q, p] = 0
        · exact .inl ⟨hc, Nat.le_trans hl hB.1, hF', hc⟩
        · refine .inr ⟨hc, Nat.le_trans hl hB.1, _, _, _, hF', ?_, ?_, ?_⟩
          · rw [if_neg hc]; exact if_neg hc
          · rw [anN, if_neg (by rw [if_neg hc]; exact hc)]; exact .nil
          · rw [anD, if_neg (by rw [if_neg hc]; exact hc)]; exact .nil
      · obtain ⟨hl, hF, hc⟩ := h
        refine ⟨_, _, by rw [hfs]; rfl, _, (over2_calls H (hF.base.row sf) (hF.base.row s1) (hF.base.row s2) hF.num (hq.base (hB2.trans hF.base)) (hp.base (hB2.trans hF.base)) hc hJ).mono fun v H' ⟨hv, R, w, hH', n1⟩ => ⟨_, hv, ?_⟩⟩
        have hml := row_lt hF.num
        have hF' : FO H2 H' g m c fs w .nilslice .nilslice := by
          refine ⟨by rw [hH']; exact (hF.base.trans Base.one).set (by omega), ?_, ?_, ?_⟩
          · rw [hH', row_other0 (by omega), rowAt_append_left (row_lt hF.fns)]; exact hF.fns
          · rw [hH', rowAt_set (by simp; omega), if_pos rfl]; rfl
          · rw [hH', row_other0 (by omega), rowAt_append_left (row_lt hF.res)]; exact hF.res
        have hle : H3.length ≤ H'.length := by rw [hH']; simp; omega
        by_cases hj : jE = 0
        · exact .inl ⟨hj, hle, w, hF', hc, hj, by rw [hH']; exact (n1.set hml).le hl⟩
        · refine .inr ⟨hj, hle, _, _, _, hF', ?_, ?_, ?_⟩
          · rw [if_pos hc]; exact if_neg hj
          · rw [anN, if_neg (by rw [if_pos hc]; exact hj)]; exact .nil
          · rw [anD, if_neg (by rw [if_pos hc]; exact hj)]; exact .nil
      · obtain ⟨hl, w, hF, hc, hj, nw⟩ := h
        refine ⟨_, _, by rw [hfs]; rfl, _, (over3_calls H hF.num (hF.base.row s1) (hF.base.row s2) hF.res nw (hxb hc) (hq.base (hB2.trans hF.base)) (hp.base (hB2.trans hF.base)) hc).mono fun v H' ⟨hv, R, w1, w2, hH', n1, n2⟩ => ⟨_, hv, ?_⟩⟩
        have hcl := row_lt hF.res
        have hF' : FO H2 H' g m c fs w w1 w2 := by
          refine ⟨by rw [hH']; exact (hF.base.trans Base.one).set (by omega), ?_, ?_, ?_⟩
          · rw [hH', row_other0 (by omega), rowAt_append_left (row_lt hF.fns)]; exact hF.fns
          · rw [hH', row_other0 (by omega), rowAt_append_left (row_lt hF.num)]; exact hF.num
          · rw [hH', rowAt_set (by simp; omega), if_pos rfl]; rfl
        have hle : H3.length ≤ H'.length := by rw [hH']; simp; omega
        have hcc : (if cfE [q, p] = 0 then jE else cfE [q, p]) = 0 := by rw [if_pos hc]; exact hj
        have k1 : NumV H' w1 (anN (if cfE [q, p] = 0 then jE else cfE [q, p]) jN (q.y * p.y)) H3.length := by
          rw [anN, if_pos hcc, hH']; exact (n1.set hcl).le hl
        have k2 : NumV H' w2 (anD (if cfE [q, p] = 0 then jE else cfE [q, p]) jN (q.y * p.y)) H3.length := by
          rw [anD, if_pos hcc, hH']; exact (n2.set hcl).le hl
        have kE : (anE (if cfE [q, p] = 0 then jE else cfE [q, p]) jN (q.y * p.y)) = redE jN (q.y * p.y) := if_pos hcc
        by_cases hr : redE jN (q.y * p.y) = 0
        · exact .inl ⟨hr, hle, _, _, _, hF', by rw [kE, hr], k1, k2⟩
        · exact .inr ⟨hr, hle, _, _, _, hF', kE, k1, k2⟩
      · omega
  refine ⟨_, hfirst.g.mono ?_⟩
  rintro v H hor
  obtain ⟨e, rfl, hl, w, u1, u2, hF, hE, n1, n2⟩ : ∃ e : Int, v = .int .i64 e ∧ (H3.length ≤ H.length ∧ ∃ w u1 u2, FO H2 H g m c fs w u1 u2 ∧ (anE (if cfE [q, p] = 0 then jE else cfE [q, p]) jN (q.y * p.y)) = e ∧ NumV H u1 (anN (if cfE [q, p] = 0 then jE else cfE [q, p]) jN (q.y * p.y)) H3.length ∧ NumV H u2 (anD (if cfE [q, p] = 0 then jE else cfE [q, p]) jN (q.y * p.y)) H3.length) := by
    rcases hor with ⟨h1, h2⟩ | ⟨i, e, h1, _, h2⟩
    · exact ⟨0, h1, h2⟩
    · exact ⟨e, h1, h2⟩
  have hBH := hB2.trans hF.base
  have q3 := hF.base.row s3
  have hl3 := row_lt q3
  simp (disch := omega) only [sN, ↓reduceIte, Nat.reduceEqDiff, Nat.reduceAdd, Nat.reduceMul, Nat.reduceSub, reduceCtorEq, e_none, e_some, e_bindS]
  rw [x_loadNA (n := 2) (r := c) (l := [u1, u2]) (by simp only [e_upd, e_putS, e_putN, e_t, e_c, Nat.reduceEqDiff, ↓reduceIte, reduceCtorEq, Nat.reduceAdd]) hF.res rfl rfl]
  simp (disch := omega) only [sN, ↓reduceIte, Nat.reduceEqDiff, Nat.reduceAdd, Nat.reduceMul, Nat.reduceSub, reduceCtorEq, e_none, e_some, e_bindS]
  rw [x_storeNA (n := 2) (r := p3) (l := [.nilslice, .nilslice]) (l' := [u1, u2]) (by simp only [e_upd, e_putS, e_putN, e_t, e_c, Nat.reduceEqDiff, ↓reduceIte, reduceCtorEq, Nat.reduceAdd]) (by simp only [e_upd, e_putS, e_putN, e_t, e_c, Nat.reduceEqDiff, ↓reduceIte, reduceCtorEq, Nat.reduceAdd]) (by simp [n1.cell, n2.cell]) q3 rfl rfl]
  simp (disch := omega) only [sN, ↓reduceIte, Nat.reduceEqDiff, Nat.reduceAdd, Nat.reduceMul, Nat.reduceSub, reduceCtorEq, e_none, e_some, e_bindS]
  refine ret_keep (by have := hBH.1; simp; omega) ?_
  rw [rs_overCommon, ares_cell2 (r := p3) (row := ⟨true, false, [u1, u2]⟩) (l := [u1, u2]) (by simp only [e_upd, e_putS, e_putN, e_t, e_c, Nat.reduceEqDiff, ↓reduceIte, reduceCtorEq, Nat.reduceAdd]) (by rw [rowAt_set hl3, if_pos rfl]; rfl) rfl rfl]
  have hp3l : p3 < H3.length := by have := row_lt s3; omega
  have h03 : H0.length ≤ H3.length := by have := hB2.1; omega
  refine ⟨hBH.set hp3', u1, u2, ?_, (n1.set hp3l).le h03, (n2.set hp3l).le h03⟩
  rw [hE]
  simp only [e_upd, e_putS, e_putN, e_t, e_c, Nat.reduceEqDiff, ↓reduceIte, reduceCtorEq, Nat.reduceAdd]

theorem in_fracAdd1 {x y : Int} : In2 87 x y 100000 100000 [] (UpE (x + y) 0) := by
  intro κ κ' a b hk hk' hm hm' ha hb hx hy
  refine ⟨_, ACalls.body Tryd.func87 ent_fracAdd1 ir_fracAdd1_ok rs_fracAdd1_ok Tryd.ntmps87 (by simp) rfl ?_⟩
  unfold ir_fracAdd1
  have e0 : s0 [mkS κ 0 0 a.length, mkS κ' 1 0 b.length] 0 = mkS κ 0 0 a.length := rfl
  have e1 : s0 [mkS κ 0 0 a.length, mkS κ' 1 0 b.length] 1 = mkS κ' 1 0 b.length := rfl
  have u0 : AtK [ro (ints .u32 a), ro (ints .u32 b)] (mkS κ 0 0 a.length) x 0 100000 := ⟨κ, a, _, hk, rfl, rfl, take_all, ha, hx, hm⟩
  have u1 : AtK [ro (ints .u32 a), ro (ints .u32 b)] (mkS κ' 1 0 b.length) y 1 100000 := ⟨κ', b, _, hk', rfl, rfl, take_all, hb, hy, hm'⟩
  simp (disch := omega) only [sN, ↓reduceIte, Nat.reduceEqDiff, Nat.reduceAdd, Nat.reduceMul, Nat.reduceSub, reduceCtorEq, e_none, e_some, e_bindS, e0, e1, List.map_cons, List.map_nil]
  refine call_in2 in_add rfl u0 u1 (hk_N fun R w n => ?_)
  simp (disch := omega) only [sN, ↓reduceIte, Nat.reduceEqDiff, Nat.reduceAdd, Nat.reduceMul, Nat.reduceSub, reduceCtorEq, e_none, e_some, e_bindS]
  refine ret_keep (by simp) ?_
  rw [rs_fracAdd1, q_tmp2, q_then]
  refine ⟨R, w, rfl, ?_, n⟩
  simp only [e_upd, e_putS, e_putN, e_t, e_c, Nat.reduceEqDiff, ↓reduceIte, reduceCtorEq, Nat.reduceAdd]

set_option maxHeartbeats 1000000 in
theorem xFracAdd_calls (H0 : AHeap) {q p : Fr} (hq : q.ok H0) (hp : p.ok H0) : ACalls Tryd.prog 33 [.agg [q.w, q.w2], .agg [p.w, p.w2]] H0 (List.range H0.length) (AnsF (anN (if cfE [q, p] = 0 then 0 else cfE [q, p]) (q.x * p.y + p.x * q.y) (q.y * p.y)) (anD (if cfE [q, p] = 0 then 0 else cfE [q, p]) (q.x * p.y + p.x * q.y) (q.y * p.y)) (anE (if cfE [q, p] = 0 then 0 else cfE [q, p]) (q.x * p.y + p.x * q.y) (q.y * p.y)) H0) := by
  refine ACalls.body Tryd.func33 ent_xFracAdd ir_xFracAdd_ok rs_xFracAdd_ok Tryd.ntmps33 (by simp) rfl ?_
  unfold ir_xFracAdd
  have e0 : s0 [.agg [q.w, q.w2], .agg [p.w, p.w2]] 0 = .agg [q.w, q.w2] := rfl
  have e1 : s0 [.agg [q.w, q.w2], .agg [p.w, p.w2]] 1 = .agg [p.w, p.w2] := rfl
  have hz : [AV.nilslice, AV.nilslice].all AV.cell = true := rfl
  simp (disch := omega) only [sN, ↓reduceIte, Nat.reduceEqDiff, Nat.reduceAdd, Nat.reduceMul, Nat.reduceSub, reduceCtorEq, e_none, e_some, e_bindS, e0, e1]
  rw [x_boxN (l := [q.w, q.w2]) (by simp only [e_upd, e_putS, e_putN, e_t, e_c, Nat.reduceEqDiff, ↓reduceIte, reduceCtorEq, Nat.reduceAdd, e0]) (by simp [hq.1.cell, hq.2.1.cell])]
  simp (disch := omega) only [sN, ↓reduceIte, Nat.reduceEqDiff, Nat.reduceAdd, Nat.reduceMul, Nat.reduceSub, reduceCtorEq, e_none, e_some, e_bindS, e0, e1]
  rw [x_boxN (l := [p.w, p.w2]) (by simp only [e_upd, e_putS, e_putN, e_t, e_c, Nat.reduceEqDiff, ↓reduceIte, reduceCtorEq, Nat.reduceAdd, e1]) (by simp [hp.1.cell, hp.2.1.cell])]
  obtain ⟨p2, hp2⟩ : ∃ r, r = (H0 ++ [rw_ [q.w, q.w2]]).length := ⟨_, rfl⟩
  have hp2' : H0.length ≤ p2 := by rw [hp2]; simp
  obtain ⟨H1, hH1⟩ : ∃ h, h = H0 ++ [rw_ [q.w, q.w2]] ++ [rw_ [p.w, p.w2]] := ⟨_, rfl⟩
  have hB1 : Base H0 H1 := by rw [hH1]; exact Base.one.app
  have r1 : Vh.rowAt H1 H0.length = some ⟨true, false, [q.w, q.w2]⟩ := by rw [hH1, rowAt_append_left (by simp)]; simp [Vh.rowAt, rw_]
  have r2 : Vh.rowAt H1 p2 = some ⟨true, false, [p.w, p.w2]⟩ := by rw [hH1, hp2]; simp [Vh.rowAt, rw_]
  rw [← hp2, ← hH1]
  clear hH1 hp2
  simp (disch := omega) only [sN, ↓reduceIte, Nat.reduceEqDiff, Nat.reduceAdd, Nat.reduceMul, Nat.reduceSub, reduceCtorEq, e_none, e_some, e_bindS]
  rw [x_allocA hz]
  obtain ⟨p3, hp3⟩ : ∃ r, r = H1.length := ⟨_, rfl⟩
  obtain ⟨H2, hH2⟩ : ∃ h, h = H1 ++ [rw_ [AV.nilslice, AV.nilslice]] := ⟨_, rfl⟩
  have hB2 : Base H0 H2 := by rw [hH2]; exact hB1.app
  have hp3' : H0.length ≤ p3 := by rw [hp3]; exact hB1.1
  have s1 : Vh.rowAt H2 H0.length = some ⟨true, false, [q.w, q.w2]⟩ := by rw [hH2]; exact Base.one.row r1
  have s2 : Vh.rowAt H2 p2 = some ⟨true, false, [p.w, p.w2]⟩ := by rw [hH2]; exact Base.one.row r2
  have s3 : Vh.rowAt H2 p3 = some ⟨true, false, [.nilslice, .nilslice]⟩ := by rw [hH2, hp3]; simp [Vh.rowAt, rw_]
  rw [← hp3, ← hH2]
  clear hH2 hp3
  simp (disch := omega) only [sN, ↓reduceIte, Nat.reduceEqDiff, Nat.reduceAdd, Nat.reduceMul, Nat.reduceSub, reduceCtorEq, e_none, e_some, e_bindS]
  rw [x_loadNA (n := 2) (r := H0.length) (l := [q.w, q.w2]) (by simp only [e_upd, e_putS, e_putN, e_t, e_c, Nat.reduceEqDiff, ↓reduceIte, reduceCtorEq, Nat.reduceAdd]) s1 rfl rfl]
  simp (disch := omega) only [sN, ↓reduceIte, Nat.reduceEqDiff, Nat.reduceAdd, Nat.reduceMul, Nat.reduceSub, reduceCtorEq, e_none, e_some, e_bindS]
  rw [x_loadNA (n := 2) (r := p2) (l := [p.w, p.w2]) (by simp only [e_upd, e_putS, e_putN, e_t, e_c, Nat.reduceEqDiff, ↓reduceIte, reduceCtorEq, Nat.reduceAdd]) s2 rfl rfl]
  simp (disch := omega) only [sN, ↓reduceIte, Nat.reduceEqDiff, Nat.reduceAdd, Nat.reduceMul, Nat.reduceSub, reduceCtorEq, e_none, e_some, e_bindS, List.map_cons, List.map_nil]
  refine ⟨_, (overCommon_calls H2 (hq.base hB2) (hp.base hB2) in_fracAdd1 ?_).g.mono ?_⟩
  · intro hc
    obtain ⟨l1, l2, l3, l4, _, _⟩ := cfE2_good hc
    obtain ⟨⟨i1, k1⟩, i2, k2⟩ := hq.ks l1 l2
    obtain ⟨⟨i3, k3⟩, i4, k4⟩ := hp.ks l3 l4
    have b1 := mul_pow k1.nonneg k4.nonneg k1.lt_pow k4.lt_pow
    have b2 := mul_pow k3.nonneg k2.nonneg k3.lt_pow k2.lt_pow
    have g1 := Int.mul_nonneg k1.nonneg k4.nonneg
    have g2 := Int.mul_nonneg k3.nonneg k2.nonneg
    have hm := BB_mono (show 64 + 64 + 1 ≤ 1000 by omega)
    rw [Int.pow_succ] at hm
    have hp := BB_pos (64 + 64)
    rw [show BB ^ (64 + 64) * BB = BB ^ (64 + 64) * 4294967296 from rfl] at hm
    generalize BB ^ (64 + 64) = P at *
    generalize BB ^ 1000 = Q at *
    omega
  rintro v H ⟨hB3, u1, u2, rfl, n1, n2⟩
  have hBH := hB2.trans hB3
  have q3 := hB3.row s3
  have hl3 := row_lt q3
  have hp3l := row_lt s3
  simp (disch := omega) only [sN, ↓reduceIte, Nat.reduceEqDiff, Nat.reduceAdd, Nat.reduceMul, Nat.reduceSub, reduceCtorEq, e_none, e_some, e_bindS, List.getElem?_cons_zero, List.getElem?_cons_succ]
  rw [x_storeNA (n := 2) (r := p3) (l := [.nilslice, .nilslice]) (l' := [u1, u2]) (by simp only [e_upd, e_putS, e_putN, e_t, e_c, Nat.reduceEqDiff, ↓reduceIte, reduceCtorEq, Nat.reduceAdd]) (by simp only [e_upd, e_putS, e_putN, e_t, e_c, Nat.reduceEqDiff, ↓reduceIte, reduceCtorEq, Nat.reduceAdd]) (by simp [n1.cell, n2.cell]) q3 rfl rfl]
  simp (disch := omega) only [sN, ↓reduceIte, Nat.reduceEqDiff, Nat.reduceAdd, Nat.reduceMul, Nat.reduceSub, reduceCtorEq, e_none, e_some, e_bindS]
  refine ret_keep (by have := hBH.1; simp; omega) ?_
  rw [rs_xFracAdd, ares_cell2 (r := p3) (row := ⟨true, false, [u1, u2]⟩) (l := [u1, u2]) (by simp only [e_upd, e_putS, e_putN, e_t, e_c, Nat.reduceEqDiff, ↓reduceIte, reduceCtorEq, Nat.reduceAdd]) (by rw [rowAt_set hl3, if_pos rfl]; rfl) rfl rfl]
  refine ⟨hBH.set hp3', u1, u2, ?_, (n1.set hp3l).le hB2.1, (n2.set hp3l).le hB2.1⟩
  simp only [e_upd, e_putS, e_putN, e_t, e_c, Nat.reduceEqDiff, ↓reduceIte, reduceCtorEq, Nat.reduceAdd]

set_option maxHeartbeats 1000000 in
theorem xFracSub_calls (H0 : AHeap) {q p : Fr} (hq : q.ok H0) (hp : p.ok H0) : ACalls Tryd.prog 35 [.agg [q.w, q.w2], .agg [p.w, p.w2]] H0 (List.range H0.length) (AnsF (anN (if cfE [q, p] = 0 then (if q.x * p.y < p.x * q.y then 3 else 0) else cfE [q, p]) (if q.x * p.y < p.x * q.y then 0 else q.x * p.y - p.x * q.y) (q.y * p.y)) (anD (if cfE [q, p] = 0 then (if q.x * p.y < p.x * q.y then 3 else 0) else cfE [q, p]) (if q.x * p.y < p.x * q.y then 0 else q.x * p.y - p.x * q.y) (q.y * p.y)) (anE (if cfE [q, p] = 0 then (if q.x * p.y < p.x * q.y then 3 else 0) else cfE [q, p]) (if q.x * p.y < p.x * q.y then 0 else q.x * p.y - p.x * q.y) (q.y * p.y)) H0) := by
  refine ACalls.body Tryd.func35 ent_xFracSub ir_xFracSub_ok rs_xFracSub_ok Tryd.ntmps35 (by simp) rfl ?_
  unfold ir_xFracSub
  have e0 : s0 [.agg [q.w, q.w2], .agg [p.w, p.w2]] 0 = .agg [q.w, q.w2] := rfl
  have e1 : s0 [.agg [q.w, q.w2], .agg [p.w, p.w2]] 1 = .agg [p.w, p.w2] := rfl
  have hz : [AV.nilslice, AV.nilslice].all AV.cell = true := rfl
  simp (disch := omega) only [sN, ↓reduceIte, Nat.reduceEqDiff, Nat.reduceAdd, Nat.reduceMul, Nat.reduceSub, reduceCtorEq, e_none, e_some, e_bindS, e0, e1]
  rw [x_boxN (l := [q.w, q.w2]) (by simp only [e_upd, e_putS, e_putN, e_t, e_c, Nat.reduceEqDiff, ↓reduceIte, reduceCtorEq, Nat.reduceAdd, e0]) (by simp [hq.1.cell, hq.2.1.cell])]
  simp (disch := omega) only [sN, ↓reduceIte, Nat.reduceEqDiff, Nat.reduceAdd, Nat.reduceMul, Nat.reduceSub, reduceCtorEq, e_none, e_some, e_bindS, e0, e1]
  rw [x_boxN (l := [p.w, p.w2]) (by simp only [e_upd, e_putS, e_putN, e_t, e_c, Nat.reduceEqDiff, ↓reduceIte, reduceCtorEq, Nat.reduceAdd, e1]) (by simp [hp.1.cell, hp.2.1.cell])]
  obtain ⟨p2, hp2⟩ : ∃ r, r = (H0 ++ [rw_ [q.w, q.w2]]).length := ⟨_, rfl⟩
  have hp2' : H0.length ≤ p2 := by rw [hp2]; simp
  obtain ⟨H1, hH1⟩ : ∃ h, h = H0 ++ [rw_ [q.w, q.w2]] ++ [rw_ [p.w, p.w2]] := ⟨_, rfl⟩
  have hB1 : Base H0 H1 := by rw [hH1]; exact Base.one.app
  have r1 : Vh.rowAt H1 H0.length = some ⟨true, false, [q.w, q.w2]⟩ := by rw [hH1, rowAt_append_left (by simp)]; simp [Vh.rowAt, rw_]
  have r2 : Vh.rowAt H1 p2 = some ⟨true, false, [p.w, p.w2]⟩ := by rw [hH1, hp2]; simp [Vh.rowAt, rw_]
  rw [← hp2, ← hH1]
  clear hH1 hp2
  simp (disch := omega) only [sN, ↓reduceIte, Nat.reduceEqDiff, Nat.reduceAdd, Nat.reduceMul, Nat.reduceSub, reduceCtorEq, e_none, e_some, e_bindS]
  rw [x_allocA hz]
  obtain ⟨p3, hp3⟩ : ∃ r, r = H1.length := ⟨_, rfl⟩
  obtain ⟨H2, hH2⟩ : ∃ h, h = H1 ++ [rw_ [AV.nilslice, AV.nilslice]] := ⟨_, rfl⟩
  have hB2 : Base H0 H2 := by rw [hH2]; exact hB1.app
  have hp3' : H0.length ≤ p3 := by rw [hp3]; exact hB1.1
  have s1 : Vh.rowAt H2 H0.length = some ⟨true, false, [q.w, q.w2]⟩ := by rw [hH2]; exact Base.one.row r1
  have s2 : Vh.rowAt H2 p2 = some ⟨true, false, [p.w, p.w2]⟩ := by rw [hH2]; exact Base.one.row r2
  have s3 : Vh.rowAt H2 p3 = some ⟨true, false, [.nilslice, .nilslice]⟩ := by rw [hH2, hp3]; simp [Vh.rowAt, rw_]
  rw [← hp3, ← hH2]
  clear hH2 hp3
  simp (disch := omega) only [sN, ↓reduceIte, Nat.reduceEqDiff, Nat.reduceAdd, Nat.reduceMul, Nat.reduceSub, reduceCtorEq, e_none, e_some, e_bindS]
  rw [x_loadNA (n := 2) (r := H0.length) (l := [q.w, q.w2]) (by simp only [e_upd, e_putS, e_putN, e_t, e_c, Nat.reduceEqDiff, ↓reduceIte, reduceCtorEq, Nat.reduceAdd]) s1 rfl rfl]
  simp (disch := omega) only [sN, ↓reduceIte, Nat.reduceEqDiff, Nat.reduceAdd, Nat.reduceMul, Nat.reduceSub, reduceCtorEq, e_none, e_some, e_bindS]
  rw [x_loadNA (n := 2) (r := p2) (l := [p.w, p.w2]) (by simp only [e_upd, e_putS, e_putN, e_t, e_c, Nat.reduceEqDiff, ↓reduceIte, reduceCtorEq, Nat.reduceAdd]) s2 rfl rfl]
  simp (disch := omega) only [sN, ↓reduceIte, Nat.reduceEqDiff, Nat.reduceAdd, Nat.reduceMul, Nat.reduceSub, reduceCtorEq, e_none, e_some, e_bindS, List.map_cons, List.map_nil]
  refine ⟨_, (overCommon_calls H2 (hq.base hB2) (hp.base hB2) in_difference ?_).g.mono ?_⟩
  · intro hc
    obtain ⟨l1, l2, l3, l4, _, _⟩ := cfE2_good hc
    obtain ⟨⟨i1, k1⟩, i2, k2⟩ := hq.ks l1 l2
    obtain ⟨⟨i3, k3⟩, i4, k4⟩ := hp.ks l3 l4
    have b1 := mul_pow k1.nonneg k4.nonneg k1.lt_pow k4.lt_pow
    have b2 := mul_pow k3.nonneg k2.nonneg k3.lt_pow k2.lt_pow
    have g1 := Int.mul_nonneg k1.nonneg k4.nonneg
    have g2 := Int.mul_nonneg k3.nonneg k2.nonneg
    have hm := BB_mono (show 64 + 64 + 1 ≤ 1000 by omega)
    rw [Int.pow_succ] at hm
    have hp := BB_pos (64 + 64)
    rw [show BB ^ (64 + 64) * BB = BB ^ (64 + 64) * 4294967296 from rfl] at hm
    generalize BB ^ (64 + 64) = P at *
    generalize BB ^ 1000 = Q at *
    split <;> omega
  rintro v H ⟨hB3, u1, u2, rfl, n1, n2⟩
  have hBH := hB2.trans hB3
  have q3 := hB3.row s3
  have hl3 := row_lt q3
  have hp3l := row_lt s3
  simp (disch := omega) only [sN, ↓reduceIte, Nat.reduceEqDiff, Nat.reduceAdd, Nat.reduceMul, Nat.reduceSub, reduceCtorEq, e_none, e_some, e_bindS, List.getElem?_cons_zero, List.getElem?_cons_succ]
  rw [x_storeNA (n := 2) (r := p3) (l := [.nilslice, .nilslice]) (l' := [u1, u2]) (by simp only [e_upd, e_putS, e_putN, e_t, e_c, Nat.reduceEqDiff, ↓reduceIte, reduceCtorEq, Nat.reduceAdd]) (by simp only [e_upd, e_putS, e_putN, e_t, e_c, Nat.reduceEqDiff, ↓reduceIte, reduceCtorEq, Nat.reduceAdd]) (by simp [n1.cell, n2.cell]) q3 rfl rfl]
  simp (disch := omega) only [sN, ↓reduceIte, Nat.reduceEqDiff, Nat.reduceAdd, Nat.reduceMul, Nat.reduceSub, reduceCtorEq, e_none, e_some, e_bindS]
  refine ret_keep (by have := hBH.1; simp; omega) ?_
  rw [rs_xFracSub, ares_cell2 (r := p3) (row := ⟨true, false, [u1, u2]⟩) (l := [u1, u2]) (by simp only [e_upd, e_putS, e_putN, e_t, e_c, Nat.reduceEqDiff, ↓reduceIte, reduceCtorEq, Nat.reduceAdd]) (by rw [rowAt_set hl3, if_pos rfl]; rfl) rfl rfl]
  refine ⟨hBH.set hp3', u1, u2, ?_, (n1.set hp3l).le hB2.1, (n2.set hp3l).le hB2.1⟩
  simp only [e_upd, e_putS, e_putN, e_t, e_c, Nat.reduceEqDiff, ↓reduceIte, reduceCtorEq, Nat.reduceAdd]

theorem xCheckFrac_calls (H0 : AHeap) {q : Fr} (hq : q.ok H0) : ACalls Tryd.prog 26 [.agg [q.w, q.w2]] H0 (List.range H0.length) fun v H => v = .int .i64 (cfE [q]) ∧ Base H0 H := by
  refine ACalls.body Tryd.func26 ent_xCheckFrac ir_xCheckFrac_ok rs_xCheckFrac_ok Tryd.ntmps26 (by simp) rfl ?_
  unfold ir_xCheckFrac
  have e0 : s0 [.agg [q.w, q.w2]] 0 = .agg [q.w, q.w2] := rfl
  simp (disch := omega) only [sN, ↓reduceIte, Nat.reduceEqDiff, Nat.reduceAdd, Nat.reduceMul, Nat.reduceSub, reduceCtorEq, e_none, e_some, e_bindS, e0]
  rw [x_boxN (l := [q.w, q.w2]) (by simp only [e_upd, e_putS, e_putN, e_t, e_c, Nat.reduceEqDiff, ↓reduceIte, reduceCtorEq, Nat.reduceAdd, e0]) (by simp [hq.1.cell, hq.2.1.cell])]
  have r1 : Vh.rowAt (H0 ++ [rw_ [q.w, q.w2]]) H0.length = some ⟨true, false, [q.w, q.w2]⟩ := by simp [Vh.rowAt, rw_]
  simp (disch := omega) only [sN, ↓reduceIte, Nat.reduceEqDiff, Nat.reduceAdd, Nat.reduceMul, Nat.reduceSub, reduceCtorEq, e_none, e_some, e_bindS]
  rw [x_loadNA (n := 2) (r := H0.length) (l := [q.w, q.w2]) (by simp only [e_upd, e_putS, e_putN, e_t, e_c, Nat.reduceEqDiff, ↓reduceIte, reduceCtorEq, Nat.reduceAdd]) r1 rfl rfl]
  simp (disch := omega) only [sN, ↓reduceIte, Nat.reduceEqDiff, Nat.reduceAdd, Nat.reduceMul, Nat.reduceSub, reduceCtorEq, e_none, e_some, e_bindS]
  rw [x_bsF1 (v1 := q.w) (v2 := q.w2) (by simp only [e_upd, e_putS, e_putN, e_t, e_c, Nat.reduceEqDiff, ↓reduceIte, reduceCtorEq, Nat.reduceAdd]) hq.1.cell hq.2.1.cell]
  simp (disch := omega) only [sN, ↓reduceIte, Nat.reduceEqDiff, Nat.reduceAdd, Nat.reduceMul, Nat.reduceSub, reduceCtorEq, e_none, e_some, e_bindS, List.map_cons, List.map_nil]
  refine ⟨_, (checkFracs_calls (H0 ++ [rw_ [q.w, q.w2]] ++ [rw_ [q.w, q.w2]]) [q] (n := 1) (r := (H0 ++ [rw_ [q.w, q.w2]]).length) (row := ⟨true, false, [q.w, q.w2]⟩) rfl (by omega) (by simp [Vh.rowAt, rw_]) rfl ?_).g.mono ?_⟩
  · intro f hf
    simp only [List.mem_cons, List.not_mem_nil, or_false] at hf
    subst hf
    exact hq.base Base.one.app
  rintro v H ⟨rfl, hB2⟩
  have hBH : Base H0 H := Base.one.app.trans hB2
  simp (disch := omega) only [sN, ↓reduceIte, Nat.reduceEqDiff, Nat.reduceAdd, Nat.reduceMul, Nat.reduceSub, reduceCtorEq, e_none, e_some, e_bindS]
  refine ret_keep hBH.1 ⟨?_, hBH⟩
  simp only [e_upd, e_putS, e_putN, e_t, e_c, Nat.reduceEqDiff, ↓reduceIte, reduceCtorEq, Nat.reduceAdd]
end Go.Proofs.YtpkeneadkiabiaaDoor


/- ExactFracs' walk. -/
-- NEWSET
namespace Go.Proofs.YtpkeneadkiabiaaDoor
open Go Go.Vh

theorem anN_lt (c x y : Int) : anN c x y < BB ^ 64 := by
  unfold anN; split
  · split
    · rename_i h; unfold redE at h; split at h
      · rename_i h2; exact h2.1
      · omega
    · exact BB_pos 64
  · exact BB_pos 64
theorem anD_lt (c x y : Int) : anD c x y < BB ^ 64 := by
  unfold anD; split
  · split
    · rename_i h; unfold redE at h; split at h
      · rename_i h2; exact h2.2
      · omega
    · exact BB_pos 64
  · exact BB_pos 64
theorem rf_an (q : Fr) : rfN q = anN (cfE [q]) q.x q.y ∧ rfD q = anD (cfE [q]) q.x q.y ∧ rfE q = anE (cfE [q]) q.x q.y := by
  unfold rfN rfD rfE anN anD anE
  by_cases h : cfE [q] = 0
  · simp [h]
  · simp [h]
theorem add_c (q p : Fr) : (if cfE [q, p] = 0 then (0 : Int) else cfE [q, p]) = cfE [q, p] := by split <;> simp_all
theorem sub_n (q p : Fr) (x y z : Int) (hx : x = q.x * p.y) (hy : y = p.x * q.y) : anN (sbC q p) (if x < y then 0 else x - y) z = anN (sbC q p) (x - y) z ∧ anD (sbC q p) (if x < y then 0 else x - y) z = anD (sbC q p) (x - y) z ∧ anE (sbC q p) (if x < y then 0 else x - y) z = anE (sbC q p) (x - y) z := by
  subst hx; subst hy
  by_cases h : q.x * p.y < p.x * q.y
  · have hc : sbC q p ≠ 0 := by
      unfold sbC
      by_cases h2 : cfE [q, p] = 0
      · rw [if_pos h2, if_pos h]; decide
      · rw [if_neg h2]; exact h2
    unfold anN anD anE
    rw [if_neg hc, if_neg hc, if_neg hc, if_neg hc, if_neg hc, if_neg hc]
    exact ⟨rfl, rfl, rfl⟩
  · rw [if_neg h]; exact ⟨rfl, rfl, rfl⟩
theorem b_strN (a : ByteArray) : abin .neq (.str a) (.str a) = some (.bool false) := by
  show some (AV.bool !(a.toList == a.toList)) = _
  rw [beq_self_eq_true]; rfl
theorem call_xCheck0 {K : St → AHeap → Prop} {d : Option Nat} {s : St} {H : AHeap} {q : Fr} (hq : q.ok H) (hK : ∀ R, K (putI d s (.int .i64 (cfE [q]))) (H ++ R)) : thenC0 Tryd.prog K d s H [.agg [q.w, q.w2]] (.func 26 []) := by
  obtain ⟨⟨κ, l, row, r, h1, hw, h3, h4, h5, h6, h7⟩, ⟨κ', l', row', r', k1, hw', k3, k4, k5, k6, k7⟩, hn, hm⟩ := hq
  rw [hw, hw']
  have hc := xCheckFrac_calls [ro (ints .u32 l), ro (ints .u32 l')] (q := ⟨mkS κ 0 0 l.length, mkS κ' 1 0 l'.length, q.x, q.y, q.n, q.m⟩) ⟨⟨κ, l, _, 0, h1, rfl, rfl, take_all, h5, h6, h7⟩, ⟨κ', l', _, 1, k1, rfl, rfl, take_all, k5, k6, k7⟩, hn, hm⟩
  have hcf : cfE [⟨mkS κ 0 0 l.length, mkS κ' 1 0 l'.length, q.x, q.y, q.n, q.m⟩] = cfE [q] := by
    rw [cfE_one, cfE_one]; rfl
  rw [hcf] at hc
  refine call_do0 hc [(r, 0), (r', 0)] rfl ?_ rfl rfl ?_ ⟨seen_limbs h3 h4, seen_limbs k3 k4, trivial⟩ fun v0 H0' ⟨hv, _⟩ => ?_
  · simp [underL, AV.under, mkS_under]
  · simp only [List.append_nil, renL, AV.ren]
    rw [n_mkS0 (r' := r) rfl, n_mkS0 (r' := r') rfl]
  · subst hv
    rw [m_merge, m_ro, m_ro, m_nil, n_int]
    exact hK _

set_option maxHeartbeats 4000000 in
theorem fracs_calls {Ww : List Nat} (hw : ACalls Tryd.prog 18 [] [] Ww fun v _ => v = .bool true) (κ0 κ1 κ2 κ3 : SK) (a b c e : List Int) (hk0 : okS κ0 a.length) (hk1 : okS κ1 b.length) (hk2 : okS κ2 c.length) (hk3 : okS κ3 e.length) (hm0 : a.length ≤ maxLen) (hm1 : b.length ≤ maxLen) (hm2 : c.length ≤ maxLen) (hm3 : e.length ≤ maxLen) (la : Limbs a) (lb : Limbs b) (lc : Limbs c) (le : Limbs e) :
    ACalls Tryd.prog 5 [.agg [mkS κ0 0 0 a.length, mkS κ1 1 0 b.length], .agg [mkS κ2 2 0 c.length, mkS κ3 3 0 e.length]] [ro (ints .u32 a), ro (ints .u32 b), ro (ints .u32 c), ro (ints .u32 e)] (List.range 4) fun v _ => v = .bool true := by
  obtain ⟨q, hqd⟩ : ∃ q : Fr, q = ⟨mkS κ0 0 0 a.length, mkS κ1 1 0 b.length, num a, num b, a.length, b.length⟩ := ⟨_, rfl⟩
  obtain ⟨p, hpd⟩ : ∃ q : Fr, q = ⟨mkS κ2 2 0 c.length, mkS κ3 3 0 e.length, num c, num e, c.length, e.length⟩ := ⟨_, rfl⟩
  have g1 : AtX [ro (ints .u32 a), ro (ints .u32 b), ro (ints .u32 c), ro (ints .u32 e)] q.w q.x q.n := by rw [hqd]; exact ⟨κ0, a, _, 0, hk0, rfl, rfl, take_all, la, rfl, rfl⟩
  have g2 : AtX [ro (ints .u32 a), ro (ints .u32 b), ro (ints .u32 c), ro (ints .u32 e)] q.w2 q.y q.m := by rw [hqd]; exact ⟨κ1, b, _, 1, hk1, rfl, rfl, take_all, lb, rfl, rfl⟩
  have g3 : AtX [ro (ints .u32 a), ro (ints .u32 b), ro (ints .u32 c), ro (ints .u32 e)] p.w p.x p.n := by rw [hpd]; exact ⟨κ2, c, _, 2, hk2, rfl, rfl, take_all, lc, rfl, rfl⟩
  have g4 : AtX [ro (ints .u32 a), ro (ints .u32 b), ro (ints .u32 c), ro (ints .u32 e)] p.w2 p.y p.m := by rw [hpd]; exact ⟨κ3, e, _, 3, hk3, rfl, rfl, take_all, le, rfl, rfl⟩
  have n1 : q.n = a.length := by rw [hqd]
  have n2 : q.m = b.length := by rw [hqd]
  have n3 : p.n = c.length := by rw [hpd]
  have n4 : p.m = e.length := by rw [hpd]
  have lw1 : alen q.w = some a.length := by rw [hqd]; exact k_len hk0 (Nat.le_refl _)
  have lw2 : alen q.w2 = some b.length := by rw [hqd]; exact k_len hk1 (Nat.le_refl _)
  have lw3 : alen p.w = some c.length := by rw [hpd]; exact k_len hk2 (Nat.le_refl _)
  have lw4 : alen p.w2 = some e.length := by rw [hpd]; exact k_len hk3 (Nat.le_refl _)
  rw [show mkS κ0 0 0 a.length = q.w by rw [hqd], show mkS κ1 1 0 b.length = q.w2 by rw [hqd], show mkS κ2 2 0 c.length = p.w by rw [hpd], show mkS κ3 3 0 e.length = p.w2 by rw [hpd]]
  clear hqd hpd
  refine ACalls.body Tryd.func5 ent_fracs ir_fracs_ok rs_fracs_ok Tryd.ntmps5 (by simp) rfl ?_
  unfold ir_fracs
  obtain ⟨H0, hH0⟩ : ∃ h, h = [ro (ints .u32 a), ro (ints .u32 b), ro (ints .u32 c), ro (ints .u32 e)] := ⟨_, rfl⟩
  have hl0 : H0.length = 4 := by rw [hH0]; rfl
  rw [← hH0] at g1 g2 g3 g4 ⊢
  clear hH0
  have e0 : s0 [.agg [q.w, q.w2], .agg [p.w, p.w2]] 0 = .agg [q.w, q.w2] := rfl
  have e1 : s0 [.agg [q.w, q.w2], .agg [p.w, p.w2]] 1 = .agg [p.w, p.w2] := rfl
  have hz : [AV.nilslice, AV.nilslice].all AV.cell = true := rfl
  have hworks : ∀ {s : St} {H : AHeap} {K : St → AHeap → Prop} {d : Option Nat}, (∀ H', H.length ≤ H'.length → K (putI d s (.bool true)) H') → thenC Tryd.prog K d s H [] (.func 18 []) := fun hK => call_true hw fun H' => hK _ (by simp)
  simp (disch := omega) only [sN, ↓reduceIte, Nat.reduceEqDiff, Nat.reduceAdd, Nat.reduceMul, Nat.reduceSub, reduceCtorEq, e_none, e_some, e_bindS, e0, e1]
  rw [x_boxN (l := [q.w, q.w2]) (by simp only [e_upd, e_putS, e_putN, e_t, e_c, Nat.reduceEqDiff, ↓reduceIte, reduceCtorEq, Nat.reduceAdd, e0]) (by simp [g1.cell, g2.cell])]
  simp (disch := omega) only [sN, ↓reduceIte, Nat.reduceEqDiff, Nat.reduceAdd, Nat.reduceMul, Nat.reduceSub, reduceCtorEq, e_none, e_some, e_bindS, e0, e1]
  rw [x_boxN (l := [p.w, p.w2]) (by simp only [e_upd, e_putS, e_putN, e_t, e_c, Nat.reduceEqDiff, ↓reduceIte, reduceCtorEq, Nat.reduceAdd, e1]) (by simp [g3.cell, g4.cell])]
  obtain ⟨p2, hp2⟩ : ∃ r, r = (H0 ++ [rw_ [q.w, q.w2]]).length := ⟨_, rfl⟩
  obtain ⟨H1, hH1⟩ : ∃ h, h = H0 ++ [rw_ [q.w, q.w2]] ++ [rw_ [p.w, p.w2]] := ⟨_, rfl⟩
  have hB1 : Base H0 H1 := by rw [hH1]; exact Base.one.app
  have r1 : Vh.rowAt H1 H0.length = some ⟨true, false, [q.w, q.w2]⟩ := by rw [hH1, rowAt_append_left (by simp)]; simp [Vh.rowAt, rw_]
  have r2 : Vh.rowAt H1 p2 = some ⟨true, false, [p.w, p.w2]⟩ := by rw [hH1, hp2]; simp [Vh.rowAt, rw_]
  rw [← hp2, ← hH1]
  clear hH1 hp2
  by_cases c0 : a.length ≤ 100
  case neg =>
    simp (disch := omega) only [sN, ↓reduceIte, Nat.reduceEqDiff, Nat.reduceAdd, Nat.reduceMul, Nat.reduceSub, reduceCtorEq, e_none, e_some, e_bindS, r1, r2, p_fieldAddr, Nat.zero_add, Option.bind_some, Option.map_some, List.getElem?_cons_zero, List.getElem?_cons_succ, lw1, lw2, lw3, lw4, List.map_nil, List.map_cons]
    refine hworks fun H' hl => ?_
    simp (disch := omega) only [sN, ↓reduceIte, Nat.reduceEqDiff, Nat.reduceAdd, Nat.reduceMul, Nat.reduceSub, reduceCtorEq, e_none, e_some, e_bindS]
    refine ret_keep (by have := hB1.1; omega) ?_
    simp only [q_tmp, q_then, rs_fracs, e_upd, e_putS, e_putN, e_t, e_c, Nat.reduceEqDiff, ↓reduceIte, reduceCtorEq, Nat.reduceAdd]
  case pos =>
  by_cases c1 : b.length ≤ 100
  case neg =>
    simp (disch := omega) only [sN, ↓reduceIte, Nat.reduceEqDiff, Nat.reduceAdd, Nat.reduceMul, Nat.reduceSub, reduceCtorEq, e_none, e_some, e_bindS, r1, r2, p_fieldAddr, Nat.zero_add, Option.bind_some, Option.map_some, List.getElem?_cons_zero, List.getElem?_cons_succ, lw1, lw2, lw3, lw4, List.map_nil, List.map_cons]
    refine hworks fun H' hl => ?_
    simp (disch := omega) only [sN, ↓reduceIte, Nat.reduceEqDiff, Nat.reduceAdd, Nat.reduceMul, Nat.reduceSub, reduceCtorEq, e_none, e_some, e_bindS]
    refine ret_keep (by have := hB1.1; omega) ?_
    simp only [q_tmp, q_then, rs_fracs, e_upd, e_putS, e_putN, e_t, e_c, Nat.reduceEqDiff, ↓reduceIte, reduceCtorEq, Nat.reduceAdd]
  case pos =>
  by_cases c2 : c.length ≤ 100
  case neg =>
    simp (disch := omega) only [sN, ↓reduceIte, Nat.reduceEqDiff, Nat.reduceAdd, Nat.reduceMul, Nat.reduceSub, reduceCtorEq, e_none, e_some, e_bindS, r1, r2, p_fieldAddr, Nat.zero_add, Option.bind_some, Option.map_some, List.getElem?_cons_zero, List.getElem?_cons_succ, lw1, lw2, lw3, lw4, List.map_nil, List.map_cons]
    refine hworks fun H' hl => ?_
    simp (disch := omega) only [sN, ↓reduceIte, Nat.reduceEqDiff, Nat.reduceAdd, Nat.reduceMul, Nat.reduceSub, reduceCtorEq, e_none, e_some, e_bindS]
    refine ret_keep (by have := hB1.1; omega) ?_
    simp only [q_tmp, q_then, rs_fracs, e_upd, e_putS, e_putN, e_t, e_c, Nat.reduceEqDiff, ↓reduceIte, reduceCtorEq, Nat.reduceAdd]
  case pos =>
  by_cases c3 : e.length ≤ 100
  case neg =>
    simp (disch := omega) only [sN, ↓reduceIte, Nat.reduceEqDiff, Nat.reduceAdd, Nat.reduceMul, Nat.reduceSub, reduceCtorEq, e_none, e_some, e_bindS, r1, r2, p_fieldAddr, Nat.zero_add, Option.bind_some, Option.map_some, List.getElem?_cons_zero, List.getElem?_cons_succ, lw1, lw2, lw3, lw4, List.map_nil, List.map_cons]
    refine hworks fun H' hl => ?_
    simp (disch := omega) only [sN, ↓reduceIte, Nat.reduceEqDiff, Nat.reduceAdd, Nat.reduceMul, Nat.reduceSub, reduceCtorEq, e_none, e_some, e_bindS]
    refine ret_keep (by have := hB1.1; omega) ?_
    simp only [q_tmp, q_then, rs_fracs, e_upd, e_putS, e_putN, e_t, e_c, Nat.reduceEqDiff, ↓reduceIte, reduceCtorEq, Nat.reduceAdd]
  case pos =>
  have hq : q.ok H1 := ⟨g1.base hB1, g2.base hB1, by omega, by omega⟩
  have hp : p.ok H1 := ⟨g3.base hB1, g4.base hB1, by omega, by omega⟩
  simp (disch := omega) only [sN, ↓reduceIte, Nat.reduceEqDiff, Nat.reduceAdd, Nat.reduceMul, Nat.reduceSub, reduceCtorEq, e_none, e_some, e_bindS, r1, r2, p_fieldAddr, Nat.zero_add, Option.bind_some, Option.map_some, List.getElem?_cons_zero, List.getElem?_cons_succ, lw1, lw2, lw3, lw4, List.map_nil, List.map_cons]
  rw [x_loadNA (n := 2) (r := H0.length) (l := [q.w, q.w2]) (by simp only [e_upd, e_putS, e_putN, e_t, e_c, Nat.reduceEqDiff, ↓reduceIte, reduceCtorEq, Nat.reduceAdd]) r1 rfl rfl]
  simp (disch := omega) only [sN, ↓reduceIte, Nat.reduceEqDiff, Nat.reduceAdd, Nat.reduceMul, Nat.reduceSub, reduceCtorEq, e_none, e_some, e_bindS, List.map_cons, List.map_nil, List.getElem?_cons_zero, List.getElem?_cons_succ]
  rw [x_loadNA (n := 2) (r := H0.length) (l := [q.w, q.w2]) (by simp only [e_upd, e_putS, e_putN, e_t, e_c, Nat.reduceEqDiff, ↓reduceIte, reduceCtorEq, Nat.reduceAdd]) r1 rfl rfl]
  simp (disch := omega) only [sN, ↓reduceIte, Nat.reduceEqDiff, Nat.reduceAdd, Nat.reduceMul, Nat.reduceSub, reduceCtorEq, e_none, e_some, e_bindS, List.map_cons, List.map_nil, List.getElem?_cons_zero, List.getElem?_cons_succ]
  refine call_xCheck0 hq fun R2 => ?_
  simp (disch := omega) only [sN, ↓reduceIte, Nat.reduceEqDiff, Nat.reduceAdd, Nat.reduceMul, Nat.reduceSub, reduceCtorEq, e_none, e_some, e_bindS, List.map_cons, List.map_nil, List.getElem?_cons_zero, List.getElem?_cons_succ]
  refine ⟨_, (rCheckFrac_calls (H1 ++ R2) (hq.base Base.one)).g.mono ?_⟩
  rintro v2 H2 ⟨rfl, hb2'⟩
  have hb2 : Base H1 H2 := Base.one.trans hb2'
  clear hb2'
  simp (disch := omega) only [sN, ↓reduceIte, Nat.reduceEqDiff, Nat.reduceAdd, Nat.reduceMul, Nat.reduceSub, reduceCtorEq, e_none, e_some, e_bindS, bne_self_eq_false]
  rw [x_loadNA (n := 2) (r := H0.length) (l := [q.w, q.w2]) (by simp only [e_upd, e_putS, e_putN, e_t, e_c, Nat.reduceEqDiff, ↓reduceIte, reduceCtorEq, Nat.reduceAdd]) (hb2.row r1) rfl rfl]
  simp (disch := omega) only [sN, ↓reduceIte, Nat.reduceEqDiff, Nat.reduceAdd, Nat.reduceMul, Nat.reduceSub, reduceCtorEq, e_none, e_some, e_bindS, List.map_cons, List.map_nil, List.getElem?_cons_zero, List.getElem?_cons_succ]
  refine ⟨_, (xReduce_calls H2 (hq.base hb2)).g.mono ?_⟩
  rintro v3 H3 ⟨hb3', u1, u2, rfl, x1, x2⟩
  have hb3 := hb2.trans hb3'
  simp (disch := omega) only [sN, ↓reduceIte, Nat.reduceEqDiff, Nat.reduceAdd, Nat.reduceMul, Nat.reduceSub, reduceCtorEq, e_none, e_some, e_bindS, List.map_cons, List.map_nil, List.getElem?_cons_zero, List.getElem?_cons_succ]
  rw [x_allocA hz]
  simp (disch := omega) only [sN, ↓reduceIte, Nat.reduceEqDiff, Nat.reduceAdd, Nat.reduceMul, Nat.reduceSub, reduceCtorEq, e_none, e_some, e_bindS, List.map_cons, List.map_nil, List.getElem?_cons_zero, List.getElem?_cons_succ]
  rw [x_storeNA (n := 2) (r := H3.length) (l := [.nilslice, .nilslice]) (l' := [u1, u2]) (by simp only [e_upd, e_putS, e_putN, e_t, e_c, Nat.reduceEqDiff, ↓reduceIte, reduceCtorEq, Nat.reduceAdd]) (by simp only [e_upd, e_putS, e_putN, e_t, e_c, Nat.reduceEqDiff, ↓reduceIte, reduceCtorEq, Nat.reduceAdd]) (by simp [x1.cell, x2.cell]) (by simp [Vh.rowAt, rw_]) rfl rfl, set_last]
  obtain ⟨b5, hb5d⟩ : ∃ r, r = H3.length := ⟨_, rfl⟩
  obtain ⟨H4, hH4⟩ : ∃ h, h = H3 ++ [rw_ [u1, u2]] := ⟨_, rfl⟩
  have hb4 : Base H1 H4 := by rw [hH4]; exact hb3.app
  have R5 : Vh.rowAt H4 b5 = some ⟨true, false, [u1, u2]⟩ := by rw [hH4, hb5d]; simp [Vh.rowAt, rw_]
  have h15 : H1.length ≤ b5 := by rw [hb5d]; exact hb3.1
  replace x1 : NumV H4 u1 (rfN q) H2.length := by rw [hH4]; exact x1.app
  replace x2 : NumV H4 u2 (rfD q) H2.length := by rw [hH4]; exact x2.app
  rw [← hb5d, ← hH4]
  clear hH4 hb5d
  simp (disch := omega) only [sN, ↓reduceIte, Nat.reduceEqDiff, Nat.reduceAdd, Nat.reduceMul, Nat.reduceSub, reduceCtorEq, e_none, e_some, e_bindS, List.map_cons, List.map_nil, List.getElem?_cons_zero, List.getElem?_cons_succ]
  rw [x_loadNA (n := 2) (r := H0.length) (l := [q.w, q.w2]) (by simp only [e_upd, e_putS, e_putN, e_t, e_c, Nat.reduceEqDiff, ↓reduceIte, reduceCtorEq, Nat.reduceAdd]) (hb4.row r1) rfl rfl]
  simp (disch := omega) only [sN, ↓reduceIte, Nat.reduceEqDiff, Nat.reduceAdd, Nat.reduceMul, Nat.reduceSub, reduceCtorEq, e_none, e_some, e_bindS, List.map_cons, List.map_nil, List.getElem?_cons_zero, List.getElem?_cons_succ]
  refine ⟨_, (rReduce_calls H4 (hq.base hb4)).g.mono ?_⟩
  rintro v5 H5 ⟨hb45, u3, u4, rfl, x3, x4⟩
  have hb5 := hb4.trans hb45
  simp (disch := omega) only [sN, ↓reduceIte, Nat.reduceEqDiff, Nat.reduceAdd, Nat.reduceMul, Nat.reduceSub, reduceCtorEq, e_none, e_some, e_bindS, List.map_cons, List.map_nil, List.getElem?_cons_zero, List.getElem?_cons_succ]
  rw [x_allocA hz]
  simp (disch := omega) only [sN, ↓reduceIte, Nat.reduceEqDiff, Nat.reduceAdd, Nat.reduceMul, Nat.reduceSub, reduceCtorEq, e_none, e_some, e_bindS, List.map_cons, List.map_nil, List.getElem?_cons_zero, List.getElem?_cons_succ]
  rw [x_storeNA (n := 2) (r := H5.length) (l := [.nilslice, .nilslice]) (l' := [u3, u4]) (by simp only [e_upd, e_putS, e_putN, e_t, e_c, Nat.reduceEqDiff, ↓reduceIte, reduceCtorEq, Nat.reduceAdd]) (by simp only [e_upd, e_putS, e_putN, e_t, e_c, Nat.reduceEqDiff, ↓reduceIte, reduceCtorEq, Nat.reduceAdd]) (by simp [x3.cell, x4.cell]) (by simp [Vh.rowAt, rw_]) rfl rfl, set_last]
  obtain ⟨b7, hb7d⟩ : ∃ r, r = H5.length := ⟨_, rfl⟩
  obtain ⟨H6, hH6⟩ : ∃ h, h = H5 ++ [rw_ [u3, u4]] := ⟨_, rfl⟩
  have hb46 : Base H4 H6 := by rw [hH6]; exact hb45.app
  have hb6 : Base H1 H6 := hb4.trans hb46
  have R7 : Vh.rowAt H6 b7 = some ⟨true, false, [u3, u4]⟩ := by rw [hH6, hb7d]; simp [Vh.rowAt, rw_]
  have h17 : H1.length ≤ b7 := by rw [hb7d]; exact hb5.1
  have h57 : b5 ≠ b7 := by have := row_lt R5; have := hb45.1; omega
  replace R5 := hb46.row R5
  have y1 : AtN H6 u1 (rfN q) := (x1.base2 hb46).normAt R5
  have y2 : AtN H6 u2 (rfD q) := (x2.base2 hb46).normAt R5
  have y3 : AtN H6 u3 (rfN q) := by rw [hH6] at *; exact x3.app.normAt R7
  have y4 : AtN H6 u4 (rfD q) := by rw [hH6] at *; exact x4.app.normAt R7
  rw [← hb7d, ← hH6]
  clear hH6 hb7d x1 x2 x3 x4
  simp (disch := omega) only [sN, ↓reduceIte, Nat.reduceEqDiff, Nat.reduceAdd, Nat.reduceMul, Nat.reduceSub, reduceCtorEq, e_none, e_some, e_bindS, List.map_cons, List.map_nil, List.getElem?_cons_zero, List.getElem?_cons_succ]
  rw [x_loadNA (n := 2) (r := b5) (l := [u1, u2]) (by simp only [e_upd, e_putS, e_putN, e_t, e_c, Nat.reduceEqDiff, ↓reduceIte, reduceCtorEq, Nat.reduceAdd]) R5 rfl rfl]
  simp (disch := omega) only [sN, ↓reduceIte, Nat.reduceEqDiff, Nat.reduceAdd, Nat.reduceMul, Nat.reduceSub, reduceCtorEq, e_none, e_some, e_bindS, List.map_cons, List.map_nil, List.getElem?_cons_zero, List.getElem?_cons_succ]
  rw [x_loadNA (n := 2) (r := b7) (l := [u3, u4]) (by simp only [e_upd, e_putS, e_putN, e_t, e_c, Nat.reduceEqDiff, ↓reduceIte, reduceCtorEq, Nat.reduceAdd]) R7 rfl rfl]
  simp (disch := omega) only [sN, ↓reduceIte, Nat.reduceEqDiff, Nat.reduceAdd, Nat.reduceMul, Nat.reduceSub, reduceCtorEq, e_none, e_some, e_bindS, List.map_cons, List.map_nil, List.getElem?_cons_zero, List.getElem?_cons_succ]
  refine ⟨_, (lfrac_calls H6 (k := 64) (by omega) y1 y2 y3 y4 (by rw [(rf_an q).1]; exact anN_lt _ _ _) (by rw [(rf_an q).2.1]; exact anD_lt _ _ _)).g.mono ?_⟩
  rintro v7 H7 ⟨rfl, hb67⟩
  have hb7 := hb6.trans hb67
  replace R5 := hb67.row R5
  replace R7 := hb67.row R7
  clear y1 y2 y3 y4
  simp (disch := omega) only [sN, ↓reduceIte, Nat.reduceEqDiff, Nat.reduceAdd, Nat.reduceMul, Nat.reduceSub, reduceCtorEq, e_none, e_some, e_bindS, List.map_cons, List.map_nil, List.getElem?_cons_zero, List.getElem?_cons_succ]
  rw [x_loadNA (n := 2) (r := H0.length) (l := [q.w, q.w2]) (by simp only [e_upd, e_putS, e_putN, e_t, e_c, Nat.reduceEqDiff, ↓reduceIte, reduceCtorEq, Nat.reduceAdd]) (hb7.row r1) rfl rfl]
  simp (disch := omega) only [sN, ↓reduceIte, Nat.reduceEqDiff, Nat.reduceAdd, Nat.reduceMul, Nat.reduceSub, reduceCtorEq, e_none, e_some, e_bindS, List.map_cons, List.map_nil, List.getElem?_cons_zero, List.getElem?_cons_succ]
  refine ⟨_, (xFracText_calls H7 (hq.base hb7)).g.mono ?_⟩
  rintro v8 H8 ⟨rfl, hb78⟩
  have hb8 := hb7.trans hb78
  simp (disch := omega) only [sN, ↓reduceIte, Nat.reduceEqDiff, Nat.reduceAdd, Nat.reduceMul, Nat.reduceSub, reduceCtorEq, e_none, e_some, e_bindS, List.map_cons, List.map_nil, List.getElem?_cons_zero, List.getElem?_cons_succ]
  rw [x_loadNA (n := 2) (r := H0.length) (l := [q.w, q.w2]) (by simp only [e_upd, e_putS, e_putN, e_t, e_c, Nat.reduceEqDiff, ↓reduceIte, reduceCtorEq, Nat.reduceAdd]) (hb8.row r1) rfl rfl]
  simp (disch := omega) only [sN, ↓reduceIte, Nat.reduceEqDiff, Nat.reduceAdd, Nat.reduceMul, Nat.reduceSub, reduceCtorEq, e_none, e_some, e_bindS, List.map_cons, List.map_nil, List.getElem?_cons_zero, List.getElem?_cons_succ]
  refine ⟨_, (rFracText_calls H8 (hq.base hb8)).g.mono ?_⟩
  rintro v9 H9 ⟨rfl, hb89⟩
  have hb9 := hb8.trans hb89
  have hst := b_strN (ftS q)
  simp (disch := omega) only [sN, ↓reduceIte, Nat.reduceEqDiff, Nat.reduceAdd, Nat.reduceMul, Nat.reduceSub, reduceCtorEq, e_none, e_some, e_bindS, List.map_cons, List.map_nil, List.getElem?_cons_zero, List.getElem?_cons_succ, hst, bne_self_eq_false]
  rw [x_loadNA (n := 2) (r := H0.length) (l := [q.w, q.w2]) (by simp only [e_upd, e_putS, e_putN, e_t, e_c, Nat.reduceEqDiff, ↓reduceIte, reduceCtorEq, Nat.reduceAdd]) (hb9.row r1) rfl rfl]
  simp (disch := omega) only [sN, ↓reduceIte, Nat.reduceEqDiff, Nat.reduceAdd, Nat.reduceMul, Nat.reduceSub, reduceCtorEq, e_none, e_some, e_bindS, List.map_cons, List.map_nil, List.getElem?_cons_zero, List.getElem?_cons_succ]
  rw [x_loadNA (n := 2) (r := p2) (l := [p.w, p.w2]) (by simp only [e_upd, e_putS, e_putN, e_t, e_c, Nat.reduceEqDiff, ↓reduceIte, reduceCtorEq, Nat.reduceAdd]) (hb9.row r2) rfl rfl]
  simp (disch := omega) only [sN, ↓reduceIte, Nat.reduceEqDiff, Nat.reduceAdd, Nat.reduceMul, Nat.reduceSub, reduceCtorEq, e_none, e_some, e_bindS, List.map_cons, List.map_nil, List.getElem?_cons_zero, List.getElem?_cons_succ]
  refine ⟨_, (xFracCompare_calls H9 (hq.base hb9) (hp.base hb9)).g.mono ?_⟩
  rintro v10 H10 ⟨rfl, hb910⟩
  have hb10 := hb9.trans hb910
  simp (disch := omega) only [sN, ↓reduceIte, Nat.reduceEqDiff, Nat.reduceAdd, Nat.reduceMul, Nat.reduceSub, reduceCtorEq, e_none, e_some, e_bindS, List.map_cons, List.map_nil, List.getElem?_cons_zero, List.getElem?_cons_succ]
  rw [x_loadNA (n := 2) (r := H0.length) (l := [q.w, q.w2]) (by simp only [e_upd, e_putS, e_putN, e_t, e_c, Nat.reduceEqDiff, ↓reduceIte, reduceCtorEq, Nat.reduceAdd]) (hb10.row r1) rfl rfl]
  simp (disch := omega) only [sN, ↓reduceIte, Nat.reduceEqDiff, Nat.reduceAdd, Nat.reduceMul, Nat.reduceSub, reduceCtorEq, e_none, e_some, e_bindS, List.map_cons, List.map_nil, List.getElem?_cons_zero, List.getElem?_cons_succ]
  rw [x_loadNA (n := 2) (r := p2) (l := [p.w, p.w2]) (by simp only [e_upd, e_putS, e_putN, e_t, e_c, Nat.reduceEqDiff, ↓reduceIte, reduceCtorEq, Nat.reduceAdd]) (hb10.row r2) rfl rfl]
  simp (disch := omega) only [sN, ↓reduceIte, Nat.reduceEqDiff, Nat.reduceAdd, Nat.reduceMul, Nat.reduceSub, reduceCtorEq, e_none, e_some, e_bindS, List.map_cons, List.map_nil, List.getElem?_cons_zero, List.getElem?_cons_succ]
  refine ⟨_, (rFracCompare_calls H10 (hq.base hb10) (hp.base hb10)).g.mono ?_⟩
  rintro v11 H11 ⟨rfl, hb1011⟩
  have hb11 := hb10.trans hb1011
  have hb711 := ((hb78.trans hb89).trans hb910).trans hb1011
  replace R5 := hb711.row R5
  replace R7 := hb711.row R7
  simp (disch := omega) only [sN, ↓reduceIte, Nat.reduceEqDiff, Nat.reduceAdd, Nat.reduceMul, Nat.reduceSub, reduceCtorEq, e_none, e_some, e_bindS, List.map_cons, List.map_nil, List.getElem?_cons_zero, List.getElem?_cons_succ, bne_self_eq_false]
  rw [x_loadNA (n := 2) (r := H0.length) (l := [q.w, q.w2]) (by simp only [e_upd, e_putS, e_putN, e_t, e_c, Nat.reduceEqDiff, ↓reduceIte, reduceCtorEq, Nat.reduceAdd]) (hb11.row r1) rfl rfl]
  simp (disch := omega) only [sN, ↓reduceIte, Nat.reduceEqDiff, Nat.reduceAdd, Nat.reduceMul, Nat.reduceSub, reduceCtorEq, e_none, e_some, e_bindS, List.map_cons, List.map_nil, List.getElem?_cons_zero, List.getElem?_cons_succ]
  rw [x_loadNA (n := 2) (r := p2) (l := [p.w, p.w2]) (by simp only [e_upd, e_putS, e_putN, e_t, e_c, Nat.reduceEqDiff, ↓reduceIte, reduceCtorEq, Nat.reduceAdd]) (hb11.row r2) rfl rfl]
  simp (disch := omega) only [sN, ↓reduceIte, Nat.reduceEqDiff, Nat.reduceAdd, Nat.reduceMul, Nat.reduceSub, reduceCtorEq, e_none, e_some, e_bindS, List.map_cons, List.map_nil, List.getElem?_cons_zero, List.getElem?_cons_succ]
  have hx12 := xFracAdd_calls H11 (hq.base hb11) (hp.base hb11)
  rw [add_c] at hx12
  refine ⟨_, hx12.g.mono ?_⟩
  rintro v12 H12 ⟨hbx12, u12a, u12b, rfl, x12, z12⟩
  have hl512 := row_lt R5
  have hl712 := row_lt R7
  simp (disch := omega) only [sN, ↓reduceIte, Nat.reduceEqDiff, Nat.reduceAdd, Nat.reduceMul, Nat.reduceSub, reduceCtorEq, e_none, e_some, e_bindS, List.map_cons, List.map_nil, List.getElem?_cons_zero, List.getElem?_cons_succ]
  rw [x_storeNA (n := 2) (r := b5) (l := [u1, u2]) (l' := [u12a, u12b]) (by simp only [e_upd, e_putS, e_putN, e_t, e_c, Nat.reduceEqDiff, ↓reduceIte, reduceCtorEq, Nat.reduceAdd]) (by simp only [e_upd, e_putS, e_putN, e_t, e_c, Nat.reduceEqDiff, ↓reduceIte, reduceCtorEq, Nat.reduceAdd]) (by simp [x12.cell, z12.cell]) (hbx12.row R5) rfl rfl]
  obtain ⟨H13, hH13⟩ : ∃ h, h = H12.set b5 (rw_ [u12a, u12b]) := ⟨_, rfl⟩
  have hb13 : Base H1 H13 := by rw [hH13]; exact (hb11.trans hbx12).set h15
  replace R7 : Vh.rowAt H13 b7 = some ⟨true, false, [u3, u4]⟩ := by rw [hH13, row_other0 h57]; exact hbx12.row R7
  replace R5 : Vh.rowAt H13 b5 = some ⟨true, false, [u12a, u12b]⟩ := by rw [hH13, rowAt_set (by have := hbx12.1; omega), if_pos rfl]; rfl
  replace x12 : NumV H13 u12a (anN (cfE [q, p]) (q.x * p.y + p.x * q.y) (q.y * p.y)) H11.length := by rw [hH13]; exact x12.set hl512
  replace z12 : NumV H13 u12b (anD (cfE [q, p]) (q.x * p.y + p.x * q.y) (q.y * p.y)) H11.length := by rw [hH13]; exact z12.set hl512
  rw [← hH13]
  clear hH13
  simp (disch := omega) only [sN, ↓reduceIte, Nat.reduceEqDiff, Nat.reduceAdd, Nat.reduceMul, Nat.reduceSub, reduceCtorEq, e_none, e_some, e_bindS, List.map_cons, List.map_nil, List.getElem?_cons_zero, List.getElem?_cons_succ]
  rw [x_loadNA (n := 2) (r := H0.length) (l := [q.w, q.w2]) (by simp only [e_upd, e_putS, e_putN, e_t, e_c, Nat.reduceEqDiff, ↓reduceIte, reduceCtorEq, Nat.reduceAdd]) (hb13.row r1) rfl rfl]
  simp (disch := omega) only [sN, ↓reduceIte, Nat.reduceEqDiff, Nat.reduceAdd, Nat.reduceMul, Nat.reduceSub, reduceCtorEq, e_none, e_some, e_bindS, List.map_cons, List.map_nil, List.getElem?_cons_zero, List.getElem?_cons_succ]
  rw [x_loadNA (n := 2) (r := p2) (l := [p.w, p.w2]) (by simp only [e_upd, e_putS, e_putN, e_t, e_c, Nat.reduceEqDiff, ↓reduceIte, reduceCtorEq, Nat.reduceAdd]) (hb13.row r2) rfl rfl]
  simp (disch := omega) only [sN, ↓reduceIte, Nat.reduceEqDiff, Nat.reduceAdd, Nat.reduceMul, Nat.reduceSub, reduceCtorEq, e_none, e_some, e_bindS, List.map_cons, List.map_nil, List.getElem?_cons_zero, List.getElem?_cons_succ]
  have hr14 : ACalls _ _ _ _ _ (AnsF (anN (cfE [q, p]) (q.x * p.y + p.x * q.y) (q.y * p.y)) (anD (cfE [q, p]) (q.x * p.y + p.x * q.y) (q.y * p.y)) (anE (cfE [q, p]) (q.x * p.y + p.x * q.y) (q.y * p.y)) H13) := rFracAdd_calls H13 (hq.base hb13) (hp.base hb13)
  refine ⟨_, hr14.g.mono ?_⟩
  rintro v14 H14 ⟨hbx14, u14a, u14b, rfl, x14, z14⟩
  have hl714 := row_lt R7
  simp (disch := omega) only [sN, ↓reduceIte, Nat.reduceEqDiff, Nat.reduceAdd, Nat.reduceMul, Nat.reduceSub, reduceCtorEq, e_none, e_some, e_bindS, List.map_cons, List.map_nil, List.getElem?_cons_zero, List.getElem?_cons_succ]
  rw [x_storeNA (n := 2) (r := b7) (l := [u3, u4]) (l' := [u14a, u14b]) (by simp only [e_upd, e_putS, e_putN, e_t, e_c, Nat.reduceEqDiff, ↓reduceIte, reduceCtorEq, Nat.reduceAdd]) (by simp only [e_upd, e_putS, e_putN, e_t, e_c, Nat.reduceEqDiff, ↓reduceIte, reduceCtorEq, Nat.reduceAdd]) (by simp [x14.cell, z14.cell]) (hbx14.row R7) rfl rfl]
  obtain ⟨H15, hH15⟩ : ∃ h, h = H14.set b7 (rw_ [u14a, u14b]) := ⟨_, rfl⟩
  have hb15 : Base H1 H15 := by rw [hH15]; exact (hb13.trans hbx14).set h17
  replace R5 : Vh.rowAt H15 b5 = some ⟨true, false, [u12a, u12b]⟩ := by rw [hH15, row_other0 (Ne.symm h57)]; exact hbx14.row R5
  replace R7 : Vh.rowAt H15 b7 = some ⟨true, false, [u14a, u14b]⟩ := by rw [hH15, rowAt_set (by have := hbx14.1; omega), if_pos rfl]; rfl
  have y15a : AtN H15 u12a (anN (cfE [q, p]) (q.x * p.y + p.x * q.y) (q.y * p.y)) := NumV.normAt (by rw [hH15]; exact (x12.base2 hbx14).set hl712) R5
  have y15b : AtN H15 u12b (anD (cfE [q, p]) (q.x * p.y + p.x * q.y) (q.y * p.y)) := NumV.normAt (by rw [hH15]; exact (z12.base2 hbx14).set hl712) R5
  have y15c : AtN H15 u14a (anN (cfE [q, p]) (q.x * p.y + p.x * q.y) (q.y * p.y)) := NumV.normAt (by rw [hH15]; exact x14.set hl714) R5
  have y15d : AtN H15 u14b (anD (cfE [q, p]) (q.x * p.y + p.x * q.y) (q.y * p.y)) := NumV.normAt (by rw [hH15]; exact z14.set hl714) R5
  rw [← hH15]
  clear hH15 x12 z12 x14 z14
  simp (disch := omega) only [sN, ↓reduceIte, Nat.reduceEqDiff, Nat.reduceAdd, Nat.reduceMul, Nat.reduceSub, reduceCtorEq, e_none, e_some, e_bindS, List.map_cons, List.map_nil, List.getElem?_cons_zero, List.getElem?_cons_succ]
  rw [x_loadNA (n := 2) (r := b5) (l := [u12a, u12b]) (by simp only [e_upd, e_putS, e_putN, e_t, e_c, Nat.reduceEqDiff, ↓reduceIte, reduceCtorEq, Nat.reduceAdd]) R5 rfl rfl]
  simp (disch := omega) only [sN, ↓reduceIte, Nat.reduceEqDiff, Nat.reduceAdd, Nat.reduceMul, Nat.reduceSub, reduceCtorEq, e_none, e_some, e_bindS, List.map_cons, List.map_nil, List.getElem?_cons_zero, List.getElem?_cons_succ]
  rw [x_loadNA (n := 2) (r := b7) (l := [u14a, u14b]) (by simp only [e_upd, e_putS, e_putN, e_t, e_c, Nat.reduceEqDiff, ↓reduceIte, reduceCtorEq, Nat.reduceAdd]) R7 rfl rfl]
  simp (disch := omega) only [sN, ↓reduceIte, Nat.reduceEqDiff, Nat.reduceAdd, Nat.reduceMul, Nat.reduceSub, reduceCtorEq, e_none, e_some, e_bindS, List.map_cons, List.map_nil, List.getElem?_cons_zero, List.getElem?_cons_succ]
  refine ⟨_, (lfrac_calls H15 (k := 64) (by omega) y15a y15b y15c y15d (anN_lt _ _ _) (anD_lt _ _ _)).g.mono ?_⟩
  rintro v16 H16 ⟨rfl, hbx16⟩
  have hb16 := hb15.trans hbx16
  replace R5 := hbx16.row R5
  replace R7 := hbx16.row R7
  clear y15a y15b y15c y15d
  simp (disch := omega) only [sN, ↓reduceIte, Nat.reduceEqDiff, Nat.reduceAdd, Nat.reduceMul, Nat.reduceSub, reduceCtorEq, e_none, e_some, e_bindS, List.map_cons, List.map_nil, List.getElem?_cons_zero, List.getElem?_cons_succ]
  rw [x_loadNA (n := 2) (r := H0.length) (l := [q.w, q.w2]) (by simp only [e_upd, e_putS, e_putN, e_t, e_c, Nat.reduceEqDiff, ↓reduceIte, reduceCtorEq, Nat.reduceAdd]) (hb16.row r1) rfl rfl]
  simp (disch := omega) only [sN, ↓reduceIte, Nat.reduceEqDiff, Nat.reduceAdd, Nat.reduceMul, Nat.reduceSub, reduceCtorEq, e_none, e_some, e_bindS, List.map_cons, List.map_nil, List.getElem?_cons_zero, List.getElem?_cons_succ]
  rw [x_loadNA (n := 2) (r := p2) (l := [p.w, p.w2]) (by simp only [e_upd, e_putS, e_putN, e_t, e_c, Nat.reduceEqDiff, ↓reduceIte, reduceCtorEq, Nat.reduceAdd]) (hb16.row r2) rfl rfl]
  simp (disch := omega) only [sN, ↓reduceIte, Nat.reduceEqDiff, Nat.reduceAdd, Nat.reduceMul, Nat.reduceSub, reduceCtorEq, e_none, e_some, e_bindS, List.map_cons, List.map_nil, List.getElem?_cons_zero, List.getElem?_cons_succ]
  have hx17 := xFracSub_calls H16 (hq.base hb16) (hp.base hb16)
  have hsn := sub_n q p (q.x * p.y) (p.x * q.y) (q.y * p.y) rfl rfl
  change ACalls _ _ _ _ _ (AnsF (anN (sbC q p) _ _) (anD (sbC q p) _ _) (anE (sbC q p) _ _) _) at hx17
  rw [hsn.1, hsn.2.1, hsn.2.2] at hx17
  refine ⟨_, hx17.g.mono ?_⟩
  rintro v17 H17 ⟨hbx17, u17a, u17b, rfl, x17, z17⟩
  have hl517 := row_lt R5
  have hl717 := row_lt R7
  simp (disch := omega) only [sN, ↓reduceIte, Nat.reduceEqDiff, Nat.reduceAdd, Nat.reduceMul, Nat.reduceSub, reduceCtorEq, e_none, e_some, e_bindS, List.map_cons, List.map_nil, List.getElem?_cons_zero, List.getElem?_cons_succ]
  rw [x_storeNA (n := 2) (r := b5) (l := [u12a, u12b]) (l' := [u17a, u17b]) (by simp only [e_upd, e_putS, e_putN, e_t, e_c, Nat.reduceEqDiff, ↓reduceIte, reduceCtorEq, Nat.reduceAdd]) (by simp only [e_upd, e_putS, e_putN, e_t, e_c, Nat.reduceEqDiff, ↓reduceIte, reduceCtorEq, Nat.reduceAdd]) (by simp [x17.cell, z17.cell]) (hbx17.row R5) rfl rfl]
  obtain ⟨H18, hH18⟩ : ∃ h, h = H17.set b5 (rw_ [u17a, u17b]) := ⟨_, rfl⟩
  have hb18 : Base H1 H18 := by rw [hH18]; exact (hb16.trans hbx17).set h15
  replace R7 : Vh.rowAt H18 b7 = some ⟨true, false, [u14a, u14b]⟩ := by rw [hH18, row_other0 h57]; exact hbx17.row R7
  replace R5 : Vh.rowAt H18 b5 = some ⟨true, false, [u17a, u17b]⟩ := by rw [hH18, rowAt_set (by have := hbx17.1; omega), if_pos rfl]; rfl
  replace x17 : NumV H18 u17a (anN (sbC q p) (q.x * p.y - p.x * q.y) (q.y * p.y)) H16.length := by rw [hH18]; exact x17.set hl517
  replace z17 : NumV H18 u17b (anD (sbC q p) (q.x * p.y - p.x * q.y) (q.y * p.y)) H16.length := by rw [hH18]; exact z17.set hl517
  rw [← hH18]
  clear hH18
  simp (disch := omega) only [sN, ↓reduceIte, Nat.reduceEqDiff, Nat.reduceAdd, Nat.reduceMul, Nat.reduceSub, reduceCtorEq, e_none, e_some, e_bindS, List.map_cons, List.map_nil, List.getElem?_cons_zero, List.getElem?_cons_succ]
  rw [x_loadNA (n := 2) (r := H0.length) (l := [q.w, q.w2]) (by simp only [e_upd, e_putS, e_putN, e_t, e_c, Nat.reduceEqDiff, ↓reduceIte, reduceCtorEq, Nat.reduceAdd]) (hb18.row r1) rfl rfl]
  simp (disch := omega) only [sN, ↓reduceIte, Nat.reduceEqDiff, Nat.reduceAdd, Nat.reduceMul, Nat.reduceSub, reduceCtorEq, e_none, e_some, e_bindS, List.map_cons, List.map_nil, List.getElem?_cons_zero, List.getElem?_cons_succ]
  rw [x_loadNA (n := 2) (r := p2) (l := [p.w, p.w2]) (by simp only [e_upd, e_putS, e_putN, e_t, e_c, Nat.reduceEqDiff, ↓reduceIte, reduceCtorEq, Nat.reduceAdd]) (hb18.row r2) rfl rfl]
  simp (disch := omega) only [sN, ↓reduceIte, Nat.reduceEqDiff, Nat.reduceAdd, Nat.reduceMul, Nat.reduceSub, reduceCtorEq, e_none, e_some, e_bindS, List.map_cons, List.map_nil, List.getElem?_cons_zero, List.getElem?_cons_succ]
  have hr19 : ACalls _ _ _ _ _ (AnsF (anN (sbC q p) (q.x * p.y - p.x * q.y) (q.y * p.y)) (anD (sbC q p) (q.x * p.y - p.x * q.y) (q.y * p.y)) (anE (sbC q p) (q.x * p.y - p.x * q.y) (q.y * p.y)) H18) := rFracSub_calls H18 (hq.base hb18) (hp.base hb18)
  refine ⟨_, hr19.g.mono ?_⟩
  rintro v19 H19 ⟨hbx19, u19a, u19b, rfl, x19, z19⟩
  have hl719 := row_lt R7
  simp (disch := omega) only [sN, ↓reduceIte, Nat.reduceEqDiff, Nat.reduceAdd, Nat.reduceMul, Nat.reduceSub, reduceCtorEq, e_none, e_some, e_bindS, List.map_cons, List.map_nil, List.getElem?_cons_zero, List.getElem?_cons_succ]
  rw [x_storeNA (n := 2) (r := b7) (l := [u14a, u14b]) (l' := [u19a, u19b]) (by simp only [e_upd, e_putS, e_putN, e_t, e_c, Nat.reduceEqDiff, ↓reduceIte, reduceCtorEq, Nat.reduceAdd]) (by simp only [e_upd, e_putS, e_putN, e_t, e_c, Nat.reduceEqDiff, ↓reduceIte, reduceCtorEq, Nat.reduceAdd]) (by simp [x19.cell, z19.cell]) (hbx19.row R7) rfl rfl]
  obtain ⟨H20, hH20⟩ : ∃ h, h = H19.set b7 (rw_ [u19a, u19b]) := ⟨_, rfl⟩
  have hb20 : Base H1 H20 := by rw [hH20]; exact (hb18.trans hbx19).set h17
  replace R5 : Vh.rowAt H20 b5 = some ⟨true, false, [u17a, u17b]⟩ := by rw [hH20, row_other0 (Ne.symm h57)]; exact hbx19.row R5
  replace R7 : Vh.rowAt H20 b7 = some ⟨true, false, [u19a, u19b]⟩ := by rw [hH20, rowAt_set (by have := hbx19.1; omega), if_pos rfl]; rfl
  have y20a : AtN H20 u17a (anN (sbC q p) (q.x * p.y - p.x * q.y) (q.y * p.y)) := NumV.normAt (by rw [hH20]; exact (x17.base2 hbx19).set hl717) R5
  have y20b : AtN H20 u17b (anD (sbC q p) (q.x * p.y - p.x * q.y) (q.y * p.y)) := NumV.normAt (by rw [hH20]; exact (z17.base2 hbx19).set hl717) R5
  have y20c : AtN H20 u19a (anN (sbC q p) (q.x * p.y - p.x * q.y) (q.y * p.y)) := NumV.normAt (by rw [hH20]; exact x19.set hl719) R5
  have y20d : AtN H20 u19b (anD (sbC q p) (q.x * p.y - p.x * q.y) (q.y * p.y)) := NumV.normAt (by rw [hH20]; exact z19.set hl719) R5
  rw [← hH20]
  clear hH20 x17 z17 x19 z19
  simp (disch := omega) only [sN, ↓reduceIte, Nat.reduceEqDiff, Nat.reduceAdd, Nat.reduceMul, Nat.reduceSub, reduceCtorEq, e_none, e_some, e_bindS, List.map_cons, List.map_nil, List.getElem?_cons_zero, List.getElem?_cons_succ]
  rw [x_loadNA (n := 2) (r := b5) (l := [u17a, u17b]) (by simp only [e_upd, e_putS, e_putN, e_t, e_c, Nat.reduceEqDiff, ↓reduceIte, reduceCtorEq, Nat.reduceAdd]) R5 rfl rfl]
  simp (disch := omega) only [sN, ↓reduceIte, Nat.reduceEqDiff, Nat.reduceAdd, Nat.reduceMul, Nat.reduceSub, reduceCtorEq, e_none, e_some, e_bindS, List.map_cons, List.map_nil, List.getElem?_cons_zero, List.getElem?_cons_succ]
  rw [x_loadNA (n := 2) (r := b7) (l := [u19a, u19b]) (by simp only [e_upd, e_putS, e_putN, e_t, e_c, Nat.reduceEqDiff, ↓reduceIte, reduceCtorEq, Nat.reduceAdd]) R7 rfl rfl]
  simp (disch := omega) only [sN, ↓reduceIte, Nat.reduceEqDiff, Nat.reduceAdd, Nat.reduceMul, Nat.reduceSub, reduceCtorEq, e_none, e_some, e_bindS, List.map_cons, List.map_nil, List.getElem?_cons_zero, List.getElem?_cons_succ]
  refine ⟨_, (lfrac_calls H20 (k := 64) (by omega) y20a y20b y20c y20d (anN_lt _ _ _) (anD_lt _ _ _)).g.mono ?_⟩
  rintro v21 H21 ⟨rfl, hbx21⟩
  have hb21 := hb20.trans hbx21
  replace R5 := hbx21.row R5
  replace R7 := hbx21.row R7
  clear y20a y20b y20c y20d
  simp (disch := omega) only [sN, ↓reduceIte, Nat.reduceEqDiff, Nat.reduceAdd, Nat.reduceMul, Nat.reduceSub, reduceCtorEq, e_none, e_some, e_bindS, List.map_cons, List.map_nil, List.getElem?_cons_zero, List.getElem?_cons_succ]
  rw [x_loadNA (n := 2) (r := H0.length) (l := [q.w, q.w2]) (by simp only [e_upd, e_putS, e_putN, e_t, e_c, Nat.reduceEqDiff, ↓reduceIte, reduceCtorEq, Nat.reduceAdd]) (hb21.row r1) rfl rfl]
  simp (disch := omega) only [sN, ↓reduceIte, Nat.reduceEqDiff, Nat.reduceAdd, Nat.reduceMul, Nat.reduceSub, reduceCtorEq, e_none, e_some, e_bindS, List.map_cons, List.map_nil, List.getElem?_cons_zero, List.getElem?_cons_succ]
  rw [x_loadNA (n := 2) (r := p2) (l := [p.w, p.w2]) (by simp only [e_upd, e_putS, e_putN, e_t, e_c, Nat.reduceEqDiff, ↓reduceIte, reduceCtorEq, Nat.reduceAdd]) (hb21.row r2) rfl rfl]
  simp (disch := omega) only [sN, ↓reduceIte, Nat.reduceEqDiff, Nat.reduceAdd, Nat.reduceMul, Nat.reduceSub, reduceCtorEq, e_none, e_some, e_bindS, List.map_cons, List.map_nil, List.getElem?_cons_zero, List.getElem?_cons_succ]
  have hx22 := xFracMul_calls H21 (hq.base hb21) (hp.base hb21)
  change ACalls _ _ _ _ _ (AnsF (anN (cfE [q, p]) (q.x * p.x) (q.y * p.y)) (anD (cfE [q, p]) (q.x * p.x) (q.y * p.y)) (anE (cfE [q, p]) (q.x * p.x) (q.y * p.y)) _) at hx22
  refine ⟨_, hx22.g.mono ?_⟩
  rintro v22 H22 ⟨hbx22, u22a, u22b, rfl, x22, z22⟩
  have hl522 := row_lt R5
  have hl722 := row_lt R7
  simp (disch := omega) only [sN, ↓reduceIte, Nat.reduceEqDiff, Nat.reduceAdd, Nat.reduceMul, Nat.reduceSub, reduceCtorEq, e_none, e_some, e_bindS, List.map_cons, List.map_nil, List.getElem?_cons_zero, List.getElem?_cons_succ]
  rw [x_storeNA (n := 2) (r := b5) (l := [u17a, u17b]) (l' := [u22a, u22b]) (by simp only [e_upd, e_putS, e_putN, e_t, e_c, Nat.reduceEqDiff, ↓reduceIte, reduceCtorEq, Nat.reduceAdd]) (by simp only [e_upd, e_putS, e_putN, e_t, e_c, Nat.reduceEqDiff, ↓reduceIte, reduceCtorEq, Nat.reduceAdd]) (by simp [x22.cell, z22.cell]) (hbx22.row R5) rfl rfl]
  obtain ⟨H23, hH23⟩ : ∃ h, h = H22.set b5 (rw_ [u22a, u22b]) := ⟨_, rfl⟩
  have hb23 : Base H1 H23 := by rw [hH23]; exact (hb21.trans hbx22).set h15
  replace R7 : Vh.rowAt H23 b7 = some ⟨true, false, [u19a, u19b]⟩ := by rw [hH23, row_other0 h57]; exact hbx22.row R7
  replace R5 : Vh.rowAt H23 b5 = some ⟨true, false, [u22a, u22b]⟩ := by rw [hH23, rowAt_set (by have := hbx22.1; omega), if_pos rfl]; rfl
  replace x22 : NumV H23 u22a (anN (cfE [q, p]) (q.x * p.x) (q.y * p.y)) H21.length := by rw [hH23]; exact x22.set hl522
  replace z22 : NumV H23 u22b (anD (cfE [q, p]) (q.x * p.x) (q.y * p.y)) H21.length := by rw [hH23]; exact z22.set hl522
  rw [← hH23]
  clear hH23
  simp (disch := omega) only [sN, ↓reduceIte, Nat.reduceEqDiff, Nat.reduceAdd, Nat.reduceMul, Nat.reduceSub, reduceCtorEq, e_none, e_some, e_bindS, List.map_cons, List.map_nil, List.getElem?_cons_zero, List.getElem?_cons_succ]
  rw [x_loadNA (n := 2) (r := H0.length) (l := [q.w, q.w2]) (by simp only [e_upd, e_putS, e_putN, e_t, e_c, Nat.reduceEqDiff, ↓reduceIte, reduceCtorEq, Nat.reduceAdd]) (hb23.row r1) rfl rfl]
  simp (disch := omega) only [sN, ↓reduceIte, Nat.reduceEqDiff, Nat.reduceAdd, Nat.reduceMul, Nat.reduceSub, reduceCtorEq, e_none, e_some, e_bindS, List.map_cons, List.map_nil, List.getElem?_cons_zero, List.getElem?_cons_succ]
  rw [x_loadNA (n := 2) (r := p2) (l := [p.w, p.w2]) (by simp only [e_upd, e_putS, e_putN, e_t, e_c, Nat.reduceEqDiff, ↓reduceIte, reduceCtorEq, Nat.reduceAdd]) (hb23.row r2) rfl rfl]
  simp (disch := omega) only [sN, ↓reduceIte, Nat.reduceEqDiff, Nat.reduceAdd, Nat.reduceMul, Nat.reduceSub, reduceCtorEq, e_none, e_some, e_bindS, List.map_cons, List.map_nil, List.getElem?_cons_zero, List.getElem?_cons_succ]
  have hr24 : ACalls _ _ _ _ _ (AnsF (anN (cfE [q, p]) (q.x * p.x) (q.y * p.y)) (anD (cfE [q, p]) (q.x * p.x) (q.y * p.y)) (anE (cfE [q, p]) (q.x * p.x) (q.y * p.y)) H23) := rFracMul_calls H23 (hq.base hb23) (hp.base hb23)
  refine ⟨_, hr24.g.mono ?_⟩
  rintro v24 H24 ⟨hbx24, u24a, u24b, rfl, x24, z24⟩
  have hl724 := row_lt R7
  simp (disch := omega) only [sN, ↓reduceIte, Nat.reduceEqDiff, Nat.reduceAdd, Nat.reduceMul, Nat.reduceSub, reduceCtorEq, e_none, e_some, e_bindS, List.map_cons, List.map_nil, List.getElem?_cons_zero, List.getElem?_cons_succ]
  rw [x_storeNA (n := 2) (r := b7) (l := [u19a, u19b]) (l' := [u24a, u24b]) (by simp only [e_upd, e_putS, e_putN, e_t, e_c, Nat.reduceEqDiff, ↓reduceIte, reduceCtorEq, Nat.reduceAdd]) (by simp only [e_upd, e_putS, e_putN, e_t, e_c, Nat.reduceEqDiff, ↓reduceIte, reduceCtorEq, Nat.reduceAdd]) (by simp [x24.cell, z24.cell]) (hbx24.row R7) rfl rfl]
  obtain ⟨H25, hH25⟩ : ∃ h, h = H24.set b7 (rw_ [u24a, u24b]) := ⟨_, rfl⟩
  have hb25 : Base H1 H25 := by rw [hH25]; exact (hb23.trans hbx24).set h17
  replace R5 : Vh.rowAt H25 b5 = some ⟨true, false, [u22a, u22b]⟩ := by rw [hH25, row_other0 (Ne.symm h57)]; exact hbx24.row R5
  replace R7 : Vh.rowAt H25 b7 = some ⟨true, false, [u24a, u24b]⟩ := by rw [hH25, rowAt_set (by have := hbx24.1; omega), if_pos rfl]; rfl
  have y25a : AtN H25 u22a (anN (cfE [q, p]) (q.x * p.x) (q.y * p.y)) := NumV.normAt (by rw [hH25]; exact (x22.base2 hbx24).set hl722) R5
  have y25b : AtN H25 u22b (anD (cfE [q, p]) (q.x * p.x) (q.y * p.y)) := NumV.normAt (by rw [hH25]; exact (z22.base2 hbx24).set hl722) R5
  have y25c : AtN H25 u24a (anN (cfE [q, p]) (q.x * p.x) (q.y * p.y)) := NumV.normAt (by rw [hH25]; exact x24.set hl724) R5
  have y25d : AtN H25 u24b (anD (cfE [q, p]) (q.x * p.x) (q.y * p.y)) := NumV.normAt (by rw [hH25]; exact z24.set hl724) R5
  rw [← hH25]
  clear hH25 x22 z22 x24 z24
  simp (disch := omega) only [sN, ↓reduceIte, Nat.reduceEqDiff, Nat.reduceAdd, Nat.reduceMul, Nat.reduceSub, reduceCtorEq, e_none, e_some, e_bindS, List.map_cons, List.map_nil, List.getElem?_cons_zero, List.getElem?_cons_succ]
  rw [x_loadNA (n := 2) (r := b5) (l := [u22a, u22b]) (by simp only [e_upd, e_putS, e_putN, e_t, e_c, Nat.reduceEqDiff, ↓reduceIte, reduceCtorEq, Nat.reduceAdd]) R5 rfl rfl]
  simp (disch := omega) only [sN, ↓reduceIte, Nat.reduceEqDiff, Nat.reduceAdd, Nat.reduceMul, Nat.reduceSub, reduceCtorEq, e_none, e_some, e_bindS, List.map_cons, List.map_nil, List.getElem?_cons_zero, List.getElem?_cons_succ]
  rw [x_loadNA (n := 2) (r := b7) (l := [u24a, u24b]) (by simp only [e_upd, e_putS, e_putN, e_t, e_c, Nat.reduceEqDiff, ↓reduceIte, reduceCtorEq, Nat.reduceAdd]) R7 rfl rfl]
  simp (disch := omega) only [sN, ↓reduceIte, Nat.reduceEqDiff, Nat.reduceAdd, Nat.reduceMul, Nat.reduceSub, reduceCtorEq, e_none, e_some, e_bindS, List.map_cons, List.map_nil, List.getElem?_cons_zero, List.getElem?_cons_succ]
  refine ⟨_, (lfrac_calls H25 (k := 64) (by omega) y25a y25b y25c y25d (anN_lt _ _ _) (anD_lt _ _ _)).g.mono ?_⟩
  rintro v26 H26 ⟨rfl, hbx26⟩
  have hb26 := hb25.trans hbx26
  replace R5 := hbx26.row R5
  replace R7 := hbx26.row R7
  clear y25a y25b y25c y25d
  simp (disch := omega) only [sN, ↓reduceIte, Nat.reduceEqDiff, Nat.reduceAdd, Nat.reduceMul, Nat.reduceSub, reduceCtorEq, e_none, e_some, e_bindS, List.map_cons, List.map_nil, List.getElem?_cons_zero, List.getElem?_cons_succ]
  refine hworks fun H' hl => ?_
  simp (disch := omega) only [sN, ↓reduceIte, Nat.reduceEqDiff, Nat.reduceAdd, Nat.reduceMul, Nat.reduceSub, reduceCtorEq, e_none, e_some, e_bindS]
  refine ret_keep (by have := hb26.1; have := hB1.1; omega) ?_
  simp only [q_tmp, q_then, rs_fracs, e_upd, e_putS, e_putN, e_t, e_c, Nat.reduceEqDiff, ↓reduceIte, reduceCtorEq, Nat.reduceAdd]
end Go.Proofs.YtpkeneadkiabiaaDoor

