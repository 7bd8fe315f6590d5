/- Contracts: exact's Bound, as a whole. -/
import Derived.Test.YthbhljolpnbdlaaVX
import Derived.Test.YthbhljolpnbdlaaPH
import Derived.Test.YthbhljolpnbdlaaV8
import Derived.Test.YthbhljolpnbdlaaChecked
set_option linter.unusedSimpArgs false
set_option linter.unusedVariables false
-- NEWSET
namespace Go.Proofs.Ythbhljolpnbdlaa.S1
open Go Go.Vh

set_option maxHeartbeats 2000000 in
theorem xBound_calls (H0 : AHeap) {q : Fr} (hq : q.ok H0) (total sample seen : Int) (h0 : -9223372036854775808 ≤ total ∧ total ≤ 9223372036854775807) (h1 : -9223372036854775808 ≤ sample ∧ sample ≤ 9223372036854775807) (h2 : -9223372036854775808 ≤ seen ∧ seen ≤ 9223372036854775807) :
    ACalls Try.prog 75 [.int .i64 total, .int .i64 sample, .int .i64 seen, .agg [q.w, q.w2]] H0 (List.range H0.length) fun v H => v = .tuple [.int .i64 (bdV q total sample seen), .int .i64 (bdE q total sample seen)] ∧ Base H0 H := by
  refine ACalls.body Try.func75 ent_xBound ir_xBound_ok rs_xBound_ok Try.ntmps75 (by simp) rfl ?_
  unfold ir_xBound
  have e0 : s0 [.int .i64 total, .int .i64 sample, .int .i64 seen, .agg [q.w, q.w2]] 0 = .int .i64 total := rfl
  have e1 : s0 [.int .i64 total, .int .i64 sample, .int .i64 seen, .agg [q.w, q.w2]] 1 = .int .i64 sample := rfl
  have e2 : s0 [.int .i64 total, .int .i64 sample, .int .i64 seen, .agg [q.w, q.w2]] 2 = .int .i64 seen := rfl
  have e3 : s0 [.int .i64 total, .int .i64 sample, .int .i64 seen, .agg [q.w, q.w2]] 3 = .agg [q.w, q.w2] := rfl
  have hrs : rs_xBound = [.tmp 8, .tmp 9] := rfl
  rw [hrs]
  simp -implicitDefEqProofs (disch := omega) only [sN, ↓reduceIte, Nat.reduceEqDiff, Nat.reduceAdd, Nat.reduceMul, Nat.reduceSub, reduceCtorEq, e_none, e_some, e_bindS, e0, e1, e2, e3]
  rw [x_boxA (v := .int .i64 total) (by simp only [e_upd, e_putS, e_putN, e_t, e_c, Nat.reduceEqDiff, ↓reduceIte, reduceCtorEq, Nat.reduceAdd, e0]) rfl]
  simp -implicitDefEqProofs (disch := omega) only [sN, ↓reduceIte, Nat.reduceEqDiff, Nat.reduceAdd, Nat.reduceMul, Nat.reduceSub, reduceCtorEq, e_none, e_some, e_bindS, e0, e1, e2, e3]
  rw [x_boxA (v := .int .i64 sample) (by simp only [e_upd, e_putS, e_putN, e_t, e_c, Nat.reduceEqDiff, ↓reduceIte, reduceCtorEq, Nat.reduceAdd, e1]) rfl]
  simp -implicitDefEqProofs (disch := omega) only [sN, ↓reduceIte, Nat.reduceEqDiff, Nat.reduceAdd, Nat.reduceMul, Nat.reduceSub, reduceCtorEq, e_none, e_some, e_bindS, e0, e1, e2, e3]
  rw [x_boxA (v := .int .i64 seen) (by simp only [e_upd, e_putS, e_putN, e_t, e_c, Nat.reduceEqDiff, ↓reduceIte, reduceCtorEq, Nat.reduceAdd, e2]) rfl]
  simp -implicitDefEqProofs (disch := omega) only [sN, ↓reduceIte, Nat.reduceEqDiff, Nat.reduceAdd, Nat.reduceMul, Nat.reduceSub, reduceCtorEq, e_none, e_some, e_bindS, e0, e1, e2, e3]
  rw [x_boxN (l := [q.w, q.w2]) (by simp only [e_upd, e_putS, e_putN, e_t, e_c, Nat.reduceEqDiff, ↓reduceIte, reduceCtorEq, Nat.reduceAdd, e3]) (by simp [hq.1.cell, hq.2.1.cell])]
  obtain ⟨a4, ha4⟩ : ∃ a, a = H0.length := ⟨_, rfl⟩
  obtain ⟨a5, ha5⟩ : ∃ a, a = (H0 ++ [rw_ [.int .i64 total]]).length := ⟨_, rfl⟩
  obtain ⟨a6, ha6⟩ : ∃ a, a = (H0 ++ [rw_ [.int .i64 total]] ++ [rw_ [.int .i64 sample]]).length := ⟨_, rfl⟩
  obtain ⟨a7, ha7⟩ : ∃ a, a = (H0 ++ [rw_ [.int .i64 total]] ++ [rw_ [.int .i64 sample]] ++ [rw_ [.int .i64 seen]]).length := ⟨_, rfl⟩
  obtain ⟨H1, hH1⟩ : ∃ h, h = H0 ++ [rw_ [.int .i64 total]] ++ [rw_ [.int .i64 sample]] ++ [rw_ [.int .i64 seen]] ++ [rw_ [q.w, q.w2]] := ⟨_, rfl⟩
  have hB1 : Base H0 H1 := by rw [hH1]; exact Base.one.app.app.app
  have r4 : Vh.rowAt H1 a4 = some ⟨true, false, [.int .i64 total]⟩ := by rw [hH1, ha4, rowAt_append_left (by simp), rowAt_append_left (by simp), rowAt_append_left (by simp)]; simp [Vh.rowAt, rw_]
  have r5 : Vh.rowAt H1 a5 = some ⟨true, false, [.int .i64 sample]⟩ := by rw [hH1, ha5, rowAt_append_left (by simp), rowAt_append_left (by simp)]; simp [Vh.rowAt, rw_]
  have r6 : Vh.rowAt H1 a6 = some ⟨true, false, [.int .i64 seen]⟩ := by rw [hH1, ha6, rowAt_append_left (by simp)]; simp [Vh.rowAt, rw_]
  have r7 : Vh.rowAt H1 a7 = some ⟨true, false, [q.w, q.w2]⟩ := by rw [hH1, ha7]; simp [Vh.rowAt, rw_]
  rw [← ha4, ← ha5, ← ha6, ← ha7, ← hH1]
  simp -implicitDefEqProofs (disch := omega) only [sN, ↓reduceIte, Nat.reduceEqDiff, Nat.reduceAdd, Nat.reduceMul, Nat.reduceSub, reduceCtorEq, e_none, e_some, e_bindS]
  rw [x_loadNA (n := 2) (r := a7) (l := [q.w, q.w2]) (by simp only [e_upd, e_putS, e_putN, e_t, e_c, Nat.reduceEqDiff, ↓reduceIte, reduceCtorEq, Nat.reduceAdd]) r7 rfl rfl]
  simp -implicitDefEqProofs (disch := omega) only [sN, ↓reduceIte, Nat.reduceEqDiff, Nat.reduceAdd, Nat.reduceMul, Nat.reduceSub, reduceCtorEq, e_none, e_some, e_bindS]
  rw [x_bsF1 (v1 := q.w) (v2 := q.w2) (by simp only [e_upd, e_putS, e_putN, e_t, e_c, Nat.reduceEqDiff, ↓reduceIte, reduceCtorEq, Nat.reduceAdd]) hq.1.cell hq.2.1.cell]
  simp -implicitDefEqProofs (disch := omega) only [sN, ↓reduceIte, Nat.reduceEqDiff, Nat.reduceAdd, Nat.reduceMul, Nat.reduceSub, reduceCtorEq, e_none, e_some, e_bindS, List.map_cons, List.map_nil]
  have hB2 : Base H0 (H1 ++ [rw_ [q.w, q.w2]]) := hB1.app
  refine ⟨_, (checkFracs_calls (H1 ++ [rw_ [q.w, q.w2]]) [q] (n := 1) (r := H1.length) (row := ⟨true, false, [q.w, q.w2]⟩) rfl (by omega) (by simp [Vh.rowAt, rw_]) rfl ?_).g.mono ?_⟩
  · intro f hf
    simp only [List.mem_cons, List.not_mem_nil, or_false] at hf
    subst hf
    exact hq.base hB2
  rintro v H ⟨rfl, hB3⟩
  have hBH := hB2.trans hB3
  have hB1H : Base H1 H := Base.one.trans hB3
  have q4 := hB1H.row r4
  have q5 := hB1H.row r5
  have q6 := hB1H.row r6
  have q7 := hB1H.row r7
  clear r4 r5 r6 r7 hB3 hB2 hH1 ha5 ha6 ha7
  by_cases he : cfE [q] = 0
  · obtain ⟨l1, l2, l3⟩ := cfE1_short he
    rw [he]
    simp -implicitDefEqProofs (disch := omega) only [sN, ↓reduceIte, Nat.reduceEqDiff, Nat.reduceAdd, Nat.reduceMul, Nat.reduceSub, reduceCtorEq, e_none, e_some, e_bindS, q4, Option.bind_some, Option.map_some, List.getElem?_cons_zero, List.map_cons, List.map_nil]
    refine call_within rfl ?_
    by_cases hok : bdOK total sample seen
    · obtain ⟨o1, o2, o3, o4, o5, o6⟩ := id hok
      have g1 : decide (0 ≤ total ∧ total ≤ 512) = true := decide_eq_true ⟨o1, o2⟩
      have g2 : decide (0 ≤ sample ∧ sample ≤ total) = true := decide_eq_true ⟨o3, o4⟩
      have g3 : decide (0 ≤ seen ∧ seen ≤ sample) = true := decide_eq_true ⟨o5, o6⟩
      simp -implicitDefEqProofs (disch := omega) only [sN, ↓reduceIte, Nat.reduceEqDiff, Nat.reduceAdd, Nat.reduceMul, Nat.reduceSub, reduceCtorEq, e_none, e_some, e_bindS, g1, q4, q5, Option.bind_some, Option.map_some, List.getElem?_cons_zero, List.map_cons, List.map_nil]
      refine call_within g2 ?_
      simp -implicitDefEqProofs (disch := omega) only [sN, ↓reduceIte, Nat.reduceEqDiff, Nat.reduceAdd, Nat.reduceMul, Nat.reduceSub, reduceCtorEq, e_none, e_some, e_bindS, q5, q6, Option.bind_some, Option.map_some, List.getElem?_cons_zero, List.map_cons, List.map_nil]
      refine call_within g3 ?_
      simp -implicitDefEqProofs (disch := omega) only [sN, ↓reduceIte, Nat.reduceEqDiff, Nat.reduceAdd, Nat.reduceMul, Nat.reduceSub, reduceCtorEq, e_none, e_some, e_bindS, q7, p_fieldAddr, Nat.zero_add, Option.bind_some, Option.map_some, List.getElem?_cons_zero, List.getElem?_cons_succ, List.map_cons, List.map_nil]
      obtain ⟨b1, k1⟩ := (hq.1.base hBH).k l1
      obtain ⟨b2, k2⟩ := (hq.2.1.base hBH).k l2
      refine call_in2 in_compare rfl (k1.mono (by omega)) (k2.mono (by omega)) (hk_P (fun _ => rfl) fun R => ?_)
      by_cases hxy : q.x < q.y
      · have hc : cmpI q.x q.y = -1 := by unfold cmpI; rw [if_pos hxy]
        have hE : bdE q total sample seen = 0 := by unfold bdE; rw [if_pos he, if_pos hok, if_pos hxy]
        have hV : bdV q total sample seen = ((lastF (exclP total.toNat sample.toNat seen q.x q.y) total.toNat : Nat) : Int) := by unfold bdV; rw [if_pos hE]
        rw [hE, hV, hc]
        obtain ⟨n, rfl⟩ := Int.eq_ofNat_of_zero_le o1
        obtain ⟨k, rfl⟩ := Int.eq_ofNat_of_zero_le o3
        rw [Int.toNat_natCast, Int.toNat_natCast]
        have hBR : Base H (H ++ R) := Base.one
        simp -implicitDefEqProofs (disch := omega) only [sN, ↓reduceIte, Nat.reduceEqDiff, Nat.reduceAdd, Nat.reduceMul, Nat.reduceSub, reduceCtorEq, e_none, e_some, e_bindS]
        refine tops_gen _ (bound_region (r4 := a4) (r5 := a5) (r7 := a7) (n := n) (k := k) (w1 := q.w) (w2 := q.w2) (x := q.x) (a := b1) (by simp only [e_upd, e_putS, e_putN, e_t, e_c, Nat.reduceEqDiff, ↓reduceIte, reduceCtorEq, Nat.reduceAdd]) (by simp only [e_upd, e_putS, e_putN, e_t, e_c, Nat.reduceEqDiff, ↓reduceIte, reduceCtorEq, Nat.reduceAdd]) (by simp only [e_upd, e_putS, e_putN, e_t, e_c, Nat.reduceEqDiff, ↓reduceIte, reduceCtorEq, Nat.reduceAdd]) (hBR.row q4) (hBR.row q5) (hBR.row q7) k1.app (by omega) (by omega)) ?_
        rintro s' H' ⟨hB', ⟨r11, wl, rl, t11, hr11, hwl⟩, t4, t5, t6, t7⟩
        have hBH' : Base H H' := hBR.trans hB'
        have t4' : s' 4 = .ptr a4 0 := by rw [t4]; simp only [e_upd, e_putS, e_putN, e_t, e_c, Nat.reduceEqDiff, ↓reduceIte, reduceCtorEq, Nat.reduceAdd]
        have t5' : s' 5 = .ptr a5 0 := by rw [t5]; simp only [e_upd, e_putS, e_putN, e_t, e_c, Nat.reduceEqDiff, ↓reduceIte, reduceCtorEq, Nat.reduceAdd]
        have t6' : s' 6 = .ptr a6 0 := by rw [t6]; simp only [e_upd, e_putS, e_putN, e_t, e_c, Nat.reduceEqDiff, ↓reduceIte, reduceCtorEq, Nat.reduceAdd]
        have t7' : s' 7 = .ptr a7 0 := by rw [t7]; simp only [e_upd, e_putS, e_putN, e_t, e_c, Nat.reduceEqDiff, ↓reduceIte, reduceCtorEq, Nat.reduceAdd]
        clear t4 t5 t6 t7
        have hbox : Boxes H' a4 a5 a6 a7 r11 n k seen q.w q.w2 wl q.x q.y := ⟨hBH'.row q4, hBH'.row q5, hBH'.row q6, hBH'.row q7, hr11, ⟨b2, k2.keep (hBH'.2 b2 k2.lt)⟩, ⟨rl, hwl⟩⟩
        have hn1 : (n : Int) + 1 = ((n + 1 : Nat) : Int) := by omega
        simp -implicitDefEqProofs (disch := omega) only [sN, ↓reduceIte, Nat.reduceEqDiff, Nat.reduceAdd, Nat.reduceMul, Nat.reduceSub, reduceCtorEq, e_none, e_some, e_bindS, t4', t5', t6', t7', t11, hbox.r4, hn1, p_makeFunc, Option.bind_some, Option.map_some, List.getElem?_cons_zero, List.map_cons, List.map_nil]
        refine ⟨_, (search_calls H' (f := 114) (caps := [.ptr a4 0, .ptr a5 0, .ptr a6 0, .ptr a7 0, .ptr r11 0]) (n := n + 1) (by omega) (exclP n k seen q.x q.y) (exclP_mono (by have := k2.nonneg; omega)) fun H2 j hb hj => ⟨_, boundF_calls (hbox.base hb) (by omega) (by omega) h2 (by omega)⟩).g.mono ?_⟩
        rintro v H2 ⟨hB2, r, rfl, hr1, hr2, hr3⟩
        have hz := excl_zero (n := n) (k := k) (seen := seen) (x := q.x) (y := q.y) (by omega) o5 hxy (b := 0) (by omega) (by omega)
        have hr0 : r ≠ 0 := by
          intro h; subst h
          have := hr3 0 (by omega) (by omega)
          rw [hz] at this; cases this
        have hlast : lastF (exclP n k seen q.x q.y) n = r - 1 := lastF_eq (by omega) (fun _ => hr2 _ (by omega)) fun i h3 h4 => hr3 i (by omega) (by omega)
        have hri : (r : Int) - 1 = ((r - 1 : Nat) : Int) := by omega
        rw [hlast]
        simp -implicitDefEqProofs (disch := omega) only [sN, ↓reduceIte, Nat.reduceEqDiff, Nat.reduceAdd, Nat.reduceMul, Nat.reduceSub, reduceCtorEq, e_none, e_some, e_bindS, hri]
        refine ret_keep (by rw [ha4]; exact (hBH.trans (hBH'.trans hB2)).1) ?_
        rw [q_tmp2, q_then]
        refine ⟨?_, hBH.trans (hBH'.trans hB2)⟩
        simp only [e_upd, e_putS, e_putN, e_t, e_c, Nat.reduceEqDiff, ↓reduceIte, reduceCtorEq, Nat.reduceAdd]
      · have hc : 0 ≤ cmpI q.x q.y := by unfold cmpI; rw [if_neg hxy]; split <;> omega
        have hE : bdE q total sample seen = 2 := by unfold bdE; rw [if_pos he, if_pos hok, if_neg hxy]
        have hV : bdV q total sample seen = 0 := by unfold bdV; rw [if_neg (by rw [hE]; decide)]
        rw [hE, hV]
        simp -implicitDefEqProofs (disch := omega) only [sN, ↓reduceIte, Nat.reduceEqDiff, Nat.reduceAdd, Nat.reduceMul, Nat.reduceSub, reduceCtorEq, e_none, e_some, e_bindS]
        refine ret_keep (by rw [ha4]; exact hBH.app.1) ?_
        rw [q_tmp2, q_then]
        refine ⟨?_, hBH.app⟩
        simp only [e_upd, e_putS, e_putN, e_t, e_c, Nat.reduceEqDiff, ↓reduceIte, reduceCtorEq, Nat.reduceAdd]
    · have hE : bdE q total sample seen = 3 := by unfold bdE; rw [if_pos he, if_neg hok]
      have hV : bdV q total sample seen = 0 := by unfold bdV; rw [if_neg (by rw [hE]; decide)]
      rw [hE, hV]
      by_cases c1 : 0 ≤ total ∧ total ≤ 512
      · have g1 : decide (0 ≤ total ∧ total ≤ 512) = true := decide_eq_true c1
        simp -implicitDefEqProofs (disch := omega) only [sN, ↓reduceIte, Nat.reduceEqDiff, Nat.reduceAdd, Nat.reduceMul, Nat.reduceSub, reduceCtorEq, e_none, e_some, e_bindS, g1, q4, q5, Option.bind_some, Option.map_some, List.getElem?_cons_zero, List.map_cons, List.map_nil]
        refine call_within rfl ?_
        by_cases c2 : 0 ≤ sample ∧ sample ≤ total
        · have g2 : decide (0 ≤ sample ∧ sample ≤ total) = true := decide_eq_true c2
          have g3 : decide (0 ≤ seen ∧ seen ≤ sample) = false := decide_eq_false fun c3 => hok ⟨c1.1, c1.2, c2.1, c2.2, c3.1, c3.2⟩
          simp -implicitDefEqProofs (disch := omega) only [sN, ↓reduceIte, Nat.reduceEqDiff, Nat.reduceAdd, Nat.reduceMul, Nat.reduceSub, reduceCtorEq, e_none, e_some, e_bindS, g2, q5, q6, Option.bind_some, Option.map_some, List.getElem?_cons_zero, List.map_cons, List.map_nil]
          refine call_within g3 ?_
          simp -implicitDefEqProofs (disch := omega) only [sN, ↓reduceIte, Nat.reduceEqDiff, Nat.reduceAdd, Nat.reduceMul, Nat.reduceSub, reduceCtorEq, e_none, e_some, e_bindS]
          refine ret_keep (by rw [ha4]; exact hBH.1) ?_
          rw [q_tmp2, q_then]
          refine ⟨?_, hBH⟩
          simp only [e_upd, e_putS, e_putN, e_t, e_c, Nat.reduceEqDiff, ↓reduceIte, reduceCtorEq, Nat.reduceAdd]
        · have g2 : decide (0 ≤ sample ∧ sample ≤ total) = false := decide_eq_false c2
          simp -implicitDefEqProofs (disch := omega) only [sN, ↓reduceIte, Nat.reduceEqDiff, Nat.reduceAdd, Nat.reduceMul, Nat.reduceSub, reduceCtorEq, e_none, e_some, e_bindS, g2]
          refine ret_keep (by rw [ha4]; exact hBH.1) ?_
          rw [q_tmp2, q_then]
          refine ⟨?_, hBH⟩
          simp only [e_upd, e_putS, e_putN, e_t, e_c, Nat.reduceEqDiff, ↓reduceIte, reduceCtorEq, Nat.reduceAdd]
      · have g1 : decide (0 ≤ total ∧ total ≤ 512) = false := decide_eq_false c1
        simp -implicitDefEqProofs (disch := omega) only [sN, ↓reduceIte, Nat.reduceEqDiff, Nat.reduceAdd, Nat.reduceMul, Nat.reduceSub, reduceCtorEq, e_none, e_some, e_bindS, g1]
        refine ret_keep (by rw [ha4]; exact hBH.1) ?_
        rw [q_tmp2, q_then]
        refine ⟨?_, hBH⟩
        simp only [e_upd, e_putS, e_putN, e_t, e_c, Nat.reduceEqDiff, ↓reduceIte, reduceCtorEq, Nat.reduceAdd]
  · have hE : bdE q total sample seen = cfE [q] := by unfold bdE; rw [if_neg he]
    have hV : bdV q total sample seen = 0 := by unfold bdV; rw [if_neg (by rw [hE]; exact he)]
    rw [hE, hV]
    simp -implicitDefEqProofs (disch := omega) only [sN, ↓reduceIte, Nat.reduceEqDiff, Nat.reduceAdd, Nat.reduceMul, Nat.reduceSub, reduceCtorEq, e_none, e_some, e_bindS]
    refine ret_keep (by rw [ha4]; exact hBH.1) ?_
    rw [q_tmp2, q_then]
    refine ⟨?_, hBH⟩
    simp only [e_upd, e_putS, e_putN, e_t, e_c, Nat.reduceEqDiff, ↓reduceIte, reduceCtorEq, Nat.reduceAdd]
end Go.Proofs.Ythbhljolpnbdlaa.S1



/- Texts of code of this program, checked against its dump. -/
namespace Go.Proofs.Ythbhljolpnbdlaa.S1
open Go Go.Vh
def ir_rBound : IR := (.seq (.ops [⟨(some 7), none, (.eff (.box (.t 3)))⟩, ⟨(some 8), none, (.pure (.move (.c (.int .i64 0))))⟩, ⟨(some 9), none, (.pure (.move (.c (.int .i64 0))))⟩]) (.seq (.ops [⟨(some 15), none, (.eff (.loadN 2 (.t 7)))⟩, ⟨(some 16), none, (.call (.c (.func 80 [])) [(.t 15)])⟩, ⟨(some 10), none, (.pure (.move (.t 16)))⟩]) (.seq (.seq (.ops [⟨(some 17), none, (.pure (.move (.t 10)))⟩, ⟨(some 18), none, (.pure (.bin .neq (.t 17) (.c (.int .i64 0))))⟩]) (.cond (.t 18) (.seq (.ops [⟨(some 19), none, (.pure (.move (.t 10)))⟩, ⟨(some 8), none, (.pure (.move (.c (.int .i64 0))))⟩, ⟨(some 9), none, (.pure (.move (.t 19)))⟩]) .ret) .skip)) (.seq (.seq (.ops [⟨(some 20), none, (.pure (.move (.t 0)))⟩, ⟨(some 21), none, (.pure (.bin .lss (.t 20) (.c (.int .i64 0))))⟩, ⟨(some 22), none, (.pure (.move (.t 21)))⟩, ⟨(some 23), (some (22, false)), (.pure (.move (.t 0)))⟩, ⟨(some 24), (some (22, false)), (.pure (.bin .gtr (.t 23) (.c (.int .i64 512))))⟩, ⟨(some 25), none, (.pure (.pick (.t 22) (.c (.bool true)) (.t 24)))⟩, ⟨(some 26), none, (.pure (.move (.t 25)))⟩, ⟨(some 27), (some (26, false)), (.pure (.move (.t 1)))⟩, ⟨(some 28), (some (26, false)), (.pure (.bin .lss (.t 27) (.c (.int .i64 0))))⟩, ⟨(some 29), none, (.pure (.pick (.t 26) (.c (.bool true)) (.t 28)))⟩, ⟨(some 30), none, (.pure (.move (.t 29)))⟩, ⟨(some 31), (some (30, false)), (.pure (.move (.t 1)))⟩, ⟨(some 32), (some (30, false)), (.pure (.move (.t 0)))⟩, ⟨(some 33), (some (30, false)), (.pure (.bin .gtr (.t 31) (.t 32)))⟩, ⟨(some 34), none, (.pure (.pick (.t 30) (.c (.bool true)) (.t 33)))⟩, ⟨(some 35), none, (.pure (.move (.t 34)))⟩, ⟨(some 36), (some (35, false)), (.pure (.move (.t 2)))⟩, ⟨(some 37), (some (35, false)), (.pure (.bin .lss (.t 36) (.c (.int .i64 0))))⟩, ⟨(some 38), none, (.pure (.pick (.t 35) (.c (.bool true)) (.t 37)))⟩, ⟨(some 39), none, (.pure (.move (.t 38)))⟩, ⟨(some 40), (some (39, false)), (.pure (.move (.t 2)))⟩, ⟨(some 41), (some (39, false)), (.pure (.move (.t 1)))⟩, ⟨(some 42), (some (39, false)), (.pure (.bin .gtr (.t 40) (.t 41)))⟩, ⟨(some 43), none, (.pure (.pick (.t 39) (.c (.bool true)) (.t 42)))⟩]) (.cond (.t 43) (.seq (.ops [⟨(some 8), none, (.pure (.move (.c (.int .i64 0))))⟩, ⟨(some 9), none, (.pure (.move (.c (.int .i64 3))))⟩]) .ret) .skip)) (.seq (.seq (.dops [⟨⟨(some 44), none, (.pure (.fieldAddr 0 (.t 7)))⟩, 0, 0⟩, ⟨⟨(some 45), none, (.eff (.load1 (.t 44)))⟩, 1, 1⟩, ⟨⟨(some 47), none, (.pure (.fieldAddr 1 (.t 7)))⟩, 3, 0⟩, ⟨⟨(some 48), none, (.eff (.load1 (.t 47)))⟩, 4, 1⟩, ⟨⟨(some 46), none, (.call (.c (.func 118 [])) [(.t 45)])⟩, 2, 2⟩, ⟨⟨(some 49), none, (.call (.c (.func 118 [])) [(.t 48)])⟩, 5, 3⟩, ⟨⟨(some 50), none, (.call (.c (.func 117 [])) [(.t 46), (.t 49)])⟩, 6, 3⟩, ⟨⟨(some 51), none, (.pure (.bin .geq (.t 50) (.c (.int .i64 0))))⟩, 7, 0⟩]) (.cond (.t 51) (.seq (.ops [⟨(some 8), none, (.pure (.move (.c (.int .i64 0))))⟩, ⟨(some 9), none, (.pure (.move (.c (.int .i64 2))))⟩]) .ret) .skip)) (.seq (.ops [⟨(some 52), none, (.pure (.fieldAddr 0 (.t 7)))⟩, ⟨(some 53), none, (.eff (.load1 (.t 52)))⟩, ⟨(some 54), none, (.call (.c (.func 118 [])) [(.t 53)])⟩, ⟨(some 55), none, (.pure (.move (.t 0)))⟩, ⟨(some 56), none, (.call (.c (.func 120 [])) [(.t 55)])⟩, ⟨(some 57), none, (.pure (.move (.t 1)))⟩, ⟨(some 58), none, (.pure (.indexAddr 1 (.t 56) (.t 57)))⟩, ⟨(some 59), none, (.eff (.load1 (.t 58)))⟩, ⟨(some 60), none, (.call (.c (.func 119 [])) [(.t 54), (.t 59)])⟩, ⟨(some 11), none, (.pure (.move (.t 60)))⟩]) (.seq (.ops [⟨(some 61), none, (.pure (.move (.t 2)))⟩, ⟨(some 12), none, (.pure (.move (.t 61)))⟩]) (.seq (.ops [⟨(some 62), none, (.pure (.move (.t 0)))⟩, ⟨(some 13), none, (.pure (.move (.t 62)))⟩]) (.seq (.block 0 (.loop (.seq (.seq (.ops [⟨(some 63), none, (.pure (.move (.t 12)))⟩, ⟨(some 64), none, (.pure (.move (.t 13)))⟩, ⟨(some 65), none, (.pure (.bin .lss (.t 63) (.t 64)))⟩]) (.cond (.t 65) .skip (.exit 0))) (.block 1 (.seq (.ops [⟨(some 66), none, (.pure (.move (.t 12)))⟩, ⟨(some 67), none, (.pure (.move (.t 13)))⟩, ⟨(some 68), none, (.pure (.bin .add (.t 66) (.t 67)))⟩, ⟨(some 69), none, (.pure (.bin .add (.t 68) (.c (.int .i64 1))))⟩, ⟨(some 70), none, (.pure (.bin .quo (.t 69) (.c (.int .i64 2))))⟩, ⟨(some 14), none, (.pure (.move (.t 70)))⟩]) (.seq (.dops [⟨⟨(some 71), none, (.pure (.move (.t 0)))⟩, 0, 0⟩, ⟨⟨(some 72), none, (.pure (.move (.t 14)))⟩, 1, 0⟩, ⟨⟨(some 73), none, (.pure (.move (.t 1)))⟩, 2, 0⟩, ⟨⟨(some 74), none, (.pure (.move (.t 2)))⟩, 3, 0⟩, ⟨⟨(some 76), none, (.pure (.fieldAddr 1 (.t 7)))⟩, 5, 0⟩, ⟨⟨(some 77), none, (.eff (.load1 (.t 76)))⟩, 6, 1⟩, ⟨⟨(some 80), none, (.pure (.move (.t 11)))⟩, 9, 0⟩, ⟨⟨(some 75), none, (.call (.c (.func 121 [])) [(.t 71), (.t 72), (.t 73), (.t 74)])⟩, 4, 2⟩, ⟨⟨(some 78), none, (.call (.c (.func 118 [])) [(.t 77)])⟩, 7, 3⟩, ⟨⟨(some 79), none, (.call (.c (.func 119 [])) [(.t 75), (.t 78)])⟩, 8, 3⟩, ⟨⟨(some 81), none, (.call (.c (.func 117 [])) [(.t 79), (.t 80)])⟩, 10, 3⟩, ⟨⟨(some 82), none, (.pure (.bin .gtr (.t 81) (.c (.int .i64 0))))⟩, 11, 0⟩]) (.cond (.t 82) (.ops [⟨(some 83), none, (.pure (.move (.t 14)))⟩, ⟨(some 12), none, (.pure (.move (.t 83)))⟩]) (.ops [⟨(some 84), none, (.pure (.move (.t 14)))⟩, ⟨(some 85), none, (.pure (.bin .sub (.t 84) (.c (.int .i64 1))))⟩, ⟨(some 13), none, (.pure (.move (.t 85)))⟩])))))))) (.seq (.ops [⟨(some 86), none, (.pure (.move (.t 12)))⟩, ⟨(some 8), none, (.pure (.move (.t 86)))⟩, ⟨(some 9), none, (.pure (.move (.c (.int .i64 0))))⟩]) .ret))))))))))
def rs_rBound : List IRes := [(.tmp 8), (.tmp 9)]
theorem ir_rBound_ok : (Func.body Try.f76).bind (irOf Try.prog Try.f76.ntmps) = some ir_rBound := by kernel_rfl
theorem rs_rBound_ok : Try.f76.results.toList.mapM (resOf Try.prog) = some rs_rBound := by kernel_rfl
theorem ent_rBound : enters Try.prog 76 = true := by kernel_rfl

def ir_rCheckFrac : IR := (.seq (.ops [⟨(some 1), none, (.eff (.box (.t 0)))⟩, ⟨(some 2), none, (.pure (.move (.c (.int .i64 0))))⟩]) (.seq (.seq (.ops [⟨(some 3), none, (.pure (.fieldAddr 0 (.t 1)))⟩, ⟨(some 4), none, (.eff (.load1 (.t 3)))⟩, ⟨(some 5), none, (.pure (.fieldAddr 1 (.t 1)))⟩, ⟨(some 6), none, (.eff (.load1 (.t 5)))⟩, ⟨(some 7), none, (.call (.c (.func 123 [])) [(.t 4), (.t 6)])⟩, ⟨(some 8), none, (.pure (.bin .neq (.t 7) (.c (.int .i64 0))))⟩]) (.cond (.t 8) (.seq (.ops [⟨(some 2), none, (.pure (.move (.c (.int .i64 4))))⟩]) .ret) .skip)) (.seq (.seq (.ops [⟨(some 9), none, (.pure (.fieldAddr 1 (.t 1)))⟩, ⟨(some 10), none, (.eff (.load1 (.t 9)))⟩, ⟨(some 11), none, (.call (.c (.func 118 [])) [(.t 10)])⟩, ⟨(some 12), none, (.pure (.len (.t 11)))⟩, ⟨(some 13), none, (.pure (.bin .eql (.t 12) (.c (.int .i64 0))))⟩]) (.cond (.t 13) (.seq (.ops [⟨(some 2), none, (.pure (.move (.c (.int .i64 7))))⟩]) .ret) .skip)) (.seq (.ops [⟨(some 2), none, (.pure (.move (.c (.int .i64 0))))⟩]) .ret))))
def rs_rCheckFrac : List IRes := [(.tmp 2)]
theorem ir_rCheckFrac_ok : (Func.body Try.f80).bind (irOf Try.prog Try.f80.ntmps) = some ir_rCheckFrac := by kernel_rfl
theorem rs_rCheckFrac_ok : Try.f80.results.toList.mapM (resOf Try.prog) = some rs_rCheckFrac := by kernel_rfl
theorem ent_rCheckFrac : enters Try.prog 80 = true := by kernel_rfl

def ir_rboth : IR := (.seq (.ops [⟨(some 4), none, (.pure (.move (.c (.int .i64 0))))⟩]) (.seq (.seq (.ops [⟨(some 5), none, (.pure (.move (.t 0)))⟩, ⟨(some 6), none, (.call (.c (.func 143 [])) [(.t 5)])⟩, ⟨(some 7), none, (.pure (.bin .neq (.t 6) (.c (.int .i64 0))))⟩, ⟨(some 8), none, (.pure (.move (.t 7)))⟩, ⟨(some 9), (some (8, false)), (.pure (.move (.t 1)))⟩, ⟨(some 10), (some (8, false)), (.call (.c (.func 143 [])) [(.t 9)])⟩, ⟨(some 11), (some (8, false)), (.pure (.bin .neq (.t 10) (.c (.int .i64 0))))⟩, ⟨(some 12), none, (.pure (.pick (.t 8) (.c (.bool true)) (.t 11)))⟩]) (.cond (.t 12) (.seq (.ops [⟨(some 4), none, (.pure (.move (.c (.int .i64 4))))⟩]) .ret) .skip)) (.seq (.ops [⟨(some 4), none, (.pure (.move (.c (.int .i64 0))))⟩]) .ret)))
def rs_rboth : List IRes := [(.tmp 4)]
theorem ir_rboth_ok : (Func.body Try.f123).bind (irOf Try.prog Try.f123.ntmps) = some ir_rboth := by kernel_rfl
theorem rs_rboth_ok : Try.f123.results.toList.mapM (resOf Try.prog) = some rs_rboth := by kernel_rfl
theorem ent_rboth : enters Try.prog 123 = true := by kernel_rfl

def ir_rCheck : IR := (.seq (.ops [⟨(some 2), none, (.pure (.move (.c (.int .i64 0))))⟩]) (.seq (.seq (.ops [⟨(some 3), none, (.pure (.move (.t 0)))⟩, ⟨(some 4), none, (.pure (.len (.t 3)))⟩, ⟨(some 5), none, (.pure (.bin .gtr (.t 4) (.c (.int .i64 64))))⟩]) (.cond (.t 5) (.seq (.ops [⟨(some 2), none, (.pure (.move (.c (.int .i64 4))))⟩]) .ret) .skip)) (.seq (.ops [⟨(some 2), none, (.pure (.move (.c (.int .i64 0))))⟩]) .ret)))
def rs_rCheck : List IRes := [(.tmp 2)]
theorem ir_rCheck_ok : (Func.body Try.f143).bind (irOf Try.prog Try.f143.ntmps) = some ir_rCheck := by kernel_rfl
theorem rs_rCheck_ok : Try.f143.results.toList.mapM (resOf Try.prog) = some rs_rCheck := by kernel_rfl
theorem ent_rCheck : enters Try.prog 143 = true := by kernel_rfl

end Go.Proofs.Ythbhljolpnbdlaa.S1


