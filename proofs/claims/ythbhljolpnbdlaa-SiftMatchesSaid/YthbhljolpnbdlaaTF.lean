/- Contracts of stage 4: lists of announcements are checked. -/
import Derived.Test.YthbhljolpnbdlaaVX
import Derived.Test.YthbhljolpnbdlaaTD
set_option linter.unusedSimpArgs false
set_option linter.unusedVariables false
-- NEWSET
namespace Go.Proofs.Ythbhljolpnbdlaa
open Go Go.Vh

section
variable {K : St → AHeap → Prop} {d : Option Nat} {s : St} {H : AHeap} {x y : Int}
theorem call_slot0 (hK : ∀ R, K (putI d s (.int .i64 x)) (H ++ R)) : thenC0 Try.prog K d s H [.agg [.int .i64 x, .int .i64 y]] (.func 91 []) := by
  refine call_do0 (slotOfH_calls x y) [] rfl rfl rfl rfl rfl trivial ?_
  rintro v0 H0' rfl
  rw [m_merge, m_nil]
  exact hK _
theorem call_slot (hK : ∀ R, K (putI d s (.int .i64 x)) (H ++ R)) : thenC Try.prog K d s H [.agg [.int .i64 x, .int .i64 y]] (.func 91 []) := by
  refine call_do (slotOfH_calls x y) [] rfl rfl rfl rfl trivial ?_
  rintro v0 H0' rfl
  rw [m_merge, m_nil]
  exact hK _
end

set_option maxHeartbeats 2000000 in
theorem firstFaultH_calls (H0 : AHeap) {κ : SK} {n r c p q : Nat} {l : List Int} {row rc rp rq : ARow} {a b : Int} (hk : okS κ n) (hl : l.length = n * 2) (hn : n ≤ maxLen) (hr : Vh.rowAt H0 r = some row) (hcl : row.cells = ints .i64 l)
    (hc : Vh.rowAt H0 c = some rc) (cc : rc.cells = [.func 93 [.ptr p 0, .ptr q 0]]) (hp : Vh.rowAt H0 p = some rp) (cp : rp.cells = [.int .i64 a]) (hq : Vh.rowAt H0 q = some rq) (cq : rq.cells = [.int .i64 b]) :
    ACalls Try.prog 90 [mkS κ r 0 n, .func 91 [], .func 92 [.ptr c 0]] H0 (List.range H0.length) fun v H => v = .int .i64 (fE l a b n) ∧ Base H0 H := by
  refine ACalls.body Try.func90 ent_firstFaultH ir_firstFaultH_ok rs_firstFaultH_ok Try.ntmps90 (by simp) rfl ?_
  unfold ir_firstFaultH
  have e0 : s0 [mkS κ r 0 n, .func 91 [], .func 92 [.ptr c 0]] 0 = mkS κ r 0 n := rfl
  have e1 : s0 [mkS κ r 0 n, .func 91 [], .func 92 [.ptr c 0]] 1 = .func 91 [] := rfl
  have e2 : s0 [mkS κ r 0 n, .func 91 [], .func 92 [.ptr c 0]] 2 = .func 92 [.ptr c 0] := rfl
  have hz : [AV.int .i64 0, AV.int .i64 0].all AV.cell = true := rfl
  have hn' : (n : Int) ≤ 9223372036854775807 := by unfold maxLen at hn; omega
  simp (disch := omega) only [sN, ↓reduceIte, Nat.reduceEqDiff, Nat.reduceAdd, Nat.reduceMul, Nat.reduceSub, reduceCtorEq, e_none, e_some, e_bindS, e0, e1, e2, k_len hk]
  refine ⟨fun t s H => ∃ i : Nat, t = n - i ∧ i ≤ n ∧ (∀ j, j < i → fA l a b j = 0) ∧ Base H0 H ∧ s 0 = mkS κ r 0 n ∧ s 1 = .func 91 [] ∧ s 2 = .func 92 [.ptr c 0] ∧ s 10 = mkS κ r 0 n ∧ s 11 = .int .i64 n ∧ s 12 = .int .i64 (i : Int), n, ⟨0, rfl, by omega, fun j h => by omega, Base.refl, ?_, ?_, ?_, ?_, ?_, ?_⟩, ?_⟩
  · simp only [e_upd, e_putS, e_putN, e_t, e_c, Nat.reduceEqDiff, ↓reduceIte, reduceCtorEq, Nat.reduceAdd, e0]
  · simp only [e_upd, e_putS, e_putN, e_t, e_c, Nat.reduceEqDiff, ↓reduceIte, reduceCtorEq, Nat.reduceAdd, e1]
  · simp only [e_upd, e_putS, e_putN, e_t, e_c, Nat.reduceEqDiff, ↓reduceIte, reduceCtorEq, Nat.reduceAdd, e2]
  · simp only [e_upd, e_putS, e_putN, e_t, e_c, Nat.reduceEqDiff, ↓reduceIte, reduceCtorEq, Nat.reduceAdd]
  · simp only [e_upd, e_putS, e_putN, e_t, e_c, Nat.reduceEqDiff, ↓reduceIte, reduceCtorEq, Nat.reduceAdd]
  · simp only [e_upd, e_putS, e_putN, e_t, e_c, Nat.reduceEqDiff, ↓reduceIte, reduceCtorEq, Nat.reduceAdd]; rfl
  rintro t s H ⟨i, rfl, hi, hS, hB, h0, h1, h2, h10, h11, h12⟩
  by_cases hlt : i < n
  · obtain ⟨c1, c2⟩ := pair_at hl hlt
    have hrH := hB.row hr
    have ia : aindexAddr 2 (mkS κ r 0 n) (.int .i64 (i : Int)) = some (.ptr r (i * 2)) := by
      rw [k_idx2 hk (Nat.le_refl n) (by omega) (by omega)]; simp
    simp (disch := omega) only [sN, ↓reduceIte, Nat.reduceEqDiff, Nat.reduceAdd, Nat.reduceMul, Nat.reduceSub, reduceCtorEq, e_none, e_some, e_bindS, h0, h1, h2, h10, h11, h12, ia]
    rw [x_loadNO (n := 2) (r := r) (off := i * 2) (l := [.int .i64 (cb l i), .int .i64 (ck l i)]) (by simp only [e_upd, e_putS, e_putN, e_t, e_c, Nat.reduceEqDiff, ↓reduceIte, reduceCtorEq, Nat.reduceAdd]) hrH (by rw [hcl]; exact c1) (by rw [hcl]; exact c2)]
    simp (disch := omega) only [sN, ↓reduceIte, Nat.reduceEqDiff, Nat.reduceAdd, Nat.reduceMul, Nat.reduceSub, reduceCtorEq, e_none, e_some, e_bindS, h0, h1, h2, h10, h11, h12]
    rw [x_allocA hz]
    simp (disch := omega) only [sN, ↓reduceIte, Nat.reduceEqDiff, Nat.reduceAdd, Nat.reduceMul, Nat.reduceSub, reduceCtorEq, e_none, e_some, e_bindS, h0, h1, h2, h10, h11, h12]
    rw [x_storeNA (n := 2) (r := H.length) (l := [.int .i64 0, .int .i64 0]) (l' := [.int .i64 (cb l i), .int .i64 (ck l i)]) (by simp only [e_upd, e_putS, e_putN, e_t, e_c, Nat.reduceEqDiff, ↓reduceIte, reduceCtorEq, Nat.reduceAdd]) (by simp only [e_upd, e_putS, e_putN, e_t, e_c, Nat.reduceEqDiff, ↓reduceIte, reduceCtorEq, Nat.reduceAdd]) (by rfl) (by simp [Vh.rowAt, rw_]) rfl rfl]
    rw [set_last]
    obtain ⟨x, hx⟩ : ∃ x, x = cb l i := ⟨_, rfl⟩
    obtain ⟨y, hy⟩ : ∃ y, y = ck l i := ⟨_, rfl⟩
    rw [← hx, ← hy]
    obtain ⟨H1, hH1⟩ : ∃ h, h = H ++ [rw_ [.int .i64 x, .int .i64 y]] := ⟨_, rfl⟩
    have hb : Vh.rowAt H1 H.length = some ⟨true, false, [.int .i64 x, .int .i64 y]⟩ := by rw [hH1]; simp [Vh.rowAt, rw_]
    have hB1 : Base H0 H1 := by rw [hH1]; exact hB.app
    rw [← hH1]
    simp (disch := omega) only [sN, ↓reduceIte, Nat.reduceEqDiff, Nat.reduceAdd, Nat.reduceMul, Nat.reduceSub, reduceCtorEq, e_none, e_some, e_bindS, h0, h1, h2, h10, h11, h12]
    rw [x_loadNA (n := 2) (r := H.length) (l := [.int .i64 x, .int .i64 y]) (by simp only [e_upd, e_putS, e_putN, e_t, e_c, Nat.reduceEqDiff, ↓reduceIte, reduceCtorEq, Nat.reduceAdd]) hb rfl rfl]
    simp (disch := omega) only [sN, ↓reduceIte, Nat.reduceEqDiff, Nat.reduceAdd, Nat.reduceMul, Nat.reduceSub, reduceCtorEq, e_none, e_some, e_bindS, h0, h1, h2, h10, h11, h12, List.map_cons, List.map_nil, List.cons_append, List.nil_append]
    refine ⟨_, (checkH_calls H1 (x := x) (y := y) (hB1.row hc) cc (hB1.row hp) cp (hB1.row hq) cq).g.mono ?_⟩
    rintro v H2 ⟨rfl, hB2⟩
    have hB3 := hB1.trans hB2
    have hb2 := hB2.row hb
    have hr2 := hB3.row hr
    obtain ⟨e, hee⟩ : ∃ e, e = hE a b x y := ⟨_, rfl⟩
    have hfa : fA l a b i = if e = 0 then (if 0 < i ∧ cb l (i - 1) ≥ x then 6 else 0) else e := by
      unfold fA; rw [← hx, ← hy, ← hee]
    rw [← hee]
    by_cases hz0 : e = 0
    · rw [if_pos hz0] at hfa
      have done : fA l a b i = 0 → ∀ j, j < i + 1 → fA l a b j = 0 := fun h j hj => by
        rcases Nat.lt_or_ge j i with h' | h'
        · exact hS j h'
        · obtain rfl : j = i := by omega
          exact h
      by_cases hi0 : i = 0
      · rw [if_neg (by omega)] at hfa
        simp (disch := omega) only [sN, ↓reduceIte, Nat.reduceEqDiff, Nat.reduceAdd, Nat.reduceMul, Nat.reduceSub, reduceCtorEq, e_none, e_some, e_bindS, h0, h1, h2, h10, h11, h12]
        refine loop_keep (m := n - (i + 1)) (by omega) ⟨i + 1, rfl, by omega, done hfa, hB3, ?_, ?_, ?_, ?_, ?_, ?_⟩
        · simp only [e_upd, e_putS, e_putN, e_t, e_c, Nat.reduceEqDiff, ↓reduceIte, reduceCtorEq, Nat.reduceAdd, h0]
        · simp only [e_upd, e_putS, e_putN, e_t, e_c, Nat.reduceEqDiff, ↓reduceIte, reduceCtorEq, Nat.reduceAdd, h1]
        · simp only [e_upd, e_putS, e_putN, e_t, e_c, Nat.reduceEqDiff, ↓reduceIte, reduceCtorEq, Nat.reduceAdd, h2]
        · simp only [e_upd, e_putS, e_putN, e_t, e_c, Nat.reduceEqDiff, ↓reduceIte, reduceCtorEq, Nat.reduceAdd, h10]
        · simp only [e_upd, e_putS, e_putN, e_t, e_c, Nat.reduceEqDiff, ↓reduceIte, reduceCtorEq, Nat.reduceAdd, h11]
        · simp only [e_upd, e_putS, e_putN, e_t, e_c, Nat.reduceEqDiff, ↓reduceIte, reduceCtorEq, Nat.reduceAdd]; first | done | rfl
      · obtain ⟨d1, d2⟩ := pair_at hl (show i - 1 < n by omega)
        obtain ⟨z, hzz⟩ : ∃ z, z = cb l (i - 1) := ⟨_, rfl⟩
        obtain ⟨u, huu⟩ : ∃ z, z = ck l (i - 1) := ⟨_, rfl⟩
        rw [← hzz, ← huu] at d1
        rw [← hzz] at hfa
        have ib : aindexAddr 2 (mkS κ r 0 n) (.int .i64 ((i : Int) - 1)) = some (.ptr r ((i - 1) * 2)) := by
          rw [show (i : Int) - 1 = ((i - 1 : Nat) : Int) by omega, k_idx2 hk (Nat.le_refl n) (by omega) (by omega)]; simp
        simp (disch := omega) only [sN, ↓reduceIte, Nat.reduceEqDiff, Nat.reduceAdd, Nat.reduceMul, Nat.reduceSub, reduceCtorEq, e_none, e_some, e_bindS, h0, h1, h2, h10, h11, h12, ib]
        rw [x_loadNO (n := 2) (r := r) (off := (i - 1) * 2) (l := [.int .i64 z, .int .i64 u]) (by simp only [e_upd, e_putS, e_putN, e_t, e_c, Nat.reduceEqDiff, ↓reduceIte, reduceCtorEq, Nat.reduceAdd]) hr2 (by rw [hcl]; exact d1) (by rw [hcl]; exact d2)]
        simp (disch := omega) only [sN, ↓reduceIte, Nat.reduceEqDiff, Nat.reduceAdd, Nat.reduceMul, Nat.reduceSub, reduceCtorEq, e_none, e_some, e_bindS, h0, h1, h2, h10, h11, h12]
        rw [x_loadNA (n := 2) (r := H.length) (l := [.int .i64 x, .int .i64 y]) (by simp only [e_upd, e_putS, e_putN, e_t, e_c, Nat.reduceEqDiff, ↓reduceIte, reduceCtorEq, Nat.reduceAdd]) hb2 rfl rfl]
        simp (disch := omega) only [sN, ↓reduceIte, Nat.reduceEqDiff, Nat.reduceAdd, Nat.reduceMul, Nat.reduceSub, reduceCtorEq, e_none, e_some, e_bindS, h0, h1, h2, h10, h11, h12, List.map_cons, List.map_nil]
        refine call_slot0 fun R1 => ?_
        simp (disch := omega) only [sN, ↓reduceIte, Nat.reduceEqDiff, Nat.reduceAdd, Nat.reduceMul, Nat.reduceSub, reduceCtorEq, e_none, e_some, e_bindS, h0, h1, h2, h10, h11, h12, List.map_cons, List.map_nil]
        refine call_slot fun R2 => ?_
        by_cases hge : z ≥ x
        · rw [if_pos ⟨by omega, hge⟩] at hfa
          simp (disch := omega) only [sN, ↓reduceIte, Nat.reduceEqDiff, Nat.reduceAdd, Nat.reduceMul, Nat.reduceSub, reduceCtorEq, e_none, e_some, e_bindS, h0, h1, h2, h10, h11, h12]
          refine ret_keep hB3.app.app.1 ?_
          simp only [rs_firstFaultH, q_tmp, q_then, e_upd, e_putS, e_putN, e_t, e_c, Nat.reduceEqDiff, ↓reduceIte, reduceCtorEq, Nat.reduceAdd]
          exact ⟨by rw [fE_hit hlt hS (by rw [hfa]; decide), hfa], hB3.app.app⟩
        · rw [if_neg (fun h => hge h.2)] at hfa
          simp (disch := omega) only [sN, ↓reduceIte, Nat.reduceEqDiff, Nat.reduceAdd, Nat.reduceMul, Nat.reduceSub, reduceCtorEq, e_none, e_some, e_bindS, h0, h1, h2, h10, h11, h12]
          refine loop_keep (m := n - (i + 1)) (by omega) ⟨i + 1, rfl, by omega, done hfa, hB3.app.app, ?_, ?_, ?_, ?_, ?_, ?_⟩
          · simp only [e_upd, e_putS, e_putN, e_t, e_c, Nat.reduceEqDiff, ↓reduceIte, reduceCtorEq, Nat.reduceAdd, h0]
          · simp only [e_upd, e_putS, e_putN, e_t, e_c, Nat.reduceEqDiff, ↓reduceIte, reduceCtorEq, Nat.reduceAdd, h1]
          · simp only [e_upd, e_putS, e_putN, e_t, e_c, Nat.reduceEqDiff, ↓reduceIte, reduceCtorEq, Nat.reduceAdd, h2]
          · simp only [e_upd, e_putS, e_putN, e_t, e_c, Nat.reduceEqDiff, ↓reduceIte, reduceCtorEq, Nat.reduceAdd, h10]
          · simp only [e_upd, e_putS, e_putN, e_t, e_c, Nat.reduceEqDiff, ↓reduceIte, reduceCtorEq, Nat.reduceAdd, h11]
          · simp only [e_upd, e_putS, e_putN, e_t, e_c, Nat.reduceEqDiff, ↓reduceIte, reduceCtorEq, Nat.reduceAdd]; first | done | rfl
    · rw [if_neg hz0] at hfa
      simp (disch := omega) only [sN, ↓reduceIte, Nat.reduceEqDiff, Nat.reduceAdd, Nat.reduceMul, Nat.reduceSub, reduceCtorEq, e_none, e_some, e_bindS, h0, h1, h2, h10, h11, h12]
      refine ret_keep hB3.1 ?_
      simp only [rs_firstFaultH, q_tmp, q_then, e_upd, e_putS, e_putN, e_t, e_c, Nat.reduceEqDiff, ↓reduceIte, reduceCtorEq, Nat.reduceAdd]
      exact ⟨by rw [fE_hit hlt hS (by rw [hfa]; exact hz0), hfa], hB3⟩
  · obtain rfl : i = n := by omega
    simp (disch := omega) only [sN, ↓reduceIte, Nat.reduceEqDiff, Nat.reduceAdd, Nat.reduceMul, Nat.reduceSub, reduceCtorEq, e_none, e_some, e_bindS, h10, h11, h12]
    refine ret_keep hB.1 ?_
    simp only [rs_firstFaultH, q_tmp, q_then, e_upd, e_putS, e_putN, e_t, e_c, Nat.reduceEqDiff, ↓reduceIte, reduceCtorEq, Nat.reduceAdd]
    exact ⟨by rw [fE_zero hS], hB⟩

theorem checkHeard_calls (H0 : AHeap) {κ : SK} {n r p q : Nat} {l : List Int} {row rp rq : ARow} {a b : Int} (hk : okS κ n) (hl : l.length = n * 2) (hn : n ≤ maxLen) (hr : Vh.rowAt H0 r = some row) (hcl : row.cells = ints .i64 l)
    (hp : Vh.rowAt H0 p = some rp) (cp : rp.cells = [.int .i64 a]) (hq : Vh.rowAt H0 q = some rq) (cq : rq.cells = [.int .i64 b]) :
    ACalls Try.prog 57 [mkS κ r 0 n, .func 93 [.ptr p 0, .ptr q 0]] H0 (List.range H0.length) fun v H => v = .int .i64 (fE l a b n) ∧ Base H0 H := by
  refine ACalls.body Try.func57 ent_checkHeard ir_checkHeard_ok rs_checkHeard_ok Try.ntmps57 (by simp) rfl ?_
  unfold ir_checkHeard
  have e0 : s0 [mkS κ r 0 n, .func 93 [.ptr p 0, .ptr q 0]] 0 = mkS κ r 0 n := rfl
  have e1 : s0 [mkS κ r 0 n, .func 93 [.ptr p 0, .ptr q 0]] 1 = .func 93 [.ptr p 0, .ptr q 0] := rfl
  simp (disch := omega) only [sN, ↓reduceIte, Nat.reduceEqDiff, Nat.reduceAdd, Nat.reduceMul, Nat.reduceSub, reduceCtorEq, e_none, e_some, e_bindS, e0, e1]
  rw [x_boxF (v := .func 93 [.ptr p 0, .ptr q 0]) (by simp only [e_upd, e_putS, e_putN, e_t, e_c, Nat.reduceEqDiff, ↓reduceIte, reduceCtorEq, Nat.reduceAdd, e1]) rfl]
  have hB : Base H0 (H0 ++ [rw_ [.func 93 [.ptr p 0, .ptr q 0]]]) := Base.one
  simp (disch := omega) only [sN, ↓reduceIte, Nat.reduceEqDiff, Nat.reduceAdd, Nat.reduceMul, Nat.reduceSub, reduceCtorEq, e_none, e_some, e_bindS, e0, e1, p_makeFunc, List.map_cons, List.map_nil]
  refine ⟨_, (firstFaultH_calls (H0 ++ [rw_ [.func 93 [.ptr p 0, .ptr q 0]]]) (c := H0.length) (rc := ⟨true, false, [.func 93 [.ptr p 0, .ptr q 0]]⟩) hk hl hn (hB.row hr) hcl (by simp [Vh.rowAt, rw_]) rfl (hB.row hp) cp (hB.row hq) cq).g.mono ?_⟩
  rintro v H ⟨rfl, hB2⟩
  have hB3 := hB.trans hB2
  simp (disch := omega) only [sN, ↓reduceIte, Nat.reduceEqDiff, Nat.reduceAdd, Nat.reduceMul, Nat.reduceSub, reduceCtorEq, e_none, e_some, e_bindS]
  refine ret_keep hB3.1 ?_
  simp only [rs_checkHeard, q_tmp, q_then, e_upd, e_putS, e_putN, e_t, e_c, Nat.reduceEqDiff, ↓reduceIte, reduceCtorEq, Nat.reduceAdd]
  exact ⟨trivial, hB3⟩
end Go.Proofs.Ythbhljolpnbdlaa


/- Contracts of stage 4: the reference's checks of pulses and announcements; two lists of numbers compared. -/
-- NEWSET
namespace Go.Proofs.Ythbhljolpnbdlaa
open Go Go.Vh

set_option maxHeartbeats 2000000 in
theorem rPulses_calls (H0 : AHeap) {κ : SK} {n r : Nat} {L : List Pul} {row : ARow} (hk : okS κ n) (hl : L.length = n) (hn : n ≤ maxLen) (hr : Vh.rowAt H0 r = some row) (hc : row.cells = pcells L) :
    ACalls Try.prog 59 [mkS κ r 0 n] H0 (List.range H0.length) fun v H => v = .int .i64 (pE L) ∧ H = H0 := by
  refine ACalls.body Try.func59 ent_rPulses ir_rPulses_ok rs_rPulses_ok Try.ntmps59 (by simp) rfl ?_
  unfold ir_rPulses
  have e0 : s0 [mkS κ r 0 n] 0 = mkS κ r 0 n := rfl
  have hn' : (n : Int) ≤ 9223372036854775807 := by unfold maxLen at hn; omega
  by_cases hb : n ≤ 4096
  · simp (disch := omega) only [sN, ↓reduceIte, Nat.reduceEqDiff, Nat.reduceAdd, Nat.reduceMul, Nat.reduceSub, reduceCtorEq, e_none, e_some, e_bindS, e0, k_len hk]
    refine ⟨fun t s H => ∃ i : Nat, t = n - i ∧ i ≤ n ∧ (∀ j, j < i → okP (L.getD j default) = true) ∧ H = H0 ∧ s 0 = mkS κ r 0 n ∧ s 3 = .int .i64 (i : Int), n, ⟨0, rfl, by omega, fun j h => by omega, rfl, ?_, ?_⟩, ?_⟩
    · simp only [e_upd, e_putS, e_putN, e_t, e_c, Nat.reduceEqDiff, ↓reduceIte, reduceCtorEq, Nat.reduceAdd, e0]
    · simp only [e_upd, e_putS, e_putN, e_t, e_c, Nat.reduceEqDiff, ↓reduceIte, reduceCtorEq, Nat.reduceAdd]; rfl
    rintro t s H ⟨i, rfl, hi, hS, hHH, h0, h3⟩
    rw [hHH]
    by_cases hlt : i < n
    · have hil : i < L.length := by omega
      have g0 := pulse_get (L := L) (i := i) (j := 0) hil (by omega)
      have g2 := pulse_get (L := L) (i := i) (j := 2) hil (by omega)
      have g3 := pulse_get (L := L) (i := i) (j := 3) hil (by omega)
      obtain ⟨p, hp⟩ : ∃ p, p = L.getD i default := ⟨_, rfl⟩
      have hp' := hp
      rw [← hp, ← hc] at g0 g2 g3
      obtain ⟨x, bit, c, k, sn⟩ := p
      have g0' : row.cells[i * 5]? = some (.int .i64 x) := g0
      have g2' : row.cells[i * 5 + 2]? = some (.int .i64 c) := g2
      have g3' : row.cells[i * 5 + 3]? = some (.int .i64 k) := g3
      have ia : aindexAddr 5 (mkS κ r 0 n) (.int .i64 (i : Int)) = some (.ptr r (i * 5)) := by
        rw [k_idx5 hk (Nat.le_refl n) (by omega) (by omega)]; simp
      have bad : okP ⟨x, bit, c, k, sn⟩ = false → pE L = 2 := fun h => by
        unfold pE; rw [if_pos (by omega), okPs_false hil (by rw [← hp']; exact h)]; rfl
      by_cases q0 : 0 ≤ x
      · by_cases q1 : x ≤ 1
        · by_cases q2 : 0 ≤ c
          · by_cases q3 : c ≤ 2
            · by_cases q4 : 0 ≤ k
              · by_cases q5 : k ≤ 3
                · simp (disch := omega) only [sN, ↓reduceIte, Nat.reduceEqDiff, Nat.reduceAdd, Nat.reduceMul, Nat.reduceSub, reduceCtorEq, e_none, e_some, e_bindS, h0, h3, k_len hk, ia, p_fieldAddr, Nat.add_zero, hr, g0', g2', g3', Option.bind_some, Option.map_some]
                  refine loop_keep (m := n - (i + 1)) (by omega) ⟨i + 1, rfl, by omega, fun j hj => ?_, rfl, ?_, ?_⟩
                  · rcases Nat.lt_or_ge j i with h | h
                    · exact hS j h
                    · obtain rfl : j = i := by omega
                      rw [← hp']; unfold okP; exact decide_eq_true (by dsimp only; omega)
                  · simp only [e_upd, e_putS, e_putN, e_t, e_c, Nat.reduceEqDiff, ↓reduceIte, reduceCtorEq, Nat.reduceAdd, h0]
                  · simp only [e_upd, e_putS, e_putN, e_t, e_c, Nat.reduceEqDiff, ↓reduceIte, reduceCtorEq, Nat.reduceAdd]; first | done | rfl
                · simp (disch := omega) only [sN, ↓reduceIte, Nat.reduceEqDiff, Nat.reduceAdd, Nat.reduceMul, Nat.reduceSub, reduceCtorEq, e_none, e_some, e_bindS, h0, h3, k_len hk, ia, p_fieldAddr, Nat.add_zero, hr, g0', g2', g3', Option.bind_some, Option.map_some]
                  refine ret_keep (by simp) ⟨?_, rfl⟩
                  rw [bad (by unfold okP; exact decide_eq_false (by dsimp only; omega))]
                  simp only [e_upd, e_putS, e_putN, e_t, e_c, Nat.reduceEqDiff, ↓reduceIte, reduceCtorEq, Nat.reduceAdd]
              · simp (disch := omega) only [sN, ↓reduceIte, Nat.reduceEqDiff, Nat.reduceAdd, Nat.reduceMul, Nat.reduceSub, reduceCtorEq, e_none, e_some, e_bindS, h0, h3, k_len hk, ia, p_fieldAddr, Nat.add_zero, hr, g0', g2', g3', Option.bind_some, Option.map_some]
                refine ret_keep (by simp) ⟨?_, rfl⟩
                rw [bad (by unfold okP; exact decide_eq_false (by dsimp only; omega))]
                simp only [e_upd, e_putS, e_putN, e_t, e_c, Nat.reduceEqDiff, ↓reduceIte, reduceCtorEq, Nat.reduceAdd]
            · simp (disch := omega) only [sN, ↓reduceIte, Nat.reduceEqDiff, Nat.reduceAdd, Nat.reduceMul, Nat.reduceSub, reduceCtorEq, e_none, e_some, e_bindS, h0, h3, k_len hk, ia, p_fieldAddr, Nat.add_zero, hr, g0', g2', g3', Option.bind_some, Option.map_some]
              refine ret_keep (by simp) ⟨?_, rfl⟩
              rw [bad (by unfold okP; exact decide_eq_false (by dsimp only; omega))]
              simp only [e_upd, e_putS, e_putN, e_t, e_c, Nat.reduceEqDiff, ↓reduceIte, reduceCtorEq, Nat.reduceAdd]
          · simp (disch := omega) only [sN, ↓reduceIte, Nat.reduceEqDiff, Nat.reduceAdd, Nat.reduceMul, Nat.reduceSub, reduceCtorEq, e_none, e_some, e_bindS, h0, h3, k_len hk, ia, p_fieldAddr, Nat.add_zero, hr, g0', g2', g3', Option.bind_some, Option.map_some]
            refine ret_keep (by simp) ⟨?_, rfl⟩
            rw [bad (by unfold okP; exact decide_eq_false (by dsimp only; omega))]
            simp only [e_upd, e_putS, e_putN, e_t, e_c, Nat.reduceEqDiff, ↓reduceIte, reduceCtorEq, Nat.reduceAdd]
        · simp (disch := omega) only [sN, ↓reduceIte, Nat.reduceEqDiff, Nat.reduceAdd, Nat.reduceMul, Nat.reduceSub, reduceCtorEq, e_none, e_some, e_bindS, h0, h3, k_len hk, ia, p_fieldAddr, Nat.add_zero, hr, g0', g2', g3', Option.bind_some, Option.map_some]
          refine ret_keep (by simp) ⟨?_, rfl⟩
          rw [bad (by unfold okP; exact decide_eq_false (by dsimp only; omega))]
          simp only [e_upd, e_putS, e_putN, e_t, e_c, Nat.reduceEqDiff, ↓reduceIte, reduceCtorEq, Nat.reduceAdd]
      · simp (disch := omega) only [sN, ↓reduceIte, Nat.reduceEqDiff, Nat.reduceAdd, Nat.reduceMul, Nat.reduceSub, reduceCtorEq, e_none, e_some, e_bindS, h0, h3, k_len hk, ia, p_fieldAddr, Nat.add_zero, hr, g0', g2', g3', Option.bind_some, Option.map_some]
        refine ret_keep (by simp) ⟨?_, rfl⟩
        rw [bad (by unfold okP; exact decide_eq_false (by dsimp only; omega))]
        simp only [e_upd, e_putS, e_putN, e_t, e_c, Nat.reduceEqDiff, ↓reduceIte, reduceCtorEq, Nat.reduceAdd]
    · obtain rfl : i = n := by omega
      have hce : pE L = 0 := by unfold pE; rw [if_pos (by omega), okPs_true (fun j hj => hS j (by omega))]; rfl
      rw [hce]
      simp (disch := omega) only [sN, ↓reduceIte, Nat.reduceEqDiff, Nat.reduceAdd, Nat.reduceMul, Nat.reduceSub, reduceCtorEq, e_none, e_some, e_bindS, h0, h3, k_len hk]
      refine ret_keep (by simp) ⟨?_, rfl⟩
      simp only [e_upd, e_putS, e_putN, e_t, e_c, Nat.reduceEqDiff, ↓reduceIte, reduceCtorEq, Nat.reduceAdd]
  · have hce : pE L = 5 := by simp [pE, hl, hb]
    rw [hce]
    simp (disch := omega) only [sN, ↓reduceIte, Nat.reduceEqDiff, Nat.reduceAdd, Nat.reduceMul, Nat.reduceSub, reduceCtorEq, e_none, e_some, e_bindS, e0, k_len hk]
    refine ret_keep (by simp) ⟨?_, rfl⟩
    simp only [e_upd, e_putS, e_putN, e_t, e_c, Nat.reduceEqDiff, ↓reduceIte, reduceCtorEq, Nat.reduceAdd]

set_option maxHeartbeats 2000000 in
theorem rFault_calls (H0 : AHeap) {κ : SK} {n r : Nat} {l : List Int} {row : ARow} {a t b : Int} (hk : okS κ n) (hl : l.length = n * 2) (hn : n ≤ maxLen) (hr : Vh.rowAt H0 r = some row) (hc : row.cells = ints .i64 l) (ht : b = t + 1) :
    ACalls Try.prog 60 [mkS κ r 0 n, .int .i64 a, .int .i64 t] H0 (List.range H0.length) fun v H => v = .int .i64 (fE l a b n) ∧ H = H0 := by
  refine ACalls.body Try.func60 ent_rFault ir_rFault_ok rs_rFault_ok Try.ntmps60 (by simp) rfl ?_
  unfold ir_rFault
  have e0 : s0 [mkS κ r 0 n, .int .i64 a, .int .i64 t] 0 = mkS κ r 0 n := rfl
  have e1 : s0 [mkS κ r 0 n, .int .i64 a, .int .i64 t] 1 = .int .i64 a := rfl
  have e2 : s0 [mkS κ r 0 n, .int .i64 a, .int .i64 t] 2 = .int .i64 t := rfl
  have hn' : (n : Int) ≤ 9223372036854775807 := by unfold maxLen at hn; omega
  simp (disch := omega) only [sN, ↓reduceIte, Nat.reduceEqDiff, Nat.reduceAdd, Nat.reduceMul, Nat.reduceSub, reduceCtorEq, e_none, e_some, e_bindS, e0, e1, e2, k_len hk]
  refine ⟨fun m s H => ∃ i : Nat, m = n - i ∧ i ≤ n ∧ (∀ j, j < i → fA l a b j = 0) ∧ H = H0 ∧ s 0 = mkS κ r 0 n ∧ s 1 = .int .i64 a ∧ s 2 = .int .i64 t ∧ s 7 = .int .i64 (i : Int), n, ⟨0, rfl, by omega, fun j h => by omega, rfl, ?_, ?_, ?_, ?_⟩, ?_⟩
  · simp only [e_upd, e_putS, e_putN, e_t, e_c, Nat.reduceEqDiff, ↓reduceIte, reduceCtorEq, Nat.reduceAdd, e0]
  · simp only [e_upd, e_putS, e_putN, e_t, e_c, Nat.reduceEqDiff, ↓reduceIte, reduceCtorEq, Nat.reduceAdd, e1]
  · simp only [e_upd, e_putS, e_putN, e_t, e_c, Nat.reduceEqDiff, ↓reduceIte, reduceCtorEq, Nat.reduceAdd, e2]
  · simp only [e_upd, e_putS, e_putN, e_t, e_c, Nat.reduceEqDiff, ↓reduceIte, reduceCtorEq, Nat.reduceAdd]; rfl
  rintro m s H ⟨i, rfl, hi, hS, hHH, h0, h1, h2, h7⟩
  rw [hHH]
  by_cases hlt : i < n
  · have hcb := pair_b hl hlt
    have hck := pair_k hl hlt
    rw [← hc] at hcb hck
    obtain ⟨x, hx⟩ : ∃ x, x = cb l i := ⟨_, rfl⟩
    obtain ⟨y, hy⟩ : ∃ y, y = ck l i := ⟨_, rfl⟩
    have hfa : fA l a b i = if hE a b x y = 0 then (if 0 < i ∧ cb l (i - 1) ≥ x then 6 else 0) else hE a b x y := by unfold fA; rw [← hx, ← hy]
    rw [← hx] at hcb; rw [← hy] at hck
    have ia : aindexAddr 2 (mkS κ r 0 n) (.int .i64 (i : Int)) = some (.ptr r (i * 2)) := by
      rw [k_idx2 hk (Nat.le_refl n) (by omega) (by omega)]; simp
    have bad : ∀ e : Int, hE a b x y = e → e ≠ 0 → fE l a b n = e := fun e h1 h2 => by
      have : fA l a b i = e := by rw [hfa, if_neg (by rw [h1]; exact h2), h1]
      rw [fE_hit hlt hS (by rw [this]; exact h2), this]
    have done : fA l a b i = 0 → ∀ j, j < i + 1 → fA l a b j = 0 := fun h j hj => by
      rcases Nat.lt_or_ge j i with h' | h'
      · exact hS j h'
      · obtain rfl : j = i := by omega
        exact h
    by_cases q0 : a ≤ x
    · by_cases q1 : x ≤ t
      · by_cases q2 : 0 ≤ y
        · by_cases q3 : y ≤ 1
          · have hz : hE a b x y = 0 := by unfold hE; rw [if_pos (by omega), if_pos (by omega)]
            rw [if_pos hz] at hfa
            by_cases hi0 : i = 0
            · rw [if_neg (by omega)] at hfa
              simp (disch := omega) only [sN, ↓reduceIte, Nat.reduceEqDiff, Nat.reduceAdd, Nat.reduceMul, Nat.reduceSub, reduceCtorEq, e_none, e_some, e_bindS, h0, h1, h2, h7, k_len hk, ia, p_fieldAddr, Nat.add_zero, hr, hcb, hck, Option.bind_some, Option.map_some]
              refine loop_keep (m := n - (i + 1)) (by omega) ⟨i + 1, rfl, by omega, done hfa, rfl, ?_, ?_, ?_, ?_⟩
              · simp only [e_upd, e_putS, e_putN, e_t, e_c, Nat.reduceEqDiff, ↓reduceIte, reduceCtorEq, Nat.reduceAdd, h0]
              · simp only [e_upd, e_putS, e_putN, e_t, e_c, Nat.reduceEqDiff, ↓reduceIte, reduceCtorEq, Nat.reduceAdd, h1]
              · simp only [e_upd, e_putS, e_putN, e_t, e_c, Nat.reduceEqDiff, ↓reduceIte, reduceCtorEq, Nat.reduceAdd, h2]
              · simp only [e_upd, e_putS, e_putN, e_t, e_c, Nat.reduceEqDiff, ↓reduceIte, reduceCtorEq, Nat.reduceAdd]; first | done | rfl
            · have hcz := pair_b hl (show i - 1 < n by omega)
              rw [← hc] at hcz
              obtain ⟨z, hzz⟩ : ∃ z, z = cb l (i - 1) := ⟨_, rfl⟩
              rw [← hzz] at hcz hfa
              have ib : aindexAddr 2 (mkS κ r 0 n) (.int .i64 ((i : Int) - 1)) = some (.ptr r ((i - 1) * 2)) := by
                rw [show (i : Int) - 1 = ((i - 1 : Nat) : Int) by omega, k_idx2 hk (Nat.le_refl n) (by omega) (by omega)]; simp
              by_cases hge : z ≥ x
              · rw [if_pos ⟨by omega, hge⟩] at hfa
                simp (disch := omega) only [sN, ↓reduceIte, Nat.reduceEqDiff, Nat.reduceAdd, Nat.reduceMul, Nat.reduceSub, reduceCtorEq, e_none, e_some, e_bindS, h0, h1, h2, h7, k_len hk, ia, ib, p_fieldAddr, Nat.add_zero, hr, hcb, hck, hcz, Option.bind_some, Option.map_some]
                refine ret_keep (by simp) ⟨?_, rfl⟩
                rw [fE_hit hlt hS (by rw [hfa]; decide), hfa]
                simp only [e_upd, e_putS, e_putN, e_t, e_c, Nat.reduceEqDiff, ↓reduceIte, reduceCtorEq, Nat.reduceAdd]
              · rw [if_neg (fun h => hge h.2)] at hfa
                simp (disch := omega) only [sN, ↓reduceIte, Nat.reduceEqDiff, Nat.reduceAdd, Nat.reduceMul, Nat.reduceSub, reduceCtorEq, e_none, e_some, e_bindS, h0, h1, h2, h7, k_len hk, ia, ib, p_fieldAddr, Nat.add_zero, hr, hcb, hck, hcz, Option.bind_some, Option.map_some]
                refine loop_keep (m := n - (i + 1)) (by omega) ⟨i + 1, rfl, by omega, done hfa, rfl, ?_, ?_, ?_, ?_⟩
                · simp only [e_upd, e_putS, e_putN, e_t, e_c, Nat.reduceEqDiff, ↓reduceIte, reduceCtorEq, Nat.reduceAdd, h0]
                · simp only [e_upd, e_putS, e_putN, e_t, e_c, Nat.reduceEqDiff, ↓reduceIte, reduceCtorEq, Nat.reduceAdd, h1]
                · simp only [e_upd, e_putS, e_putN, e_t, e_c, Nat.reduceEqDiff, ↓reduceIte, reduceCtorEq, Nat.reduceAdd, h2]
                · simp only [e_upd, e_putS, e_putN, e_t, e_c, Nat.reduceEqDiff, ↓reduceIte, reduceCtorEq, Nat.reduceAdd]; first | done | rfl
          · simp (disch := omega) only [sN, ↓reduceIte, Nat.reduceEqDiff, Nat.reduceAdd, Nat.reduceMul, Nat.reduceSub, reduceCtorEq, e_none, e_some, e_bindS, h0, h1, h2, h7, k_len hk, ia, p_fieldAddr, Nat.add_zero, hr, hcb, hck, Option.bind_some, Option.map_some]
            refine ret_keep (by simp) ⟨?_, rfl⟩
            rw [bad 2 (by unfold hE; rw [if_pos (by omega), if_neg (by omega)]) (by decide)]
            simp only [e_upd, e_putS, e_putN, e_t, e_c, Nat.reduceEqDiff, ↓reduceIte, reduceCtorEq, Nat.reduceAdd]
        · simp (disch := omega) only [sN, ↓reduceIte, Nat.reduceEqDiff, Nat.reduceAdd, Nat.reduceMul, Nat.reduceSub, reduceCtorEq, e_none, e_some, e_bindS, h0, h1, h2, h7, k_len hk, ia, p_fieldAddr, Nat.add_zero, hr, hcb, hck, Option.bind_some, Option.map_some]
          refine ret_keep (by simp) ⟨?_, rfl⟩
          rw [bad 2 (by unfold hE; rw [if_pos (by omega), if_neg (by omega)]) (by decide)]
          simp only [e_upd, e_putS, e_putN, e_t, e_c, Nat.reduceEqDiff, ↓reduceIte, reduceCtorEq, Nat.reduceAdd]
      · simp (disch := omega) only [sN, ↓reduceIte, Nat.reduceEqDiff, Nat.reduceAdd, Nat.reduceMul, Nat.reduceSub, reduceCtorEq, e_none, e_some, e_bindS, h0, h1, h2, h7, k_len hk, ia, p_fieldAddr, Nat.add_zero, hr, hcb, hck, Option.bind_some, Option.map_some]
        refine ret_keep (by simp) ⟨?_, rfl⟩
        rw [bad 3 (by unfold hE; rw [if_neg (by omega)]) (by decide)]
        simp only [e_upd, e_putS, e_putN, e_t, e_c, Nat.reduceEqDiff, ↓reduceIte, reduceCtorEq, Nat.reduceAdd]
    · simp (disch := omega) only [sN, ↓reduceIte, Nat.reduceEqDiff, Nat.reduceAdd, Nat.reduceMul, Nat.reduceSub, reduceCtorEq, e_none, e_some, e_bindS, h0, h1, h2, h7, k_len hk, ia, p_fieldAddr, Nat.add_zero, hr, hcb, hck, Option.bind_some, Option.map_some]
      refine ret_keep (by simp) ⟨?_, rfl⟩
      rw [bad 3 (by unfold hE; rw [if_neg (by omega)]) (by decide)]
      simp only [e_upd, e_putS, e_putN, e_t, e_c, Nat.reduceEqDiff, ↓reduceIte, reduceCtorEq, Nat.reduceAdd]
  · obtain rfl : i = n := by omega
    rw [fE_zero hS]
    simp (disch := omega) only [sN, ↓reduceIte, Nat.reduceEqDiff, Nat.reduceAdd, Nat.reduceMul, Nat.reduceSub, reduceCtorEq, e_none, e_some, e_bindS, h0, h1, h2, h7, k_len hk]
    refine ret_keep (by simp) ⟨?_, rfl⟩
    simp only [e_upd, e_putS, e_putN, e_t, e_c, Nat.reduceEqDiff, ↓reduceIte, reduceCtorEq, Nat.reduceAdd]

/-- the numbers that were appended -/
def Gs (H0 H : AHeap) (v : AV) (xs : List Int) : Prop := (xs = [] ∧ v = .nilslice) ∨ ∃ q, 0 < xs.length ∧ v = .sliceU q 0 xs.length 1 ∧ H0.length ≤ q ∧ Vh.rowAt H q = some ⟨true, true, ints .i64 xs⟩
theorem Gs.base {H0 H H' : AHeap} {v : AV} {l : List Int} (h : Gs H0 H v l) (hb : Base H H') : Gs H0 H' v l := by
  rcases h with h | ⟨q, h1, h2, h3, h4⟩
  · exact .inl h
  · exact .inr ⟨q, h1, h2, h3, hb.row h4⟩
theorem x_appGs {H0 H : AHeap} {v : AV} {xs : List Int} {a : Int} {r c : Nat} {row : ARow} (hv : Gs H0 H v xs) (hr : Vh.rowAt H r = some row) (hc : row.cells = ints .i64 [a]) (hn : xs.length ≤ 100000) (hb : Base H0 H) :
    ∃ v' H', (∀ (s : St) (x y : Opd), evo s x = v → evo s y = .slice r 0 1 c → ieff (.append 1 8 x y) s H = some (v', H')) ∧ Gs H0 H' v' (xs ++ [a]) ∧ Base H0 H' ∧ ∀ r row, Vh.rowAt H r = some row → row.slack = false → Vh.rowAt H' r = some row := by
  rcases hv with ⟨rfl, rfl⟩ | ⟨q, h1, rfl, h4, h5⟩
  · refine ⟨.sliceU H.length 0 1 1, H ++ [sl (ints .i64 [a])], fun s x y hx hy => ?_, .inr ⟨H.length, by simp, rfl, hb.1, by simp [Vh.rowAt, sl]⟩, hb.app, fun r row hr _ => Base.one.row hr⟩
    exact x_appN hx hy hr (by rw [hc]; rfl) (by rw [hc]; simp [ints]) (by omega) rfl
  · refine ⟨.sliceU H.length 0 (xs.length + 1) 1, H.set q none ++ [sl (ints .i64 (xs ++ [a]))], fun s x y hx hy => ?_, .inr ⟨H.length, by simp, by simp, hb.1, ?_⟩, (hb.set h4).app, fun r row hr hs => ?_⟩
    · have := x_appU (bytes := 8) (xs := ints .i64 [a]) hx hy h5 (by rw [ints_length]) hr (by rw [hc]; rfl) (by rw [hc]; simp [ints]) (by omega) rfl
      rw [this]
      simp [ints]
    · rw [row_new]; rfl
    · rw [rowAt_append_left (by rw [List.length_set]; exact rowAt_lt hr), row_other0 (fun e => by subst e; rw [hr] at h5; cases h5; cases hs)]
      exact hr

set_option maxHeartbeats 1000000 in
theorem ints_calls (H0 : AHeap) {B1 B2 : AHeap} {v v' : AV} {l : List Int} (h1 : Gs B1 H0 v l) (h2 : Gs B2 H0 v' l) (hlen : l.length ≤ 100000) :
    ACalls Try.prog 23 [v, v'] H0 (List.range H0.length) fun w H => w = .bool true ∧ H = H0 := by
  refine ACalls.body Try.func23 ent_ints ir_ints_ok rs_ints_ok Try.ntmps23 (by simp) rfl ?_
  unfold ir_ints
  have e0 : s0 [v, v'] 0 = v := rfl
  have e1 : s0 [v, v'] 1 = v' := rfl
  rcases h1 with ⟨rfl, rfl⟩ | ⟨q, a1, rfl, a4, a5⟩
  · rcases h2 with ⟨_, rfl⟩ | ⟨q', b1, rfl, b4, b5⟩
    · simp (disch := omega) only [sN, ↓reduceIte, Nat.reduceEqDiff, Nat.reduceAdd, Nat.reduceMul, Nat.reduceSub, reduceCtorEq, e_none, e_some, e_bindS, e0, e1]
      refine ⟨fun t s H => H = H0 ∧ s 0 = .nilslice ∧ s 5 = .int .i64 0, 0, ⟨rfl, ?_, ?_⟩, ?_⟩
      · simp only [e_upd, e_putS, e_putN, e_t, e_c, Nat.reduceEqDiff, ↓reduceIte, reduceCtorEq, Nat.reduceAdd, e0]
      · simp only [e_upd, e_putS, e_putN, e_t, e_c, Nat.reduceEqDiff, ↓reduceIte, reduceCtorEq, Nat.reduceAdd]
      rintro t s H ⟨hH, h0, h5⟩
      rw [hH]
      simp (disch := omega) only [sN, ↓reduceIte, Nat.reduceEqDiff, Nat.reduceAdd, Nat.reduceMul, Nat.reduceSub, reduceCtorEq, e_none, e_some, e_bindS, h0, h5]
      refine ret_keep (by simp) ⟨?_, rfl⟩
      simp only [e_upd, e_putS, e_putN, e_t, e_c, Nat.reduceEqDiff, ↓reduceIte, reduceCtorEq, Nat.reduceAdd]
    · simp at b1
  · rcases h2 with ⟨rfl, _⟩ | ⟨q', b1, rfl, b4, b5⟩
    · simp at a1
    obtain ⟨n, hn⟩ : ∃ n, n = l.length := ⟨_, rfl⟩
    rw [← hn] at a1 hlen e0 e1 ⊢
    simp (disch := omega) only [sN, ↓reduceIte, Nat.reduceEqDiff, Nat.reduceAdd, Nat.reduceMul, Nat.reduceSub, reduceCtorEq, e_none, e_some, e_bindS, e0, e1]
    refine ⟨fun t s H => ∃ i : Nat, t = n - i ∧ i ≤ n ∧ H = H0 ∧ s 0 = .sliceU q 0 n 1 ∧ s 1 = .sliceU q' 0 n 1 ∧ s 5 = .int .i64 (i : Int), n, ⟨0, rfl, by omega, rfl, ?_, ?_, ?_⟩, ?_⟩
    · simp only [e_upd, e_putS, e_putN, e_t, e_c, Nat.reduceEqDiff, ↓reduceIte, reduceCtorEq, Nat.reduceAdd, e0]
    · simp only [e_upd, e_putS, e_putN, e_t, e_c, Nat.reduceEqDiff, ↓reduceIte, reduceCtorEq, Nat.reduceAdd, e1]
    · simp only [e_upd, e_putS, e_putN, e_t, e_c, Nat.reduceEqDiff, ↓reduceIte, reduceCtorEq, Nat.reduceAdd]; rfl
    rintro t s H ⟨i, rfl, hi, hH, h0, h1, h5⟩
    rw [hH]
    by_cases hlt : i < n
    · have hg : (ints .i64 l)[i]? = some (.int .i64 (l.getD i 0)) := ints_get (by omega)
      have ia : aindexAddr 1 (.sliceU q 0 n 1) (.int .i64 (i : Int)) = some (.ptr q i) := by
        rw [a_idxU (by omega) (by omega)]; simp
      have ib : aindexAddr 1 (.sliceU q' 0 n 1) (.int .i64 (i : Int)) = some (.ptr q' i) := by
        rw [a_idxU (by omega) (by omega)]; simp
      simp (disch := omega) only [sN, ↓reduceIte, Nat.reduceEqDiff, Nat.reduceAdd, Nat.reduceMul, Nat.reduceSub, reduceCtorEq, e_none, e_some, e_bindS, h0, h1, h5, ia, ib, a5, b5, hg, Option.bind_some]
      refine loop_keep (m := n - (i + 1)) (by omega) ⟨i + 1, rfl, by omega, rfl, ?_, ?_, ?_⟩
      · simp only [e_upd, e_putS, e_putN, e_t, e_c, Nat.reduceEqDiff, ↓reduceIte, reduceCtorEq, Nat.reduceAdd, h0]
      · simp only [e_upd, e_putS, e_putN, e_t, e_c, Nat.reduceEqDiff, ↓reduceIte, reduceCtorEq, Nat.reduceAdd, h1]
      · simp only [e_upd, e_putS, e_putN, e_t, e_c, Nat.reduceEqDiff, ↓reduceIte, reduceCtorEq, Nat.reduceAdd]; first | done | rfl
    · obtain rfl : i = n := by omega
      simp (disch := omega) only [sN, ↓reduceIte, Nat.reduceEqDiff, Nat.reduceAdd, Nat.reduceMul, Nat.reduceSub, reduceCtorEq, e_none, e_some, e_bindS, h0, h1, h5]
      refine ret_keep (by simp) ⟨?_, rfl⟩
      simp only [e_upd, e_putS, e_putN, e_t, e_c, Nat.reduceEqDiff, ↓reduceIte, reduceCtorEq, Nat.reduceAdd]
end Go.Proofs.Ythbhljolpnbdlaa

