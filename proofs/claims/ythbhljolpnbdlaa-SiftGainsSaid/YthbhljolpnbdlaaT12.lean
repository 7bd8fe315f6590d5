/- Contracts of stage 4: Agree, Agreement. -/
import Derived.Test.YthbhljolpnbdlaaVX
import Derived.Test.YthbhljolpnbdlaaTD
set_option linter.unusedSimpArgs false
set_option linter.unusedVariables false
-- NEWSET
namespace Go.Proofs.Ythbhljolpnbdlaa
open Go Go.Vh

theorem x_bs1v {s : St} {H : AHeap} {x : Opd} {z v : AV} (h : evo s x = v) (hc : v.cell = true) : ieff (.buildSlice 1 [z] [(0, (1, x))]) s H = some (.slice H.length 0 1 1, H ++ [rw_ [v]]) := by
  simp [ieff, h, afill, aparts_cell, hc, anew, rw_]

def AnsG (H0 : AHeap) (L : List Pul) (l : List Int) (m : Nat) (sh : Int) (v : AV) (H : AHeap) : Prop :=
  ∃ a b, v = .tuple [a, b, .int .i64 (if -16 ≤ sh ∧ sh ≤ 16 then 0 else 3)] ∧ Base H0 H ∧ ((-16 ≤ sh ∧ sh ≤ 16) → (∃ q, G1 H0 H q a (cntB (agI L l m sh) L.length)) ∧ ∃ q, G1 H0 H q b (cntB (wrI L l m sh) L.length))

set_option maxHeartbeats 4000000 in
theorem agreeG_calls (H0 : AHeap) {κ κ' : SK} {n m r r' : Nat} {L : List Pul} {l : List Int} {row row' : ARow} {sh : Int} (hk : okS κ n) (hl : L.length = n) (hn : n ≤ 4096) (hr : Vh.rowAt H0 r = some row) (hc : row.cells = pcells L) (hok : L.all okP = true)
    (hk' : okS κ' m) (hl' : l.length = m * 2) (hm : m ≤ 4096) (hr' : Vh.rowAt H0 r' = some row') (hc' : row'.cells = ints .i64 l) (hok' : okCs l m = true) :
    ACalls Try.prog 47 [mkS κ r 0 n, mkS κ' r' 0 m, .int .i64 sh] H0 (List.range H0.length) (AnsG H0 L l m sh) := by
  refine ACalls.body Try.func47 ent_agreeF ir_agreeF_ok rs_agreeF_ok Try.ntmps47 (by simp) rfl ?_
  unfold ir_agreeF
  have e0 : s0 [mkS κ r 0 n, mkS κ' r' 0 m, .int .i64 sh] 0 = mkS κ r 0 n := rfl
  have e1 : s0 [mkS κ r 0 n, mkS κ' r' 0 m, .int .i64 sh] 1 = mkS κ' r' 0 m := rfl
  have e2 : s0 [mkS κ r 0 n, mkS κ' r' 0 m, .int .i64 sh] 2 = .int .i64 sh := rfl
  have hz : [AV.int .i64 0, AV.bool false, AV.int .i64 0, AV.int .i64 0, AV.bool false].all AV.cell = true := rfl
  simp (disch := omega) only [sN, ↓reduceIte, Nat.reduceEqDiff, Nat.reduceAdd, Nat.reduceMul, Nat.reduceSub, reduceCtorEq, e_none, e_some, e_bindS, e0, e1, e2, List.map_cons, List.map_nil]
  refine ⟨_, (isShift_calls _ sh).g.mono ?_⟩
  rintro v H ⟨rfl, hH⟩
  rw [hH]
  by_cases hs : -16 ≤ sh ∧ sh ≤ 16
  · rw [decide_eq_true hs]
    simp (disch := omega) only [sN, ↓reduceIte, Nat.reduceEqDiff, Nat.reduceAdd, Nat.reduceMul, Nat.reduceSub, reduceCtorEq, e_none, e_some, e_bindS, e0, e1, e2, k_len hk, k_len hk', List.map_cons, List.map_nil]
    refine ⟨_, (allPs_calls H0 hk hl hn hr hc).g.mono ?_⟩
    rintro v H1 ⟨rfl, hB1⟩
    rw [hok]
    simp (disch := omega) only [sN, ↓reduceIte, Nat.reduceEqDiff, Nat.reduceAdd, Nat.reduceMul, Nat.reduceSub, reduceCtorEq, e_none, e_some, e_bindS, e0, e1, e2, List.map_cons, List.map_nil]
    refine ⟨_, (allC_calls H1 hk' hl' hm (hB1.row hr') hc').g.mono ?_⟩
    rintro v H2 ⟨rfl, hB2⟩
    rw [hok']
    have hB := hB1.trans hB2
    clear hB1 hB2
    simp (disch := omega) only [sN, ↓reduceIte, Nat.reduceEqDiff, Nat.reduceAdd, Nat.reduceMul, Nat.reduceSub, reduceCtorEq, e_none, e_some, e_bindS, e0, e1, e2, k_len hk]
    refine ⟨fun t s H => ∃ i q1 q2 : Nat, t = n - i ∧ i ≤ n ∧ Base H0 H ∧ q1 ≠ q2 ∧ G1 H0 H q1 (s 9) (cntB (agI L l m sh) i) ∧ G1 H0 H q2 (s 10) (cntB (wrI L l m sh) i) ∧ s 1 = mkS κ' r' 0 m ∧ s 2 = .int .i64 sh ∧ s 36 = mkS κ r 0 n ∧ s 37 = .int .i64 n ∧ s 38 = .int .i64 (i : Int), n, ⟨0, 0, 1, rfl, by omega, hB, by omega, .inl ⟨rfl, ?_⟩, .inl ⟨rfl, ?_⟩, ?_, ?_, ?_, ?_, ?_⟩, ?_⟩
    · simp only [e_upd, e_putS, e_putN, e_t, e_c, Nat.reduceEqDiff, ↓reduceIte, reduceCtorEq, Nat.reduceAdd]
    · simp only [e_upd, e_putS, e_putN, e_t, e_c, Nat.reduceEqDiff, ↓reduceIte, reduceCtorEq, Nat.reduceAdd]
    · simp only [e_upd, e_putS, e_putN, e_t, e_c, Nat.reduceEqDiff, ↓reduceIte, reduceCtorEq, Nat.reduceAdd, e1]
    · simp only [e_upd, e_putS, e_putN, e_t, e_c, Nat.reduceEqDiff, ↓reduceIte, reduceCtorEq, Nat.reduceAdd, e2]
    · simp only [e_upd, e_putS, e_putN, e_t, e_c, Nat.reduceEqDiff, ↓reduceIte, reduceCtorEq, Nat.reduceAdd]
    · simp only [e_upd, e_putS, e_putN, e_t, e_c, Nat.reduceEqDiff, ↓reduceIte, reduceCtorEq, Nat.reduceAdd]
    · simp only [e_upd, e_putS, e_putN, e_t, e_c, Nat.reduceEqDiff, ↓reduceIte, reduceCtorEq, Nat.reduceAdd]; rfl
    clear hB
    rintro t s H ⟨i, q1, q2, rfl, hi, hB, hq, g1, g2, h1, h2, h36, h37, h38⟩
    have next : ∀ (s' : St) (H' : AHeap) (p1 p2 : Nat), Base H0 H' → p1 ≠ p2 → G1 H0 H' p1 (s' 9) (cntB (agI L l m sh) (i + 1)) → G1 H0 H' p2 (s' 10) (cntB (wrI L l m sh) (i + 1)) → i < n → s' 1 = mkS κ' r' 0 m → s' 2 = .int .i64 sh → s' 36 = mkS κ r 0 n → s' 37 = .int .i64 n → s' 38 = .int .i64 ((i : Int) + 1) →
        loopPost H0.length (fun t s H => ∃ i q1 q2 : Nat, t = n - i ∧ i ≤ n ∧ Base H0 H ∧ q1 ≠ q2 ∧ G1 H0 H q1 (s 9) (cntB (agI L l m sh) i) ∧ G1 H0 H q2 (s 10) (cntB (wrI L l m sh) i) ∧ s 1 = mkS κ' r' 0 m ∧ s 2 = .int .i64 sh ∧ s 36 = mkS κ r 0 n ∧ s 37 = .int .i64 n ∧ s 38 = .int .i64 (i : Int)) (n - i) s' H' := fun s' H' p1 p2 u1 u2 u3 u4 u5 u6 u7 u8 u9 u10 =>
      loop_keep (m := n - (i + 1)) (by omega) ⟨i + 1, p1, p2, rfl, by omega, u1, u2, u3, u4, u6, u7, u8, u9, by rw [u10]; rfl⟩
    by_cases hlt : i < n
    · obtain ⟨c1, c2⟩ := pulse_at (L := L) (i := i) (by omega)
      obtain ⟨p, hp⟩ : ∃ p, p = L.getD i default := ⟨_, rfl⟩
      rw [← hp] at c1
      have hrH := hB.row hr
      have hrH' := hB.row hr'
      have ia : aindexAddr 5 (mkS κ r 0 n) (.int .i64 (i : Int)) = some (.ptr r (i * 5)) := by
        rw [k_idx5 hk (Nat.le_refl n) (by omega) (by omega)]; simp
      simp (disch := omega) only [sN, ↓reduceIte, Nat.reduceEqDiff, Nat.reduceAdd, Nat.reduceMul, Nat.reduceSub, reduceCtorEq, e_none, e_some, e_bindS, h1, h2, h36, h37, h38, ia]
      rw [x_loadNO (n := 5) (r := r) (off := i * 5) (l := pcell p) (by simp only [e_upd, e_putS, e_putN, e_t, e_c, Nat.reduceEqDiff, ↓reduceIte, reduceCtorEq, Nat.reduceAdd]) hrH (by rw [hc]; exact c1) (by rw [hc]; exact c2)]
      simp (disch := omega) only [sN, ↓reduceIte, Nat.reduceEqDiff, Nat.reduceAdd, Nat.reduceMul, Nat.reduceSub, reduceCtorEq, e_none, e_some, e_bindS, h1, h2, h36, h37, h38]
      rw [x_allocA hz]
      simp (disch := omega) only [sN, ↓reduceIte, Nat.reduceEqDiff, Nat.reduceAdd, Nat.reduceMul, Nat.reduceSub, reduceCtorEq, e_none, e_some, e_bindS, h1, h2, h36, h37, h38]
      rw [x_storeNA (n := 5) (r := H.length) (l := [.int .i64 0, .bool false, .int .i64 0, .int .i64 0, .bool false]) (l' := pcell p) (by simp only [e_upd, e_putS, e_putN, e_t, e_c, Nat.reduceEqDiff, ↓reduceIte, reduceCtorEq, Nat.reduceAdd]) (by simp only [e_upd, e_putS, e_putN, e_t, e_c, Nat.reduceEqDiff, ↓reduceIte, reduceCtorEq, Nat.reduceAdd]) pcell_cell (by simp [Vh.rowAt, rw_]) rfl rfl]
      rw [set_last]
      have hb : Vh.rowAt (H ++ [rw_ (pcell p)]) H.length = some ⟨true, false, pcell p⟩ := by simp [Vh.rowAt, rw_]
      have no : ¬ (0 ≤ (i : Int) + sh ∧ (i : Int) + sh < m) → cntB (agI L l m sh) (i + 1) = cntB (agI L l m sh) i ∧ cntB (wrI L l m sh) (i + 1) = cntB (wrI L l m sh) i := fun h => by
        simp [cntB, wrI, agI, h]
      by_cases hx0 : 0 ≤ (i : Int) + sh
      · by_cases hx1 : (i : Int) + sh < m
        · obtain ⟨j, hj⟩ : ∃ j : Nat, (j : Int) = (i : Int) + sh := ⟨((i : Int) + sh).toNat, by omega⟩
          have hjm : j < m := by omega
          have hjn : ((i : Int) + sh).toNat = j := by omega
          obtain ⟨d1, d2⟩ := pair_at hl' hjm
          have hck := pair_k hl' hjm
          rw [← hc'] at hck
          have ib : aindexAddr 2 (mkS κ' r' 0 m) (.int .i64 ((i : Int) + sh)) = some (.ptr r' (j * 2)) := by
            rw [← hj, k_idx2 hk' (Nat.le_refl m) (by omega) (by omega)]; simp
          have hag : agI L l m sh i = ag1 p (cb l j) (ck l j) := by
            unfold agI; rw [decide_eq_true ⟨hx0, hx1⟩, hjn, hp, Bool.true_and]
          simp (disch := omega) only [sN, ↓reduceIte, Nat.reduceEqDiff, Nat.reduceAdd, Nat.reduceMul, Nat.reduceSub, reduceCtorEq, e_none, e_some, e_bindS, h1, h2, h36, h37, h38, k_len hk', ib]
          rw [x_loadNA (n := 5) (r := H.length) (l := pcell p) (by simp only [e_upd, e_putS, e_putN, e_t, e_c, Nat.reduceEqDiff, ↓reduceIte, reduceCtorEq, Nat.reduceAdd]) hb rfl rfl]
          simp (disch := omega) only [sN, ↓reduceIte, Nat.reduceEqDiff, Nat.reduceAdd, Nat.reduceMul, Nat.reduceSub, reduceCtorEq, e_none, e_some, e_bindS, h1, h2, h36, h37, h38, k_len hk', ib]
          rw [x_loadNO (n := 2) (r := r') (off := j * 2) (l := [.int .i64 (cb l j), .int .i64 (ck l j)]) (by simp only [e_upd, e_putS, e_putN, e_t, e_c, Nat.reduceEqDiff, ↓reduceIte, reduceCtorEq, Nat.reduceAdd]) (Base.one.row hrH') (by rw [hc']; exact d1) (by rw [hc']; exact d2)]
          simp (disch := omega) only [sN, ↓reduceIte, Nat.reduceEqDiff, Nat.reduceAdd, Nat.reduceMul, Nat.reduceSub, reduceCtorEq, e_none, e_some, e_bindS, h1, h2, h36, h37, h38, List.map_cons, List.map_nil]
          refine ⟨_, (agree1_calls (H ++ [rw_ (pcell p)]) p (cb l j) (ck l j)).g.mono ?_⟩
          rintro v H3 ⟨rfl, hB3⟩
          have hB3' := hB.app.trans hB3
          have hb3 := hB3.row hb
          have g13 := (g1.base (Base.one (R := [rw_ (pcell p)]))).base hB3
          have g23 := (g2.base (Base.one (R := [rw_ (pcell p)]))).base hB3
          cases hv : ag1 p (cb l j) (ck l j)
          · rw [hv] at hag
            have s1 : cntB (agI L l m sh) (i + 1) = cntB (agI L l m sh) i := by simp [cntB, hag]
            have s2 : cntB (wrI L l m sh) (i + 1) = cntB (wrI L l m sh) i := by simp [cntB, wrI, hag]
            simp (disch := omega) only [sN, ↓reduceIte, Nat.reduceEqDiff, Nat.reduceAdd, Nat.reduceMul, Nat.reduceSub, reduceCtorEq, e_none, e_some, e_bindS, h1, h2, h36, h37, h38]
            refine next _ _ q1 q2 hB3' hq ?_ ?_ hlt ?_ ?_ ?_ ?_ ?_
            · rw [s1]; simp only [e_upd, e_putS, e_putN, e_t, e_c, Nat.reduceEqDiff, ↓reduceIte, reduceCtorEq, Nat.reduceAdd]; exact g13
            · rw [s2]; simp only [e_upd, e_putS, e_putN, e_t, e_c, Nat.reduceEqDiff, ↓reduceIte, reduceCtorEq, Nat.reduceAdd]; exact g23
            · simp only [e_upd, e_putS, e_putN, e_t, e_c, Nat.reduceEqDiff, ↓reduceIte, reduceCtorEq, Nat.reduceAdd, h1]
            · simp only [e_upd, e_putS, e_putN, e_t, e_c, Nat.reduceEqDiff, ↓reduceIte, reduceCtorEq, Nat.reduceAdd, h2]
            · simp only [e_upd, e_putS, e_putN, e_t, e_c, Nat.reduceEqDiff, ↓reduceIte, reduceCtorEq, Nat.reduceAdd, h36]
            · simp only [e_upd, e_putS, e_putN, e_t, e_c, Nat.reduceEqDiff, ↓reduceIte, reduceCtorEq, Nat.reduceAdd, h37]
            · simp only [e_upd, e_putS, e_putN, e_t, e_c, Nat.reduceEqDiff, ↓reduceIte, reduceCtorEq, Nat.reduceAdd]
          · rw [hv] at hag
            have s1 : cntB (agI L l m sh) (i + 1) = cntB (agI L l m sh) i + 1 := by simp [cntB, hag]
            have b1 := cntB_le (f := agI L l m sh) i
            have b2 := cntB_le (f := wrI L l m sh) i
            obtain ⟨v4, H4, ea4, g14, hB4, k4, o4⟩ := x_appG1 (H0 := H0) (H := H3 ++ [rw_ [.int .i64 (i : Int)]]) (a := (i : Int)) (r := H3.length) (c := 1) (row := ⟨true, false, [.int .i64 (i : Int)]⟩) (g13.base Base.one) (by simp [Vh.rowAt, rw_]) rfl (by omega) hB3'.app
            obtain ⟨q3, hq3, g24⟩ := o4 q2 _ _ (fun e => hq e.symm) (g23.base Base.one)
            have hb4 := k4 _ _ (Base.one.row hb3) rfl
            have hb4' : Vh.rowAt H4 H.length = some ⟨true, false, [.int .i64 p.ba, .bool p.bit, .int .i64 p.cl, .int .i64 p.ph, .bool p.seen]⟩ := hb4
            have hrH4' := hB4.row hr'
            simp (disch := omega) only [sN, ↓reduceIte, Nat.reduceEqDiff, Nat.reduceAdd, Nat.reduceMul, Nat.reduceSub, reduceCtorEq, e_none, e_some, e_bindS, h1, h2, h36, h37, h38]
            rw [x_bs1v (v := .int .i64 (i : Int)) (by simp only [e_upd, e_putS, e_putN, e_t, e_c, Nat.reduceEqDiff, ↓reduceIte, reduceCtorEq, Nat.reduceAdd]) rfl]
            simp (disch := omega) only [sN, ↓reduceIte, Nat.reduceEqDiff, Nat.reduceAdd, Nat.reduceMul, Nat.reduceSub, reduceCtorEq, e_none, e_some, e_bindS, h1, h2, h36, h37, h38]
            rw [ea4 _ _ _ (by simp only [e_upd, e_putS, e_putN, e_t, e_c, Nat.reduceEqDiff, ↓reduceIte, reduceCtorEq, Nat.reduceAdd]) (by simp only [e_upd, e_putS, e_putN, e_t, e_c, Nat.reduceEqDiff, ↓reduceIte, reduceCtorEq, Nat.reduceAdd])]
            simp (disch := omega) only [sN, ↓reduceIte, Nat.reduceEqDiff, Nat.reduceAdd, Nat.reduceMul, Nat.reduceSub, reduceCtorEq, e_none, e_some, e_bindS, h1, h2, h36, h37, h38, ib, p_fieldAddr, hb4', hrH4', hck, Option.bind_some, Option.map_some, List.getElem?_cons_zero, List.getElem?_cons_succ, List.map_cons, List.map_nil]
            refine call_pure0 (detector_calls p.bit) rfl rfl rfl ?_ (fun v H' h => h.2)
            rintro v0 ⟨rfl, _⟩
            rw [show AV.ren (sig [] H4.length) (.int .i64 (if p.bit then 2 else 1)) = .int .i64 (if p.bit then 2 else 1) from rfl]
            obtain ⟨dd, hdd⟩ : ∃ d : Int, d = if p.bit then 2 else 1 := ⟨_, rfl⟩
            obtain ⟨kk, hkk⟩ : ∃ d : Int, d = ck l j := ⟨_, rfl⟩
            have hwr : wrI L l m sh i = decide (kk ≠ dd) := by
              unfold wrI; rw [hag, hjn, ← hp, ← hdd, ← hkk, Bool.true_and]
            rw [← hdd, ← hkk]
            by_cases hw : kk = dd
            · have s2 : cntB (wrI L l m sh) (i + 1) = cntB (wrI L l m sh) i := by simp [cntB, hwr, hw]
              simp (disch := omega) only [sN, ↓reduceIte, Nat.reduceEqDiff, Nat.reduceAdd, Nat.reduceMul, Nat.reduceSub, reduceCtorEq, e_none, e_some, e_bindS, h1, h2, h36, h37, h38]
              refine next _ _ _ q3 hB4 hq3.symm ?_ ?_ hlt ?_ ?_ ?_ ?_ ?_
              · rw [s1]; simp only [e_upd, e_putS, e_putN, e_t, e_c, Nat.reduceEqDiff, ↓reduceIte, reduceCtorEq, Nat.reduceAdd]; exact g14
              · rw [s2]; simp only [e_upd, e_putS, e_putN, e_t, e_c, Nat.reduceEqDiff, ↓reduceIte, reduceCtorEq, Nat.reduceAdd]; exact g24
              · simp only [e_upd, e_putS, e_putN, e_t, e_c, Nat.reduceEqDiff, ↓reduceIte, reduceCtorEq, Nat.reduceAdd, h1]
              · simp only [e_upd, e_putS, e_putN, e_t, e_c, Nat.reduceEqDiff, ↓reduceIte, reduceCtorEq, Nat.reduceAdd, h2]
              · simp only [e_upd, e_putS, e_putN, e_t, e_c, Nat.reduceEqDiff, ↓reduceIte, reduceCtorEq, Nat.reduceAdd, h36]
              · simp only [e_upd, e_putS, e_putN, e_t, e_c, Nat.reduceEqDiff, ↓reduceIte, reduceCtorEq, Nat.reduceAdd, h37]
              · simp only [e_upd, e_putS, e_putN, e_t, e_c, Nat.reduceEqDiff, ↓reduceIte, reduceCtorEq, Nat.reduceAdd]
            · have s2 : cntB (wrI L l m sh) (i + 1) = cntB (wrI L l m sh) i + 1 := by simp [cntB, hwr, hw]
              obtain ⟨v5, H5, ea5, g25, hB5, k5, o5⟩ := x_appG1 (H0 := H0) (H := H4 ++ [rw_ [.int .i64 (i : Int)]]) (a := (i : Int)) (r := H4.length) (c := 1) (row := ⟨true, false, [.int .i64 (i : Int)]⟩) (g24.base Base.one) (by simp [Vh.rowAt, rw_]) rfl (by omega) hB4.app
              obtain ⟨q5, hq5, g15⟩ := o5 _ _ _ hq3.symm (g14.base Base.one)
              simp (disch := omega) only [sN, ↓reduceIte, Nat.reduceEqDiff, Nat.reduceAdd, Nat.reduceMul, Nat.reduceSub, reduceCtorEq, e_none, e_some, e_bindS, h1, h2, h36, h37, h38]
              rw [x_bs1v (v := .int .i64 (i : Int)) (by simp only [e_upd, e_putS, e_putN, e_t, e_c, Nat.reduceEqDiff, ↓reduceIte, reduceCtorEq, Nat.reduceAdd]) rfl]
              simp (disch := omega) only [sN, ↓reduceIte, Nat.reduceEqDiff, Nat.reduceAdd, Nat.reduceMul, Nat.reduceSub, reduceCtorEq, e_none, e_some, e_bindS, h1, h2, h36, h37, h38]
              rw [ea5 _ _ _ (by simp only [e_upd, e_putS, e_putN, e_t, e_c, Nat.reduceEqDiff, ↓reduceIte, reduceCtorEq, Nat.reduceAdd]) (by simp only [e_upd, e_putS, e_putN, e_t, e_c, Nat.reduceEqDiff, ↓reduceIte, reduceCtorEq, Nat.reduceAdd])]
              simp (disch := omega) only [sN, ↓reduceIte, Nat.reduceEqDiff, Nat.reduceAdd, Nat.reduceMul, Nat.reduceSub, reduceCtorEq, e_none, e_some, e_bindS, h1, h2, h36, h37, h38]
              refine next _ _ q5 _ hB5 hq5 ?_ ?_ hlt ?_ ?_ ?_ ?_ ?_
              · rw [s1]; simp only [e_upd, e_putS, e_putN, e_t, e_c, Nat.reduceEqDiff, ↓reduceIte, reduceCtorEq, Nat.reduceAdd]; exact g15
              · rw [s2]; simp only [e_upd, e_putS, e_putN, e_t, e_c, Nat.reduceEqDiff, ↓reduceIte, reduceCtorEq, Nat.reduceAdd]; exact g25
              · simp only [e_upd, e_putS, e_putN, e_t, e_c, Nat.reduceEqDiff, ↓reduceIte, reduceCtorEq, Nat.reduceAdd, h1]
              · simp only [e_upd, e_putS, e_putN, e_t, e_c, Nat.reduceEqDiff, ↓reduceIte, reduceCtorEq, Nat.reduceAdd, h2]
              · simp only [e_upd, e_putS, e_putN, e_t, e_c, Nat.reduceEqDiff, ↓reduceIte, reduceCtorEq, Nat.reduceAdd, h36]
              · simp only [e_upd, e_putS, e_putN, e_t, e_c, Nat.reduceEqDiff, ↓reduceIte, reduceCtorEq, Nat.reduceAdd, h37]
              · simp only [e_upd, e_putS, e_putN, e_t, e_c, Nat.reduceEqDiff, ↓reduceIte, reduceCtorEq, Nat.reduceAdd]
        · obtain ⟨s1, s2⟩ := no (by omega)
          simp (disch := omega) only [sN, ↓reduceIte, Nat.reduceEqDiff, Nat.reduceAdd, Nat.reduceMul, Nat.reduceSub, reduceCtorEq, e_none, e_some, e_bindS, h1, h2, h36, h37, h38, k_len hk']
          refine next _ _ q1 q2 hB.app hq ?_ ?_ hlt ?_ ?_ ?_ ?_ ?_
          · rw [s1]; simp only [e_upd, e_putS, e_putN, e_t, e_c, Nat.reduceEqDiff, ↓reduceIte, reduceCtorEq, Nat.reduceAdd]; exact g1.base Base.one
          · rw [s2]; simp only [e_upd, e_putS, e_putN, e_t, e_c, Nat.reduceEqDiff, ↓reduceIte, reduceCtorEq, Nat.reduceAdd]; exact g2.base Base.one
          · simp only [e_upd, e_putS, e_putN, e_t, e_c, Nat.reduceEqDiff, ↓reduceIte, reduceCtorEq, Nat.reduceAdd, h1]
          · simp only [e_upd, e_putS, e_putN, e_t, e_c, Nat.reduceEqDiff, ↓reduceIte, reduceCtorEq, Nat.reduceAdd, h2]
          · simp only [e_upd, e_putS, e_putN, e_t, e_c, Nat.reduceEqDiff, ↓reduceIte, reduceCtorEq, Nat.reduceAdd, h36]
          · simp only [e_upd, e_putS, e_putN, e_t, e_c, Nat.reduceEqDiff, ↓reduceIte, reduceCtorEq, Nat.reduceAdd, h37]
          · simp only [e_upd, e_putS, e_putN, e_t, e_c, Nat.reduceEqDiff, ↓reduceIte, reduceCtorEq, Nat.reduceAdd]
      · obtain ⟨s1, s2⟩ := no (by omega)
        simp (disch := omega) only [sN, ↓reduceIte, Nat.reduceEqDiff, Nat.reduceAdd, Nat.reduceMul, Nat.reduceSub, reduceCtorEq, e_none, e_some, e_bindS, h1, h2, h36, h37, h38, k_len hk']
        refine next _ _ q1 q2 hB.app hq ?_ ?_ hlt ?_ ?_ ?_ ?_ ?_
        · rw [s1]; simp only [e_upd, e_putS, e_putN, e_t, e_c, Nat.reduceEqDiff, ↓reduceIte, reduceCtorEq, Nat.reduceAdd]; exact g1.base Base.one
        · rw [s2]; simp only [e_upd, e_putS, e_putN, e_t, e_c, Nat.reduceEqDiff, ↓reduceIte, reduceCtorEq, Nat.reduceAdd]; exact g2.base Base.one
        · simp only [e_upd, e_putS, e_putN, e_t, e_c, Nat.reduceEqDiff, ↓reduceIte, reduceCtorEq, Nat.reduceAdd, h1]
        · simp only [e_upd, e_putS, e_putN, e_t, e_c, Nat.reduceEqDiff, ↓reduceIte, reduceCtorEq, Nat.reduceAdd, h2]
        · simp only [e_upd, e_putS, e_putN, e_t, e_c, Nat.reduceEqDiff, ↓reduceIte, reduceCtorEq, Nat.reduceAdd, h36]
        · simp only [e_upd, e_putS, e_putN, e_t, e_c, Nat.reduceEqDiff, ↓reduceIte, reduceCtorEq, Nat.reduceAdd, h37]
        · simp only [e_upd, e_putS, e_putN, e_t, e_c, Nat.reduceEqDiff, ↓reduceIte, reduceCtorEq, Nat.reduceAdd]
    · obtain rfl : i = n := by omega
      simp (disch := omega) only [sN, ↓reduceIte, Nat.reduceEqDiff, Nat.reduceAdd, Nat.reduceMul, Nat.reduceSub, reduceCtorEq, e_none, e_some, e_bindS, h36, h37, h38]
      refine ret_keep hB.1 ?_
      rw [show rs_agreeF = [.tmp 6, .tmp 7, .tmp 8] from rfl]
      refine ⟨s 9, s 10, ?_, hB, fun _ => ⟨⟨q1, by rw [hl]; exact g1⟩, ⟨q2, by rw [hl]; exact g2⟩⟩⟩
      rw [if_pos hs]
      show AV.tuple [_, _, _] = _
      simp only [e_upd, e_putS, e_putN, e_t, e_c, Nat.reduceEqDiff, ↓reduceIte, reduceCtorEq, Nat.reduceAdd]
  · rw [decide_eq_false hs]
    simp (disch := omega) only [sN, ↓reduceIte, Nat.reduceEqDiff, Nat.reduceAdd, Nat.reduceMul, Nat.reduceSub, reduceCtorEq, e_none, e_some, e_bindS, e0, e1, e2]
    refine ret_keep (by simp) ?_
    rw [show rs_agreeF = [.tmp 6, .tmp 7, .tmp 8] from rfl]
    refine ⟨.nilslice, .nilslice, ?_, Base.refl, fun h => (hs h).elim⟩
    rw [if_neg hs]
    show AV.tuple [_, _, _] = _
    simp only [e_upd, e_putS, e_putN, e_t, e_c, Nat.reduceEqDiff, ↓reduceIte, reduceCtorEq, Nat.reduceAdd]
end Go.Proofs.Ythbhljolpnbdlaa

