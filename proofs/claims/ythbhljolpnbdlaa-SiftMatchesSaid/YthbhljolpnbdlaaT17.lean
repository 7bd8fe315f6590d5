/- Contracts of stage 4: Match. -/
import Derived.Test.YthbhljolpnbdlaaVX
import Derived.Test.YthbhljolpnbdlaaTF
set_option linter.unusedSimpArgs false
set_option linter.unusedVariables false
-- NEWSET
namespace Go.Proofs.Ythbhljolpnbdlaa
open Go Go.Vh

/-- the slots that are kept of the first announcements -/
def mtc (L : List Pul) (l : List Int) : Nat → List Int
  | 0 => []
  | i + 1 => mtc L l i ++ (if (L.getD (cb l i).toNat default).seen = true ∧ (L.getD (cb l i).toNat default).ba = ck l i then [cb l i] else [])
theorem mtc_len {L : List Pul} {l : List Int} : ∀ n, (mtc L l n).length ≤ n
  | 0 => by simp [mtc]
  | n + 1 => by
    have := mtc_len (L := L) (l := l) n
    simp only [mtc, List.length_append]
    split <;> simp <;> omega
def mE (L : List Pul) (l : List Int) (n : Nat) (a : Int) : Int := fst0 [pE L, if 0 ≤ a ∧ a ≤ 4096 then 0 else 3, fE l a L.length n]
def mL (L : List Pul) (l : List Int) (n : Nat) (a : Int) : List Int := if mE L l n a = 0 then mtc L l n else []
def AnsM (H0 : AHeap) (L : List Pul) (l : List Int) (n : Nat) (a : Int) (v : AV) (H : AHeap) : Prop := ∃ w, v = .tuple [w, .int .i64 (mE L l n a)] ∧ Base H0 H ∧ Gs H0 H w (mL L l n a)
theorem fE_ok {l : List Int} {a b : Int} {n i : Nat} (h : fE l a b n = 0) (hi : i < n) : a ≤ cb l i ∧ cb l i < b := by
  have key : ∀ j, j ≤ n → ∀ k, k < j → fA l a b k = 0 := by
    intro j
    induction j with
    | zero => intro _ k hk; omega
    | succ j ih =>
      intro hj k hk
      rcases Nat.lt_or_ge k j with h1 | h1
      · exact ih (by omega) k h1
      · obtain rfl : k = j := by omega
        by_cases hz : fA l a b k = 0
        · exact hz
        · rw [fE_hit (by omega) (ih (by omega)) hz] at h
          exact h
  have hf := key n (Nat.le_refl n) i hi
  unfold fA at hf
  split at hf
  · rename_i h1
    unfold hE at h1
    split at h1
    · assumption
    · cases h1
  · rename_i h1; exact (h1 hf).elim

theorem p5_load {L : List Pul} {i : Nat} {cells : List AV} (hc : cells = pcells L) (hi : i < L.length) : (cells.drop (i * 5)).take 5 = pcell (L.getD i default) ∧ i * 5 + 5 ≤ cells.length := by
  rw [hc]; exact pulse_at hi

set_option maxHeartbeats 4000000 in
theorem match_calls (H0 : AHeap) {κ κ' : SK} {n m r r' : Nat} {L : List Pul} {l : List Int} {row row' : ARow} {a : Int} (hk : okS κ m) (hl : L.length = m) (hm : m ≤ maxLen) (hr : Vh.rowAt H0 r = some row) (hc : row.cells = pcells L)
    (hk' : okS κ' n) (hl' : l.length = n * 2) (hn : n ≤ 400) (hr' : Vh.rowAt H0 r' = some row') (hc' : row'.cells = ints .i64 l) :
    ACalls Try.prog 21 [mkS κ r 0 m, mkS κ' r' 0 n, .int .i64 a] H0 (List.range H0.length) (AnsM H0 L l n a) := by
  refine ACalls.body Try.func21 ent_match ir_match_ok rs_match_ok Try.ntmps21 (by simp) rfl ?_
  unfold ir_match
  have e0 : s0 [mkS κ r 0 m, mkS κ' r' 0 n, .int .i64 a] 0 = mkS κ r 0 m := rfl
  have e1 : s0 [mkS κ r 0 m, mkS κ' r' 0 n, .int .i64 a] 1 = mkS κ' r' 0 n := rfl
  have e2 : s0 [mkS κ r 0 m, mkS κ' r' 0 n, .int .i64 a] 2 = .int .i64 a := rfl
  have hz : [AV.int .i64 0, AV.int .i64 0].all AV.cell = true := rfl
  have hz5 : [AV.int .i64 0, AV.bool false, AV.int .i64 0, AV.int .i64 0, AV.bool false].all AV.cell = true := rfl
  have hm' : (m : Int) ≤ 9223372036854775807 := by unfold maxLen at hm; omega
  simp (disch := omega) only [sN, ↓reduceIte, Nat.reduceEqDiff, Nat.reduceAdd, Nat.reduceMul, Nat.reduceSub, reduceCtorEq, e_none, e_some, e_bindS, e0, e1, e2, List.map_cons, List.map_nil]
  refine ⟨_, (checkPulses_calls H0 hk hl hm hr hc).g.mono ?_⟩
  rintro v H1 ⟨rfl, hB1⟩
  simp (disch := omega) only [sN, ↓reduceIte, Nat.reduceEqDiff, Nat.reduceAdd, Nat.reduceMul, Nat.reduceSub, reduceCtorEq, e_none, e_some, e_bindS, e0, e1, e2, List.map_cons, List.map_nil]
  refine ⟨_, (checkCount_calls H1 a 4096).g.mono ?_⟩
  rintro v H2 ⟨rfl, hH⟩
  rw [hH]
  obtain ⟨E1, hE1⟩ : ∃ e, e = pE L := ⟨_, rfl⟩
  obtain ⟨E2, hE2⟩ : ∃ e : Int, e = if 0 ≤ a ∧ a ≤ 4096 then 0 else 3 := ⟨_, rfl⟩
  have hE : mE L l n a = fst0 [E1, E2, fE l a L.length n] := by unfold mE; rw [hE1, hE2]
  rw [← hE1, ← hE2]
  simp (disch := omega) only [sN, ↓reduceIte, Nat.reduceEqDiff, Nat.reduceAdd, Nat.reduceMul, Nat.reduceSub, reduceCtorEq, e_none, e_some, e_bindS, e0, e1, e2]
  rw [x_bs2 (v := .int .i64 E1) (u := .int .i64 E2) (by simp only [e_upd, e_putS, e_putN, e_t, e_c, Nat.reduceEqDiff, ↓reduceIte, reduceCtorEq, Nat.reduceAdd]) (by simp only [e_upd, e_putS, e_putN, e_t, e_c, Nat.reduceEqDiff, ↓reduceIte, reduceCtorEq, Nat.reduceAdd]) rfl rfl rfl]
  simp (disch := omega) only [sN, ↓reduceIte, Nat.reduceEqDiff, Nat.reduceAdd, Nat.reduceMul, Nat.reduceSub, reduceCtorEq, e_none, e_some, e_bindS, e0, e1, e2, List.map_cons, List.map_nil]
  refine ⟨_, (firstError_calls (H1 ++ [rw_ [.int .i64 E1, .int .i64 E2]]) (n := 2) (r := H1.length) (l := [E1, E2]) (row := ⟨true, false, [.int .i64 E1, .int .i64 E2]⟩) rfl (by omega) (by simp [Vh.rowAt, rw_]) rfl).g.mono ?_⟩
  rintro v H3 ⟨rfl, hB3⟩
  have hB := hB1.app.trans hB3
  clear hB1 hB3 hH
  by_cases hz1 : fst0 [E1, E2] = 0
  · have hE' : mE L l n a = fE l a L.length n := by
      rw [hE]
      by_cases h1 : E1 = 0
      · by_cases h2 : E2 = 0
        · simp [fst0, h1, h2]
          intro h; exact h.symm
        · simp [fst0, h1, h2] at hz1
      · simp [fst0, h1] at hz1
    rw [hz1]
    simp (disch := omega) only [sN, ↓reduceIte, Nat.reduceEqDiff, Nat.reduceAdd, Nat.reduceMul, Nat.reduceSub, reduceCtorEq, e_none, e_some, e_bindS, e0, e1, e2, k_len hk, List.map_cons, List.map_nil]
    refine ⟨_, (between_calls H3 a m).g.mono ?_⟩
    rintro v H4 ⟨rfl, hH4⟩
    have hB4 : Base H3 H4 := by rw [hH4]; exact Base.one.app
    have rp : Vh.rowAt H4 H3.length = some ⟨true, false, [.int .i64 a]⟩ := by rw [hH4, rowAt_append_left (by simp)]; simp [Vh.rowAt, rw_]
    have rq : Vh.rowAt H4 (H3.length + 1) = some ⟨true, false, [.int .i64 (m : Int)]⟩ := by
      rw [hH4, show H3.length + 1 = (H3 ++ [rw_ [AV.int .i64 a]]).length by simp]; simp [Vh.rowAt, rw_]
    have hB' := hB.trans hB4
    clear hH4
    simp (disch := omega) only [sN, ↓reduceIte, Nat.reduceEqDiff, Nat.reduceAdd, Nat.reduceMul, Nat.reduceSub, reduceCtorEq, e_none, e_some, e_bindS, e0, e1, e2, List.map_cons, List.map_nil]
    refine ⟨_, (checkHeard_calls H4 hk' hl' (by unfold maxLen; omega) (hB'.row hr') hc' rp rfl rq rfl).g.mono ?_⟩
    rintro v H5 ⟨rfl, hB5⟩
    have hB6 := hB'.trans hB5
    clear rp rq hB4 hB' hB5
    have hqE : fE l a m n = mE L l n a := by rw [hE', hl]
    rw [hqE]
    obtain ⟨E, hEE⟩ : ∃ e, e = mE L l n a := ⟨_, rfl⟩
    rw [← hEE]
    by_cases hz2 : E = 0
    · rw [hEE] at hz2
      have hfz : fE l a m n = 0 := by rw [hqE]; exact hz2
      have hP : m ≤ 4096 := by
        by_cases h1 : E1 = 0
        · rw [h1] at hE1; unfold pE at hE1
          split at hE1
          · omega
          · omega
        · simp [fst0, h1] at hz1
      have ha0 : 0 ≤ a := by
        by_cases h1 : E1 = 0
        · by_cases h2 : E2 = 0
          · rw [h2] at hE2; split at hE2
            · omega
            · omega
          · simp [fst0, h1, h2] at hz1
        · simp [fst0, h1] at hz1
      rw [hz2] at hEE
      subst hEE
      simp (disch := omega) only [sN, ↓reduceIte, Nat.reduceEqDiff, Nat.reduceAdd, Nat.reduceMul, Nat.reduceSub, reduceCtorEq, e_none, e_some, e_bindS, e0, e1, e2, k_len hk']
      refine ⟨fun t s H => ∃ i : Nat, t = n - i ∧ i ≤ n ∧ Base H0 H ∧ Gs H0 H (s 10) (mtc L l i) ∧ s 0 = mkS κ r 0 m ∧ s 32 = mkS κ' r' 0 n ∧ s 33 = .int .i64 n ∧ s 34 = .int .i64 (i : Int), n, ⟨0, rfl, by omega, hB6, .inl ⟨rfl, ?_⟩, ?_, ?_, ?_, ?_⟩, ?_⟩
      · simp only [e_upd, e_putS, e_putN, e_t, e_c, Nat.reduceEqDiff, ↓reduceIte, reduceCtorEq, Nat.reduceAdd]
      · simp only [e_upd, e_putS, e_putN, e_t, e_c, Nat.reduceEqDiff, ↓reduceIte, reduceCtorEq, Nat.reduceAdd, e0]
      · simp only [e_upd, e_putS, e_putN, e_t, e_c, Nat.reduceEqDiff, ↓reduceIte, reduceCtorEq, Nat.reduceAdd]
      · simp only [e_upd, e_putS, e_putN, e_t, e_c, Nat.reduceEqDiff, ↓reduceIte, reduceCtorEq, Nat.reduceAdd]
      · simp only [e_upd, e_putS, e_putN, e_t, e_c, Nat.reduceEqDiff, ↓reduceIte, reduceCtorEq, Nat.reduceAdd]; rfl
      clear hB hB6
      rintro t s H ⟨i, rfl, hi, hB, hg, h0, h32, h33, h34⟩
      have next : ∀ (s' : St) (H' : AHeap), Base H0 H' → Gs H0 H' (s' 10) (mtc L l (i + 1)) → i < n → s' 0 = mkS κ r 0 m → s' 32 = mkS κ' r' 0 n → s' 33 = .int .i64 n → s' 34 = .int .i64 ((i : Int) + 1) →
          loopPost H0.length (fun t s H => ∃ i : Nat, t = n - i ∧ i ≤ n ∧ Base H0 H ∧ Gs H0 H (s 10) (mtc L l i) ∧ s 0 = mkS κ r 0 m ∧ s 32 = mkS κ' r' 0 n ∧ s 33 = .int .i64 n ∧ s 34 = .int .i64 (i : Int)) (n - i) s' H' := fun s' H' u1 u2 u3 u4 u5 u6 u7 =>
        loop_keep (m := n - (i + 1)) (by omega) ⟨i + 1, rfl, by omega, u1, u2, u4, u5, u6, by rw [u7]; rfl⟩
      by_cases hlt : i < n
      · obtain ⟨c1, c2⟩ := pair_at hl' hlt
        have hrH := hB.row hr
        have hrH' := hB.row hr'
        have hin := fE_ok hfz hlt
        obtain ⟨x, hx⟩ : ∃ x, x = cb l i := ⟨_, rfl⟩
        obtain ⟨y, hy⟩ : ∃ y, y = ck l i := ⟨_, rfl⟩
        have hst : mtc L l (i + 1) = mtc L l i ++ (if (L.getD x.toNat default).seen = true ∧ (L.getD x.toNat default).ba = y then [x] else []) := by rw [hx, hy]; rfl
        rw [← hx] at hin
        rw [← hx, ← hy] at c1
        obtain ⟨p, hp⟩ : ∃ p, p = L.getD x.toNat default := ⟨_, rfl⟩
        obtain ⟨d1, d2⟩ := p5_load hc (show x.toNat < L.length by omega)
        rw [← hp] at d1 hst
        have ia : aindexAddr 2 (mkS κ' r' 0 n) (.int .i64 (i : Int)) = some (.ptr r' (i * 2)) := by
          rw [k_idx2 hk' (Nat.le_refl n) (by omega) (by omega)]; simp
        have ib : aindexAddr 5 (mkS κ r 0 m) (.int .i64 x) = some (.ptr r (x.toNat * 5)) := by
          rw [k_idx5 hk (Nat.le_refl m) (by omega) (by omega)]; simp
        simp (disch := omega) only [sN, ↓reduceIte, Nat.reduceEqDiff, Nat.reduceAdd, Nat.reduceMul, Nat.reduceSub, reduceCtorEq, e_none, e_some, e_bindS, h0, h32, h33, h34, ia]
        rw [x_loadNO (n := 2) (r := r') (off := i * 2) (l := [.int .i64 x, .int .i64 y]) (by simp only [e_upd, e_putS, e_putN, e_t, e_c, Nat.reduceEqDiff, ↓reduceIte, reduceCtorEq, Nat.reduceAdd]) hrH' (by rw [hc']; exact c1) (by rw [hc']; exact c2)]
        simp (disch := omega) only [sN, ↓reduceIte, Nat.reduceEqDiff, Nat.reduceAdd, Nat.reduceMul, Nat.reduceSub, reduceCtorEq, e_none, e_some, e_bindS, h0, h32, h33, h34]
        rw [x_allocA hz]
        simp (disch := omega) only [sN, ↓reduceIte, Nat.reduceEqDiff, Nat.reduceAdd, Nat.reduceMul, Nat.reduceSub, reduceCtorEq, e_none, e_some, e_bindS, h0, h32, h33, h34]
        rw [x_storeNA (n := 2) (r := H.length) (l := [.int .i64 0, .int .i64 0]) (l' := [.int .i64 x, .int .i64 y]) (by simp only [e_upd, e_putS, e_putN, e_t, e_c, Nat.reduceEqDiff, ↓reduceIte, reduceCtorEq, Nat.reduceAdd]) (by simp only [e_upd, e_putS, e_putN, e_t, e_c, Nat.reduceEqDiff, ↓reduceIte, reduceCtorEq, Nat.reduceAdd]) (by rfl) (by simp [Vh.rowAt, rw_]) rfl rfl]
        rw [set_last]
        obtain ⟨H1, hH1⟩ : ∃ h, h = H ++ [rw_ [.int .i64 x, .int .i64 y]] := ⟨_, rfl⟩
        have hb1 : Vh.rowAt H1 H.length = some ⟨true, false, [.int .i64 x, .int .i64 y]⟩ := by rw [hH1]; simp [Vh.rowAt, rw_]
        have hBB : Base H H1 := by rw [hH1]; exact Base.one
        rw [← hH1]
        simp (disch := omega) only [sN, ↓reduceIte, Nat.reduceEqDiff, Nat.reduceAdd, Nat.reduceMul, Nat.reduceSub, reduceCtorEq, e_none, e_some, e_bindS, h0, h32, h33, h34, p_fieldAddr, Nat.zero_add, hb1, Option.bind_some, Option.map_some, List.getElem?_cons_zero, ib]
        rw [x_loadNO (n := 5) (r := r) (off := x.toNat * 5) (l := pcell p) (by simp only [e_upd, e_putS, e_putN, e_t, e_c, Nat.reduceEqDiff, ↓reduceIte, reduceCtorEq, Nat.reduceAdd]) (hBB.row hrH) d1 d2]
        simp (disch := omega) only [sN, ↓reduceIte, Nat.reduceEqDiff, Nat.reduceAdd, Nat.reduceMul, Nat.reduceSub, reduceCtorEq, e_none, e_some, e_bindS, h0, h32, h33, h34]
        rw [x_allocA hz5]
        simp (disch := omega) only [sN, ↓reduceIte, Nat.reduceEqDiff, Nat.reduceAdd, Nat.reduceMul, Nat.reduceSub, reduceCtorEq, e_none, e_some, e_bindS, h0, h32, h33, h34]
        rw [x_storeNA (n := 5) (r := H1.length) (l := [.int .i64 0, .bool false, .int .i64 0, .int .i64 0, .bool false]) (l' := pcell p) (by simp only [e_upd, e_putS, e_putN, e_t, e_c, Nat.reduceEqDiff, ↓reduceIte, reduceCtorEq, Nat.reduceAdd]) (by simp only [e_upd, e_putS, e_putN, e_t, e_c, Nat.reduceEqDiff, ↓reduceIte, reduceCtorEq, Nat.reduceAdd]) pcell_cell (by simp [Vh.rowAt, rw_]) rfl rfl]
        rw [set_last]
        obtain ⟨H2, hH2⟩ : ∃ h, h = H1 ++ [rw_ (pcell p)] := ⟨_, rfl⟩
        have hB12 : Base H1 H2 := by rw [hH2]; exact Base.one
        have hb2 : Vh.rowAt H2 H1.length = some ⟨true, false, pcell p⟩ := by rw [hH2]; simp [Vh.rowAt, rw_]
        have hb2' := hB12.row hb1
        have hB2 := (hB.trans hBB).trans hB12
        have hg2 := (hg.base hBB).base hB12
        rw [← hH2]
        obtain ⟨ba, bit, cl, ph, sn⟩ := p
        have hb3 : Vh.rowAt H2 H1.length = some ⟨true, false, [.int .i64 ba, .bool bit, .int .i64 cl, .int .i64 ph, .bool sn]⟩ := hb2
        have no : ¬ (sn = true ∧ ba = y) → mtc L l (i + 1) = mtc L l i := fun h => by rw [hst, if_neg h, List.append_nil]
        cases sn
        · simp (disch := omega) only [sN, ↓reduceIte, Nat.reduceEqDiff, Nat.reduceAdd, Nat.reduceMul, Nat.reduceSub, reduceCtorEq, e_none, e_some, e_bindS, h0, h32, h33, h34, p_fieldAddr, Nat.zero_add, hb3, hb2', Option.bind_some, Option.map_some, List.getElem?_cons_zero, List.getElem?_cons_succ]
          refine next _ _ hB2 ?_ hlt ?_ ?_ ?_ ?_
          · rw [no (by simp)]; simp only [e_upd, e_putS, e_putN, e_t, e_c, Nat.reduceEqDiff, ↓reduceIte, reduceCtorEq, Nat.reduceAdd]; exact hg2
          · simp only [e_upd, e_putS, e_putN, e_t, e_c, Nat.reduceEqDiff, ↓reduceIte, reduceCtorEq, Nat.reduceAdd, h0]
          · simp only [e_upd, e_putS, e_putN, e_t, e_c, Nat.reduceEqDiff, ↓reduceIte, reduceCtorEq, Nat.reduceAdd, h32]
          · simp only [e_upd, e_putS, e_putN, e_t, e_c, Nat.reduceEqDiff, ↓reduceIte, reduceCtorEq, Nat.reduceAdd, h33]
          · simp only [e_upd, e_putS, e_putN, e_t, e_c, Nat.reduceEqDiff, ↓reduceIte, reduceCtorEq, Nat.reduceAdd]
        · by_cases hby : ba = y
          · obtain ⟨v', H'', ea, eg, eb, _⟩ := x_appGs (H0 := H0) (H := H2 ++ [rw_ [.int .i64 x]]) (a := x) (r := H2.length) (c := 1) (row := ⟨true, false, [.int .i64 x]⟩) (hg2.base Base.one) (by simp [Vh.rowAt, rw_]) rfl (by have := mtc_len (L := L) (l := l) i; omega) hB2.app
            simp (disch := omega) only [sN, ↓reduceIte, Nat.reduceEqDiff, Nat.reduceAdd, Nat.reduceMul, Nat.reduceSub, reduceCtorEq, e_none, e_some, e_bindS, h0, h32, h33, h34, p_fieldAddr, Nat.zero_add, hb3, hb2', Option.bind_some, Option.map_some, List.getElem?_cons_zero, List.getElem?_cons_succ]
            rw [x_bs1 (v := .int .i64 x) (by simp only [e_upd, e_putS, e_putN, e_t, e_c, Nat.reduceEqDiff, ↓reduceIte, reduceCtorEq, Nat.reduceAdd]) rfl]
            simp (disch := omega) only [sN, ↓reduceIte, Nat.reduceEqDiff, Nat.reduceAdd, Nat.reduceMul, Nat.reduceSub, reduceCtorEq, e_none, e_some, e_bindS, h0, h32, h33, h34]
            rw [ea _ _ _ (by simp only [e_upd, e_putS, e_putN, e_t, e_c, Nat.reduceEqDiff, ↓reduceIte, reduceCtorEq, Nat.reduceAdd]) (by simp only [e_upd, e_putS, e_putN, e_t, e_c, Nat.reduceEqDiff, ↓reduceIte, reduceCtorEq, Nat.reduceAdd])]
            simp (disch := omega) only [sN, ↓reduceIte, Nat.reduceEqDiff, Nat.reduceAdd, Nat.reduceMul, Nat.reduceSub, reduceCtorEq, e_none, e_some, e_bindS, h0, h32, h33, h34]
            refine next _ _ eb ?_ hlt ?_ ?_ ?_ ?_
            · rw [hst, if_pos ⟨rfl, hby⟩]; simp only [e_upd, e_putS, e_putN, e_t, e_c, Nat.reduceEqDiff, ↓reduceIte, reduceCtorEq, Nat.reduceAdd]; exact eg
            · simp only [e_upd, e_putS, e_putN, e_t, e_c, Nat.reduceEqDiff, ↓reduceIte, reduceCtorEq, Nat.reduceAdd, h0]
            · simp only [e_upd, e_putS, e_putN, e_t, e_c, Nat.reduceEqDiff, ↓reduceIte, reduceCtorEq, Nat.reduceAdd, h32]
            · simp only [e_upd, e_putS, e_putN, e_t, e_c, Nat.reduceEqDiff, ↓reduceIte, reduceCtorEq, Nat.reduceAdd, h33]
            · simp only [e_upd, e_putS, e_putN, e_t, e_c, Nat.reduceEqDiff, ↓reduceIte, reduceCtorEq, Nat.reduceAdd]
          · simp (disch := omega) only [sN, ↓reduceIte, Nat.reduceEqDiff, Nat.reduceAdd, Nat.reduceMul, Nat.reduceSub, reduceCtorEq, e_none, e_some, e_bindS, h0, h32, h33, h34, p_fieldAddr, Nat.zero_add, hb3, hb2', Option.bind_some, Option.map_some, List.getElem?_cons_zero, List.getElem?_cons_succ]
            refine next _ _ hB2 ?_ hlt ?_ ?_ ?_ ?_
            · rw [no (by simp [hby])]; simp only [e_upd, e_putS, e_putN, e_t, e_c, Nat.reduceEqDiff, ↓reduceIte, reduceCtorEq, Nat.reduceAdd]; exact hg2
            · simp only [e_upd, e_putS, e_putN, e_t, e_c, Nat.reduceEqDiff, ↓reduceIte, reduceCtorEq, Nat.reduceAdd, h0]
            · simp only [e_upd, e_putS, e_putN, e_t, e_c, Nat.reduceEqDiff, ↓reduceIte, reduceCtorEq, Nat.reduceAdd, h32]
            · simp only [e_upd, e_putS, e_putN, e_t, e_c, Nat.reduceEqDiff, ↓reduceIte, reduceCtorEq, Nat.reduceAdd, h33]
            · simp only [e_upd, e_putS, e_putN, e_t, e_c, Nat.reduceEqDiff, ↓reduceIte, reduceCtorEq, Nat.reduceAdd]
      · obtain rfl : i = n := by omega
        simp (disch := omega) only [sN, ↓reduceIte, Nat.reduceEqDiff, Nat.reduceAdd, Nat.reduceMul, Nat.reduceSub, reduceCtorEq, e_none, e_some, e_bindS, h32, h33, h34]
        refine ret_keep hB.1 ?_
        rw [show rs_match = [.tmp 6, .tmp 7] from rfl, q_tmp2, q_then]
        refine ⟨s 10, ?_, hB, ?_⟩
        · rw [hz2]; simp only [e_upd, e_putS, e_putN, e_t, e_c, Nat.reduceEqDiff, ↓reduceIte, reduceCtorEq, Nat.reduceAdd]
        · unfold mL; rw [if_pos hz2]; exact hg
    · simp (disch := omega) only [sN, ↓reduceIte, Nat.reduceEqDiff, Nat.reduceAdd, Nat.reduceMul, Nat.reduceSub, reduceCtorEq, e_none, e_some, e_bindS, e0, e1, e2]
      refine ret_keep hB6.1 ?_
      rw [show rs_match = [.tmp 6, .tmp 7] from rfl, q_tmp2, q_then]
      refine ⟨.nilslice, ?_, hB6, .inl ⟨?_, rfl⟩⟩
      · rw [← hEE]; simp only [e_upd, e_putS, e_putN, e_t, e_c, Nat.reduceEqDiff, ↓reduceIte, reduceCtorEq, Nat.reduceAdd]
      · unfold mL; rw [if_neg (by rw [← hEE]; exact hz2)]
  · have hE' : mE L l n a = fst0 [E1, E2] := by
      rw [hE]
      by_cases h1 : E1 = 0
      · by_cases h2 : E2 = 0
        · simp [fst0, h1, h2] at hz1
        · simp [fst0, h1, h2]
      · simp [fst0, h1]
    obtain ⟨E, hEE⟩ : ∃ e, e = fst0 [E1, E2] := ⟨_, rfl⟩
    rw [← hEE] at hz1 hE' ⊢
    simp (disch := omega) only [sN, ↓reduceIte, Nat.reduceEqDiff, Nat.reduceAdd, Nat.reduceMul, Nat.reduceSub, reduceCtorEq, e_none, e_some, e_bindS, e0, e1, e2]
    refine ret_keep hB.1 ?_
    rw [show rs_match = [.tmp 6, .tmp 7] from rfl, q_tmp2, q_then]
    refine ⟨.nilslice, ?_, hB, .inl ⟨?_, rfl⟩⟩
    · rw [hE']; simp only [e_upd, e_putS, e_putN, e_t, e_c, Nat.reduceEqDiff, ↓reduceIte, reduceCtorEq, Nat.reduceAdd]
    · unfold mL; rw [if_neg (by rw [hE']; exact hz1)]
end Go.Proofs.Ythbhljolpnbdlaa

