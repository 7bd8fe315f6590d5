/- Contracts of stage 4: the slots that the eavesdropper knows. -/
import Derived.Test.YthbhljolpnbdlaaVX
import Derived.Test.YthbhljolpnbdlaaTL
import Derived.Test.YthbhljolpnbdlaaTD
set_option linter.unusedSimpArgs false
set_option linter.unusedVariables false
-- NEWSET
namespace Go.Proofs.Ythbhljolpnbdlaa
open Go Go.Vh

theorem kwL_incr {L : List Pul} {N : List Not} : (kwL L N).Pairwise (· < ·) := by
  unfold kwL
  split
  · exact trL_incr
  · exact List.Pairwise.nil
theorem kwL_len {L : List Pul} {N : List Not} : (kwL L N).length ≤ L.length := by
  unfold kwL
  split
  · exact trL_len _
  · simp
def spE (L : List Pul) (N : List Not) (S : List Int) : Int := if sE L S = 0 then kwE L N else sE L S
def spF (L : List Pul) (N : List Not) (S : List Int) (i : Nat) : Bool := decide (S.getD i 0 ∈ kwL L N)
def spN (L : List Pul) (N : List Not) (S : List Int) : Int := if spE L N S = 0 then (cntB (spF L N S) S.length : Int) else 0

set_option maxHeartbeats 4000000 in
theorem spied_calls (H0 : AHeap) {κ κ' κ2 : SK} {n m k r r' r2 : Nat} {L : List Pul} {N : List Not} {S : List Int} {row row' row2 : ARow} (hk : okS κ m) (hl : L.length = m) (hm : m ≤ 400) (hr : Vh.rowAt H0 r = some row) (hc : row.cells = pcells L)
    (hk' : okS κ' n) (hl' : N.length = n) (hn : n ≤ 400) (hr' : Vh.rowAt H0 r' = some row') (hc' : row'.cells = ncells N)
    (hk2 : okS κ2 k) (hl2 : S.length = k) (hk4 : k ≤ 400) (hr2 : Vh.rowAt H0 r2 = some row2) (hc2 : row2.cells = ints .i64 S) :
    ACalls Try.prog 31 [mkS κ r 0 m, mkS κ' r' 0 n, mkS κ2 r2 0 k] H0 (List.range H0.length) fun v H => v = .tuple [.int .i64 (spN L N S), .int .i64 (spE L N S)] ∧ Base H0 H := by
  refine ACalls.body Try.func31 ent_spied ir_spied_ok rs_spied_ok Try.ntmps31 (by simp) rfl ?_
  unfold ir_spied
  have e0 : s0 [mkS κ r 0 m, mkS κ' r' 0 n, mkS κ2 r2 0 k] 0 = mkS κ r 0 m := rfl
  have e1 : s0 [mkS κ r 0 m, mkS κ' r' 0 n, mkS κ2 r2 0 k] 1 = mkS κ' r' 0 n := rfl
  have e2 : s0 [mkS κ r 0 m, mkS κ' r' 0 n, mkS κ2 r2 0 k] 2 = mkS κ2 r2 0 k := rfl
  have fin : ∀ (E : Int) (H : AHeap), Base H0 H → E ≠ 0 → spE L N S = E → AV.tuple [.int .i64 0, .int .i64 E] = .tuple [.int .i64 (spN L N S), .int .i64 (spE L N S)] ∧ Base H0 H := fun E H hB hE he => by
    refine ⟨?_, hB⟩
    unfold spN; rw [he, if_neg hE]
  simp (disch := omega) only [sN, ↓reduceIte, Nat.reduceEqDiff, Nat.reduceAdd, Nat.reduceMul, Nat.reduceSub, reduceCtorEq, e_none, e_some, e_bindS, e0, e1, e2, List.map_cons, List.map_nil]
  refine ⟨_, (checkPulses_calls H0 hk hl (by unfold maxLen; omega) hr hc).g.mono ?_⟩
  rintro v H1 ⟨rfl, hB1⟩
  simp (disch := omega) only [sN, ↓reduceIte, Nat.reduceEqDiff, Nat.reduceAdd, Nat.reduceMul, Nat.reduceSub, reduceCtorEq, e_none, e_some, e_bindS, e0, e1, e2, List.map_cons, List.map_nil]
  refine ⟨_, (slotsOf_calls H1 hk).g.mono ?_⟩
  rintro v H2 ⟨rfl, hH2⟩
  have hB2 : Base H1 H2 := by rw [hH2]; exact Base.one.app
  have rp : Vh.rowAt H2 H1.length = some ⟨true, false, [.int .i64 0]⟩ := by rw [hH2, rowAt_append_left (by simp)]; simp [Vh.rowAt, rw_]
  have rq : Vh.rowAt H2 (H1.length + 1) = some ⟨true, false, [.int .i64 (m : Int)]⟩ := by
    rw [hH2, show H1.length + 1 = (H1 ++ [rw_ [AV.int .i64 0]]).length by simp]; simp [Vh.rowAt, rw_]
  have hB12 := hB1.trans hB2
  clear hH2
  simp (disch := omega) only [sN, ↓reduceIte, Nat.reduceEqDiff, Nat.reduceAdd, Nat.reduceMul, Nat.reduceSub, reduceCtorEq, e_none, e_some, e_bindS, e0, e1, e2, List.map_cons, List.map_nil]
  refine ⟨_, (checkSlots_calls H2 hk2 hl2 (by unfold maxLen; omega) (hB12.row hr2) hc2 rp rfl rq rfl).g.mono ?_⟩
  rintro v H3 ⟨rfl, hB3⟩
  have hB := hB12.trans hB3
  clear rp rq hB1 hB2 hB12 hB3
  obtain ⟨E1, hE1⟩ : ∃ e, e = pE L := ⟨_, rfl⟩
  obtain ⟨E2, hE2⟩ : ∃ e, e = gE S 0 m k := ⟨_, rfl⟩
  have hse : sE L S = fst0 [E1, E2] := by unfold sE; rw [hE1, hE2, hl, hl2]
  rw [← hE1, ← hE2]
  simp (disch := omega) only [sN, ↓reduceIte, Nat.reduceEqDiff, Nat.reduceAdd, Nat.reduceMul, Nat.reduceSub, reduceCtorEq, e_none, e_some, e_bindS, e0, e1, e2]
  rw [x_bs2 (v := .int .i64 E1) (u := .int .i64 E2) (by simp only [e_upd, e_putS, e_putN, e_t, e_c, Nat.reduceEqDiff, ↓reduceIte, reduceCtorEq, Nat.reduceAdd]) (by simp only [e_upd, e_putS, e_putN, e_t, e_c, Nat.reduceEqDiff, ↓reduceIte, reduceCtorEq, Nat.reduceAdd]) rfl rfl rfl]
  simp (disch := omega) only [sN, ↓reduceIte, Nat.reduceEqDiff, Nat.reduceAdd, Nat.reduceMul, Nat.reduceSub, reduceCtorEq, e_none, e_some, e_bindS, e0, e1, e2, List.map_cons, List.map_nil]
  refine ⟨_, (firstError_calls (H3 ++ [rw_ [.int .i64 E1, .int .i64 E2]]) (n := 2) (r := H3.length) (l := [E1, E2]) (row := ⟨true, false, [.int .i64 E1, .int .i64 E2]⟩) rfl (by omega) (by simp [Vh.rowAt, rw_]) rfl).g.mono ?_⟩
  rintro v H4 ⟨rfl, hB4⟩
  have hB5 := hB.app.trans hB4
  clear hB hB4
  rw [← hse]
  clear hse
  obtain ⟨E, hEE⟩ : ∃ e, e = sE L S := ⟨_, rfl⟩
  rw [← hEE]
  by_cases hz : E = 0
  · have hsp : spE L N S = kwE L N := by unfold spE; rw [if_pos (by rw [← hEE]; exact hz)]
    subst hz
    simp (disch := omega) only [sN, ↓reduceIte, Nat.reduceEqDiff, Nat.reduceAdd, Nat.reduceMul, Nat.reduceSub, reduceCtorEq, e_none, e_some, e_bindS, e0, e1, e2, List.map_cons, List.map_nil]
    refine ⟨_, (knows_calls H4 hk hl hm (hB5.row hr) hc hk' hl' hn (hB5.row hr') hc').g.mono ?_⟩
    rintro v H5 ⟨w, rfl, hB6, hg⟩
    have hB7 := hB5.trans hB6
    have hvi := hg.vi
    have hinc := kwL_incr (L := L) (N := N)
    have hkl := kwL_len (L := L) (N := N)
    have hsf : ∀ i, spF L N S i = decide (S.getD i 0 ∈ kwL L N) := fun i => rfl
    have hsn : spN L N S = if spE L N S = 0 then (cntB (spF L N S) S.length : Int) else 0 := rfl
    clear hB5 hB6 hg
    obtain ⟨F, hF⟩ : ∃ e, e = kwE L N := ⟨_, rfl⟩
    rw [← hF] at hsp ⊢
    by_cases hz2 : F = 0
    · subst hz2
      rw [if_pos hsp, hl2] at hsn
      obtain ⟨X, hX⟩ : ∃ e, e = kwL L N := ⟨_, rfl⟩
      rw [← hX] at hvi hinc hkl hsf
      obtain ⟨f, hf⟩ : ∃ e, e = spF L N S := ⟨_, rfl⟩
      rw [← hf] at hsf hsn
      have hr2' := hB7.row hr2
      simp (disch := omega) only [sN, ↓reduceIte, Nat.reduceEqDiff, Nat.reduceAdd, Nat.reduceMul, Nat.reduceSub, reduceCtorEq, e_none, e_some, e_bindS, e0, e1, e2, k_len hk2, List.getElem?_cons_zero, List.getElem?_cons_succ]
      refine ⟨fun t s H => ∃ i : Nat, t = k - i ∧ i ≤ k ∧ H = H5 ∧ s 9 = w ∧ s 11 = .int .i64 (cntB f i : Int) ∧ s 36 = mkS κ2 r2 0 k ∧ s 37 = .int .i64 k ∧ s 38 = .int .i64 (i : Int), k, ⟨0, rfl, by omega, rfl, ?_, ?_, ?_, ?_, ?_⟩, ?_⟩
      · simp only [e_upd, e_putS, e_putN, e_t, e_c, Nat.reduceEqDiff, ↓reduceIte, reduceCtorEq, Nat.reduceAdd]
      · simp only [e_upd, e_putS, e_putN, e_t, e_c, Nat.reduceEqDiff, ↓reduceIte, reduceCtorEq, Nat.reduceAdd]; rfl
      · simp only [e_upd, e_putS, e_putN, e_t, e_c, Nat.reduceEqDiff, ↓reduceIte, reduceCtorEq, Nat.reduceAdd]
      · simp only [e_upd, e_putS, e_putN, e_t, e_c, Nat.reduceEqDiff, ↓reduceIte, reduceCtorEq, Nat.reduceAdd]
      · simp only [e_upd, e_putS, e_putN, e_t, e_c, Nat.reduceEqDiff, ↓reduceIte, reduceCtorEq, Nat.reduceAdd]; rfl
      rintro t s H ⟨i, rfl, hi, hH, h9, h11, h36, h37, h38⟩
      rw [hH]
      have hcb := cntB_le (f := f) i
      by_cases hlt : i < k
      · have hgx : row2.cells[i]? = some (.int .i64 (S.getD i 0)) := by rw [hc2]; exact ints_get (by omega)
        obtain ⟨x, hx⟩ : ∃ x, x = S.getD i 0 := ⟨_, rfl⟩
        have hfi := hsf i
        rw [← hx] at hgx hfi
        have ia : aindexAddr 1 (mkS κ2 r2 0 k) (.int .i64 (i : Int)) = some (.ptr r2 i) := by
          rw [k_idx hk2 (Nat.le_refl k) (by omega) (by omega)]; simp
        have hst : cntB f (i + 1) = cntB f i + if f i then 1 else 0 := rfl
        simp (disch := omega) only [sN, ↓reduceIte, Nat.reduceEqDiff, Nat.reduceAdd, Nat.reduceMul, Nat.reduceSub, reduceCtorEq, e_none, e_some, e_bindS, h9, h11, h36, h37, h38, ia, hr2', hgx, Option.bind_some, List.map_cons, List.map_nil]
        refine ⟨_, (bsearch_calls H5 (x := x) hvi hinc (by omega)).g.mono ?_⟩
        rintro v H6 ⟨⟨z, rfl⟩, hH6⟩
        rw [hH6, ← hfi]
        cases hfb : f i
        · rw [hfb] at hst
          simp (disch := omega) only [sN, ↓reduceIte, Nat.reduceEqDiff, Nat.reduceAdd, Nat.reduceMul, Nat.reduceSub, reduceCtorEq, e_none, e_some, e_bindS, h9, h11, h36, h37, h38, List.getElem?_cons_zero, List.getElem?_cons_succ]
          refine loop_keep (m := k - (i + 1)) (by omega) ⟨i + 1, rfl, by omega, rfl, ?_, ?_, ?_, ?_, ?_⟩
          · simp only [e_upd, e_putS, e_putN, e_t, e_c, Nat.reduceEqDiff, ↓reduceIte, reduceCtorEq, Nat.reduceAdd, h9]
          · rw [hst]; simp only [e_upd, e_putS, e_putN, e_t, e_c, Nat.reduceEqDiff, ↓reduceIte, reduceCtorEq, Nat.reduceAdd, h11]; simp
          · simp only [e_upd, e_putS, e_putN, e_t, e_c, Nat.reduceEqDiff, ↓reduceIte, reduceCtorEq, Nat.reduceAdd, h36]
          · simp only [e_upd, e_putS, e_putN, e_t, e_c, Nat.reduceEqDiff, ↓reduceIte, reduceCtorEq, Nat.reduceAdd, h37]
          · simp only [e_upd, e_putS, e_putN, e_t, e_c, Nat.reduceEqDiff, ↓reduceIte, reduceCtorEq, Nat.reduceAdd]; first | done | rfl
        · rw [hfb] at hst
          simp (disch := omega) only [sN, ↓reduceIte, Nat.reduceEqDiff, Nat.reduceAdd, Nat.reduceMul, Nat.reduceSub, reduceCtorEq, e_none, e_some, e_bindS, h9, h11, h36, h37, h38, List.getElem?_cons_zero, List.getElem?_cons_succ]
          refine loop_keep (m := k - (i + 1)) (by omega) ⟨i + 1, rfl, by omega, rfl, ?_, ?_, ?_, ?_, ?_⟩
          · simp only [e_upd, e_putS, e_putN, e_t, e_c, Nat.reduceEqDiff, ↓reduceIte, reduceCtorEq, Nat.reduceAdd, h9]
          · rw [hst]; simp only [e_upd, e_putS, e_putN, e_t, e_c, Nat.reduceEqDiff, ↓reduceIte, reduceCtorEq, Nat.reduceAdd]; simp
          · simp only [e_upd, e_putS, e_putN, e_t, e_c, Nat.reduceEqDiff, ↓reduceIte, reduceCtorEq, Nat.reduceAdd, h36]
          · simp only [e_upd, e_putS, e_putN, e_t, e_c, Nat.reduceEqDiff, ↓reduceIte, reduceCtorEq, Nat.reduceAdd, h37]
          · simp only [e_upd, e_putS, e_putN, e_t, e_c, Nat.reduceEqDiff, ↓reduceIte, reduceCtorEq, Nat.reduceAdd]; first | done | rfl
      · obtain rfl : i = k := by omega
        simp (disch := omega) only [sN, ↓reduceIte, Nat.reduceEqDiff, Nat.reduceAdd, Nat.reduceMul, Nat.reduceSub, reduceCtorEq, e_none, e_some, e_bindS, h9, h11, h36, h37, h38]
        refine ret_keep hB7.1 ?_
        rw [show rs_spied = [.tmp 6, .tmp 7] from rfl, q_tmp2, q_then]
        refine ⟨?_, hB7⟩
        rw [hsn, hsp]
        simp only [e_upd, e_putS, e_putN, e_t, e_c, Nat.reduceEqDiff, ↓reduceIte, reduceCtorEq, Nat.reduceAdd]
    · simp (disch := omega) only [sN, ↓reduceIte, Nat.reduceEqDiff, Nat.reduceAdd, Nat.reduceMul, Nat.reduceSub, reduceCtorEq, e_none, e_some, e_bindS, e0, e1, e2, List.getElem?_cons_zero, List.getElem?_cons_succ]
      refine ret_keep hB7.1 ?_
      rw [show rs_spied = [.tmp 6, .tmp 7] from rfl, q_tmp2, q_then]
      simp only [e_upd, e_putS, e_putN, e_t, e_c, Nat.reduceEqDiff, ↓reduceIte, reduceCtorEq, Nat.reduceAdd]
      exact fin F H5 hB7 hz2 hsp
  · simp (disch := omega) only [sN, ↓reduceIte, Nat.reduceEqDiff, Nat.reduceAdd, Nat.reduceMul, Nat.reduceSub, reduceCtorEq, e_none, e_some, e_bindS, e0, e1, e2]
    refine ret_keep hB5.1 ?_
    rw [show rs_spied = [.tmp 6, .tmp 7] from rfl, q_tmp2, q_then]
    simp only [e_upd, e_putS, e_putN, e_t, e_c, Nat.reduceEqDiff, ↓reduceIte, reduceCtorEq, Nat.reduceAdd]
    exact fin E H4 hB5 hz (by unfold spE; rw [← hEE, if_neg hz])
end Go.Proofs.Ythbhljolpnbdlaa


/- Contracts of stage 4: the law SiftSpied. -/
-- NEWSET
namespace Go.Proofs.Ythbhljolpnbdlaa
open Go Go.Vh

def cntS (X l : List Int) : Nat → Nat
  | 0 => 0
  | i + 1 => cntS X l i + X.count (l.getD i 0)
theorem cntS_le {X l : List Int} : ∀ n, cntS X l n ≤ X.length * n
  | 0 => by simp [cntS]
  | n + 1 => by
    have := cntS_le (X := X) (l := l) n
    have h2 : X.count (l.getD n 0) ≤ X.length := List.count_le_length
    simp only [cntS]
    rw [Nat.mul_succ]; omega
theorem cntS_cntB {g : Nat → Bool} {m : Nat} {l : List Int} : ∀ n, (∀ i, i < n → 0 ≤ l.getD i 0 ∧ l.getD i 0 < m) → cntS (trL g m) l n = cntB (fun i => decide (l.getD i 0 ∈ trL g m)) n
  | 0, _ => rfl
  | n + 1, h => by
    obtain ⟨h0, h1⟩ := h n (by omega)
    simp only [cntS, cntB]
    rw [cntS_cntB n fun i hi => h i (by omega), trL_count h0 h1]
    congr 1
    cases hg : g (l.getD n 0).toNat
    · have : ¬ (l.getD n 0 ∈ trL g m) := fun hm => by
        obtain ⟨i, _, h2, h3⟩ := trL_mem.1 hm
        rw [h3, Int.toNat_natCast, h2] at hg; cases hg
      simp only [decide_eq_false this]
    · have : l.getD n 0 ∈ trL g m := trL_mem.2 ⟨(l.getD n 0).toNat, by omega, hg, by omega⟩
      simp only [decide_eq_true this]
theorem spN_cntS {L : List Pul} {N : List Not} {S : List Int} (hs : sE L S = 0) (hkw : kwE L N = 0) : spN L N S = (cntS (kwL L N) S S.length : Int) := by
  have hpe : pE L = 0 ∧ gE S 0 L.length S.length = 0 := by
    unfold sE at hs
    by_cases h1 : pE L = 0
    · by_cases h2 : gE S 0 L.length S.length = 0
      · exact ⟨h1, h2⟩
      · simp [fst0, h1, h2] at hs
    · simp [fst0, h1] at hs
  have hspe : spE L N S = 0 := by unfold spE; rw [if_pos hs, hkw]
  unfold spN
  rw [if_pos hspe]
  have hkl : kwL L N = trL (kn L N N.length) L.length := by unfold kwL; rw [if_pos hkw]
  rw [hkl, cntS_cntB _ fun i hi => gE_ok hpe.2 hi]
  unfold spF
  rw [hkl]

set_option maxHeartbeats 4000000 in
theorem lawSpi_calls {Ww : List Nat} (hw : ACalls Try.prog 11 [] [] Ww fun v _ => v = .bool true) (κ κ' κ2 : SK) (m n k : Nat) (L : List Pul) (N : List Not) (S : List Int) (hk : okS κ m) (hl : L.length = m) (hm : m ≤ maxLen) (hk' : okS κ' n) (hl' : N.length = n) (hn : n ≤ maxLen)
    (hk2 : okS κ2 k) (hl2 : S.length = k) (hk4 : k ≤ maxLen) :
    ACalls Try.prog 7 [mkS κ 0 0 m, mkS κ' 1 0 n, mkS κ2 2 0 k] [ro (pcells L), ro (ncells N), ro (ints .i64 S)] (List.range 3) fun v _ => v = .bool true := by
  refine ACalls.body Try.func7 ent_lawSpi ir_lawSpi_ok rs_lawSpi_ok Try.ntmps7 (by simp) rfl ?_
  unfold ir_lawSpi
  have e0 : s0 [mkS κ 0 0 m, mkS κ' 1 0 n, mkS κ2 2 0 k] 0 = mkS κ 0 0 m := rfl
  have e1 : s0 [mkS κ 0 0 m, mkS κ' 1 0 n, mkS κ2 2 0 k] 1 = mkS κ' 1 0 n := rfl
  have e2 : s0 [mkS κ 0 0 m, mkS κ' 1 0 n, mkS κ2 2 0 k] 2 = mkS κ2 2 0 k := rfl
  have hm' : (m : Int) ≤ 9223372036854775807 := by unfold maxLen at hm; omega
  have hn' : (n : Int) ≤ 9223372036854775807 := by unfold maxLen at hn; omega
  have hkk : (k : Int) ≤ 9223372036854775807 := by unfold maxLen at hk4; omega
  obtain ⟨H1, hH1⟩ : ∃ h, h = [ro (pcells L), ro (ncells N), ro (ints .i64 S)] := ⟨_, rfl⟩
  have r0 : Vh.rowAt H1 0 = some ⟨false, false, pcells L⟩ := by rw [hH1]; simp [Vh.rowAt, ro]
  have r1 : Vh.rowAt H1 1 = some ⟨false, false, ncells N⟩ := by rw [hH1]; simp [Vh.rowAt, ro]
  have r2 : Vh.rowAt H1 2 = some ⟨false, false, ints .i64 S⟩ := by rw [hH1]; simp [Vh.rowAt, ro]
  have hlen : 3 ≤ H1.length := by rw [hH1]; simp
  rw [← hH1]
  by_cases hb : m ≤ 400
  case neg =>
    simp (disch := omega) only [sN, ↓reduceIte, Nat.reduceEqDiff, Nat.reduceAdd, Nat.reduceMul, Nat.reduceSub, reduceCtorEq, e_none, e_some, e_bindS, e0, e1, e2, k_len hk, k_len hk', k_len hk2, List.map_nil]
    refine call_true6 hw fun H' => ?_
    simp (disch := omega) only [sN, ↓reduceIte, Nat.reduceEqDiff, Nat.reduceAdd, Nat.reduceMul, Nat.reduceSub, reduceCtorEq, e_none, e_some, e_bindS]
    refine ret_keep (by rw [List.length_append]; omega) ?_
    simp only [q_tmp, q_then, rs_lawSpi, e_upd, e_putS, e_putN, e_t, e_c, Nat.reduceEqDiff, ↓reduceIte, reduceCtorEq, Nat.reduceAdd]
  have hk1 := hk'
  by_cases hb' : n ≤ 400
  case neg =>
    simp (disch := omega) only [sN, ↓reduceIte, Nat.reduceEqDiff, Nat.reduceAdd, Nat.reduceMul, Nat.reduceSub, reduceCtorEq, e_none, e_some, e_bindS, e0, e1, e2, k_len hk, k_len hk1, k_len hk2, List.map_nil]
    refine call_true6 hw fun H' => ?_
    simp (disch := omega) only [sN, ↓reduceIte, Nat.reduceEqDiff, Nat.reduceAdd, Nat.reduceMul, Nat.reduceSub, reduceCtorEq, e_none, e_some, e_bindS]
    refine ret_keep (by rw [List.length_append]; omega) ?_
    simp only [q_tmp, q_then, rs_lawSpi, e_upd, e_putS, e_putN, e_t, e_c, Nat.reduceEqDiff, ↓reduceIte, reduceCtorEq, Nat.reduceAdd]
  by_cases hb2 : k ≤ 400
  case neg =>
    simp (disch := omega) only [sN, ↓reduceIte, Nat.reduceEqDiff, Nat.reduceAdd, Nat.reduceMul, Nat.reduceSub, reduceCtorEq, e_none, e_some, e_bindS, e0, e1, e2, k_len hk, k_len hk1, k_len hk2, List.map_nil]
    refine call_true6 hw fun H' => ?_
    simp (disch := omega) only [sN, ↓reduceIte, Nat.reduceEqDiff, Nat.reduceAdd, Nat.reduceMul, Nat.reduceSub, reduceCtorEq, e_none, e_some, e_bindS]
    refine ret_keep (by rw [List.length_append]; omega) ?_
    simp only [q_tmp, q_then, rs_lawSpi, e_upd, e_putS, e_putN, e_t, e_c, Nat.reduceEqDiff, ↓reduceIte, reduceCtorEq, Nat.reduceAdd]
  simp (disch := omega) only [sN, ↓reduceIte, Nat.reduceEqDiff, Nat.reduceAdd, Nat.reduceMul, Nat.reduceSub, reduceCtorEq, e_none, e_some, e_bindS, e0, e1, e2, k_len hk, k_len hk1, k_len hk2, List.map_cons, List.map_nil]
  refine ⟨_, (spied_calls H1 hk hl hb r0 rfl hk1 hl' hb' r1 rfl hk2 hl2 hb2 r2 rfl).g.mono ?_⟩
  rintro v H2 ⟨rfl, hB2⟩
  simp (disch := omega) only [sN, ↓reduceIte, Nat.reduceEqDiff, Nat.reduceAdd, Nat.reduceMul, Nat.reduceSub, reduceCtorEq, e_none, e_some, e_bindS, e0, e1, e2, List.map_cons, List.map_nil, List.getElem?_cons_zero, List.getElem?_cons_succ]
  refine ⟨_, (rSent_calls H2 hk hl hm (hB2.row r0) rfl hk2 hl2 hb2 (hB2.row r2) rfl).g.mono ?_⟩
  rintro v H3 ⟨w3, rfl, hB3, _⟩
  have hB23 := hB2.trans hB3
  simp (disch := omega) only [sN, ↓reduceIte, Nat.reduceEqDiff, Nat.reduceAdd, Nat.reduceMul, Nat.reduceSub, reduceCtorEq, e_none, e_some, e_bindS, e0, e1, e2, List.map_cons, List.map_nil, List.getElem?_cons_zero, List.getElem?_cons_succ]
  refine ⟨_, (rKnows_calls H3 hk hl hb (hB23.row r0) rfl hk1 hl' hb' (hB23.row r1) rfl).g.mono ?_⟩
  rintro v H4 ⟨w4, rfl, hB4, hg4⟩
  have hB := hB23.trans hB4
  have hL4 := hB.1
  have hvi := hg4.vi
  have hsum := spN_cntS (L := L) (N := N) (S := S)
  have hspe : spE L N S = if sE L S = 0 then kwE L N else sE L S := rfl
  have hspn : spE L N S ≠ 0 → spN L N S = 0 := fun h => by unfold spN; rw [if_neg h]
  have hkl := kwL_len (L := L) (N := N)
  obtain ⟨E, hE⟩ : ∃ e, e = sE L S := ⟨_, rfl⟩
  obtain ⟨F, hF⟩ : ∃ e, e = kwE L N := ⟨_, rfl⟩
  obtain ⟨X, hX⟩ : ∃ e, e = kwL L N := ⟨_, rfl⟩
  obtain ⟨c, hc⟩ : ∃ e, e = spN L N S := ⟨_, rfl⟩
  rw [← hE, ← hF] at hsum hspe
  rw [← hX] at hsum hvi hkl
  rw [← hc] at hsum hspn
  rw [← hc, ← hE, ← hF, hspe]
  clear hB2 hB3 hB4 hB23 hg4 hE hF hX hc
  by_cases hz : E = 0
  case neg =>
    rw [if_neg hz] at hspe ⊢
    rw [hspn (by rw [hspe]; exact hz)]
    simp (disch := omega) only [sN, ↓reduceIte, Nat.reduceEqDiff, Nat.reduceAdd, Nat.reduceMul, Nat.reduceSub, reduceCtorEq, e_none, e_some, e_bindS, e0, e1, e2, List.map_nil, List.getElem?_cons_zero, List.getElem?_cons_succ]
    refine call_true6 hw fun H' => ?_
    simp (disch := omega) only [sN, ↓reduceIte, Nat.reduceEqDiff, Nat.reduceAdd, Nat.reduceMul, Nat.reduceSub, reduceCtorEq, e_none, e_some, e_bindS]
    refine ret_keep (by rw [List.length_append]; omega) ?_
    simp only [q_tmp, q_then, rs_lawSpi, e_upd, e_putS, e_putN, e_t, e_c, Nat.reduceEqDiff, ↓reduceIte, reduceCtorEq, Nat.reduceAdd]
  by_cases hz2 : F = 0
  case neg =>
    rw [if_pos hz] at hspe ⊢
    rw [hspn (by rw [hspe]; exact hz2), hz]
    simp (disch := omega) only [sN, ↓reduceIte, Nat.reduceEqDiff, Nat.reduceAdd, Nat.reduceMul, Nat.reduceSub, reduceCtorEq, e_none, e_some, e_bindS, e0, e1, e2, List.map_nil, List.getElem?_cons_zero, List.getElem?_cons_succ]
    refine call_true6 hw fun H' => ?_
    simp (disch := omega) only [sN, ↓reduceIte, Nat.reduceEqDiff, Nat.reduceAdd, Nat.reduceMul, Nat.reduceSub, reduceCtorEq, e_none, e_some, e_bindS]
    refine ret_keep (by rw [List.length_append]; omega) ?_
    simp only [q_tmp, q_then, rs_lawSpi, e_upd, e_putS, e_putN, e_t, e_c, Nat.reduceEqDiff, ↓reduceIte, reduceCtorEq, Nat.reduceAdd]
  have hsum := hsum hz hz2
  rw [if_pos hz, hz, hz2, hsum]
  clear hsum hspn hspe hz hz2
  obtain ⟨κ4, q, hkq, hw4, hrow4⟩ := hvi
  obtain ⟨p, hp⟩ : ∃ p, X.length = p := ⟨_, rfl⟩
  rw [hp] at hkq hw4 hrow4
  rw [hw4]
  have r2' := hB.row r2
  have hcs := cntS_le (X := X) (l := S) k
  have hpk : X.length * k ≤ 400 * 400 := Nat.mul_le_mul (by omega) hb2
  simp (disch := omega) only [sN, ↓reduceIte, Nat.reduceEqDiff, Nat.reduceAdd, Nat.reduceMul, Nat.reduceSub, reduceCtorEq, e_none, e_some, e_bindS, e0, e1, e2, List.getElem?_cons_zero, List.getElem?_cons_succ]
  refine ⟨fun t s H => ∃ i : Nat, t = k - i ∧ i ≤ k ∧ H = H4 ∧ s 2 = mkS κ2 2 0 k ∧ s 7 = .int .i64 (cntS X S S.length : Int) ∧ s 8 = .int .i64 0 ∧ s 11 = mkS κ4 q 0 p ∧ s 13 = .int .i64 (cntS X S i : Int) ∧ s 14 = .int .i64 (i : Int), k, ⟨0, rfl, by omega, rfl, ?_, ?_, ?_, ?_, ?_, ?_⟩, ?_⟩
  · simp only [e_upd, e_putS, e_putN, e_t, e_c, Nat.reduceEqDiff, ↓reduceIte, reduceCtorEq, Nat.reduceAdd, e2]
  · simp only [e_upd, e_putS, e_putN, e_t, e_c, Nat.reduceEqDiff, ↓reduceIte, reduceCtorEq, Nat.reduceAdd]
  · simp only [e_upd, e_putS, e_putN, e_t, e_c, Nat.reduceEqDiff, ↓reduceIte, reduceCtorEq, Nat.reduceAdd]
  · simp only [e_upd, e_putS, e_putN, e_t, e_c, Nat.reduceEqDiff, ↓reduceIte, reduceCtorEq, Nat.reduceAdd]
  · simp only [e_upd, e_putS, e_putN, e_t, e_c, Nat.reduceEqDiff, ↓reduceIte, reduceCtorEq, Nat.reduceAdd]; rfl
  · simp only [e_upd, e_putS, e_putN, e_t, e_c, Nat.reduceEqDiff, ↓reduceIte, reduceCtorEq, Nat.reduceAdd]; rfl
  rintro t s H ⟨i, rfl, hi, hH, h2, h7, h8, h11, h13, h14⟩
  rw [hH]
  have hci := cntS_le (X := X) (l := S) i
  have hpi : X.length * i ≤ 400 * 400 := Nat.mul_le_mul (by omega) (by omega)
  by_cases hlt : i < k
  · have hgx : (ints .i64 S)[i]? = some (.int .i64 (S.getD i 0)) := ints_get (by omega)
    obtain ⟨x, hx⟩ : ∃ x, x = S.getD i 0 := ⟨_, rfl⟩
    have hst : cntS X S (i + 1) = cntS X S i + X.count x := by rw [hx]; rfl
    rw [← hx] at hgx
    have ia : aindexAddr 1 (mkS κ2 2 0 k) (.int .i64 (i : Int)) = some (.ptr 2 i) := by
      rw [k_idx hk2 (Nat.le_refl k) (by omega) (by omega)]; simp
    simp (disch := omega) only [sN, ↓reduceIte, Nat.reduceEqDiff, Nat.reduceAdd, Nat.reduceMul, Nat.reduceSub, reduceCtorEq, e_none, e_some, e_bindS, h2, h7, h8, h11, h13, h14, k_len hk2]
    refine ⟨fun t s H => ∃ j : Nat, t = p - j ∧ j ≤ p ∧ H = H4 ∧ s 2 = mkS κ2 2 0 k ∧ s 7 = .int .i64 (cntS X S S.length : Int) ∧ s 8 = .int .i64 0 ∧ s 11 = mkS κ4 q 0 p ∧ s 13 = .int .i64 (cntS X S i + (X.take j).count x : Int) ∧ s 14 = .int .i64 (i : Int) ∧ s 15 = .int .i64 (j : Int), p, ⟨0, rfl, by omega, rfl, ?_, ?_, ?_, ?_, ?_, ?_, ?_⟩, ?_⟩
    · simp only [e_upd, e_putS, e_putN, e_t, e_c, Nat.reduceEqDiff, ↓reduceIte, reduceCtorEq, Nat.reduceAdd, h2]
    · simp only [e_upd, e_putS, e_putN, e_t, e_c, Nat.reduceEqDiff, ↓reduceIte, reduceCtorEq, Nat.reduceAdd, h7]
    · simp only [e_upd, e_putS, e_putN, e_t, e_c, Nat.reduceEqDiff, ↓reduceIte, reduceCtorEq, Nat.reduceAdd, h8]
    · simp only [e_upd, e_putS, e_putN, e_t, e_c, Nat.reduceEqDiff, ↓reduceIte, reduceCtorEq, Nat.reduceAdd, h11]
    · simp only [e_upd, e_putS, e_putN, e_t, e_c, Nat.reduceEqDiff, ↓reduceIte, reduceCtorEq, Nat.reduceAdd, h13]; simp
    · simp only [e_upd, e_putS, e_putN, e_t, e_c, Nat.reduceEqDiff, ↓reduceIte, reduceCtorEq, Nat.reduceAdd, h14]
    · simp only [e_upd, e_putS, e_putN, e_t, e_c, Nat.reduceEqDiff, ↓reduceIte, reduceCtorEq, Nat.reduceAdd]; rfl
    rintro t s H ⟨j, rfl, hj, hH, h2, h7, h8, h11, h13, h14, h15⟩
    rw [hH]
    have htl : (X.take j).count x ≤ X.length := Nat.le_trans List.count_le_length (by simp; omega)
    by_cases hlt2 : j < p
    · obtain ⟨row, hr, hcc⟩ := hrow4 (by omega)
      have hgy : row.cells[j]? = some (.int .i64 (X.getD j 0)) := by rw [hcc]; exact ints_get (by omega)
      have htk : (X.take (j + 1)).count x = (X.take j).count x + if X.getD j 0 = x then 1 else 0 := by
        rw [List.take_add_one, List.count_append, List.getElem?_eq_getElem (by omega)]
        simp only [Option.toList_some, List.count_singleton]
        rw [show X.getD j 0 = X[j]'(by omega) by simp [List.getD_eq_getElem?_getD, show j < X.length by omega]]
        simp
      obtain ⟨y, hy⟩ : ∃ y, y = X.getD j 0 := ⟨_, rfl⟩
      rw [← hy] at hgy htk
      have ib : aindexAddr 1 (mkS κ4 q 0 p) (.int .i64 (j : Int)) = some (.ptr q j) := by
        rw [k_idx hkq (Nat.le_refl p) (by omega) (by omega)]; simp
      by_cases hyx : y = x
      · rw [if_pos hyx] at htk
        simp (disch := omega) only [sN, ↓reduceIte, Nat.reduceEqDiff, Nat.reduceAdd, Nat.reduceMul, Nat.reduceSub, reduceCtorEq, e_none, e_some, e_bindS, h2, h7, h8, h11, h13, h14, h15, k_len hkq, ia, ib, hr, hgy, r2', hgx, Option.bind_some]
        refine loop_keep (m := p - (j + 1)) (by omega) ⟨j + 1, rfl, by omega, rfl, ?_, ?_, ?_, ?_, ?_, ?_, ?_⟩
        · simp only [e_upd, e_putS, e_putN, e_t, e_c, Nat.reduceEqDiff, ↓reduceIte, reduceCtorEq, Nat.reduceAdd, h2]
        · simp only [e_upd, e_putS, e_putN, e_t, e_c, Nat.reduceEqDiff, ↓reduceIte, reduceCtorEq, Nat.reduceAdd, h7]
        · simp only [e_upd, e_putS, e_putN, e_t, e_c, Nat.reduceEqDiff, ↓reduceIte, reduceCtorEq, Nat.reduceAdd, h8]
        · simp only [e_upd, e_putS, e_putN, e_t, e_c, Nat.reduceEqDiff, ↓reduceIte, reduceCtorEq, Nat.reduceAdd, h11]
        · rw [htk]; simp only [e_upd, e_putS, e_putN, e_t, e_c, Nat.reduceEqDiff, ↓reduceIte, reduceCtorEq, Nat.reduceAdd]; first | done | (congr 1; done) | (congr 1; omega)
        · simp only [e_upd, e_putS, e_putN, e_t, e_c, Nat.reduceEqDiff, ↓reduceIte, reduceCtorEq, Nat.reduceAdd, h14]
        · simp only [e_upd, e_putS, e_putN, e_t, e_c, Nat.reduceEqDiff, ↓reduceIte, reduceCtorEq, Nat.reduceAdd]; first | done | rfl
      · rw [if_neg hyx] at htk
        simp (disch := omega) only [sN, ↓reduceIte, Nat.reduceEqDiff, Nat.reduceAdd, Nat.reduceMul, Nat.reduceSub, reduceCtorEq, e_none, e_some, e_bindS, h2, h7, h8, h11, h13, h14, h15, k_len hkq, ia, ib, hr, hgy, r2', hgx, Option.bind_some]
        refine loop_keep (m := p - (j + 1)) (by omega) ⟨j + 1, rfl, by omega, rfl, ?_, ?_, ?_, ?_, ?_, ?_, ?_⟩
        · simp only [e_upd, e_putS, e_putN, e_t, e_c, Nat.reduceEqDiff, ↓reduceIte, reduceCtorEq, Nat.reduceAdd, h2]
        · simp only [e_upd, e_putS, e_putN, e_t, e_c, Nat.reduceEqDiff, ↓reduceIte, reduceCtorEq, Nat.reduceAdd, h7]
        · simp only [e_upd, e_putS, e_putN, e_t, e_c, Nat.reduceEqDiff, ↓reduceIte, reduceCtorEq, Nat.reduceAdd, h8]
        · simp only [e_upd, e_putS, e_putN, e_t, e_c, Nat.reduceEqDiff, ↓reduceIte, reduceCtorEq, Nat.reduceAdd, h11]
        · rw [htk]; simp only [e_upd, e_putS, e_putN, e_t, e_c, Nat.reduceEqDiff, ↓reduceIte, reduceCtorEq, Nat.reduceAdd, h13]; simp
        · simp only [e_upd, e_putS, e_putN, e_t, e_c, Nat.reduceEqDiff, ↓reduceIte, reduceCtorEq, Nat.reduceAdd, h14]
        · simp only [e_upd, e_putS, e_putN, e_t, e_c, Nat.reduceEqDiff, ↓reduceIte, reduceCtorEq, Nat.reduceAdd]; first | done | rfl
    · obtain rfl : j = p := by omega
      rw [List.take_of_length_le (by omega)] at h13
      simp (disch := omega) only [sN, ↓reduceIte, Nat.reduceEqDiff, Nat.reduceAdd, Nat.reduceMul, Nat.reduceSub, reduceCtorEq, e_none, e_some, e_bindS, h2, h7, h8, h11, h13, h14, h15, k_len hkq]
      refine loop_keep (m := k - (i + 1)) (by omega) ⟨i + 1, rfl, by omega, rfl, ?_, ?_, ?_, ?_, ?_, ?_⟩
      · simp only [e_upd, e_putS, e_putN, e_t, e_c, Nat.reduceEqDiff, ↓reduceIte, reduceCtorEq, Nat.reduceAdd, h2]
      · simp only [e_upd, e_putS, e_putN, e_t, e_c, Nat.reduceEqDiff, ↓reduceIte, reduceCtorEq, Nat.reduceAdd, h7]
      · simp only [e_upd, e_putS, e_putN, e_t, e_c, Nat.reduceEqDiff, ↓reduceIte, reduceCtorEq, Nat.reduceAdd, h8]
      · simp only [e_upd, e_putS, e_putN, e_t, e_c, Nat.reduceEqDiff, ↓reduceIte, reduceCtorEq, Nat.reduceAdd, h11]
      · rw [hst]; simp only [e_upd, e_putS, e_putN, e_t, e_c, Nat.reduceEqDiff, ↓reduceIte, reduceCtorEq, Nat.reduceAdd, h13]; first | done | congr 1
      · simp only [e_upd, e_putS, e_putN, e_t, e_c, Nat.reduceEqDiff, ↓reduceIte, reduceCtorEq, Nat.reduceAdd]; first | done | rfl
  · obtain rfl : i = k := by omega
    rw [hl2] at h7
    simp (disch := omega) only [sN, ↓reduceIte, Nat.reduceEqDiff, Nat.reduceAdd, Nat.reduceMul, Nat.reduceSub, reduceCtorEq, e_none, e_some, e_bindS, h2, h7, h8, h11, h13, h14, k_len hk2, List.map_nil]
    refine call_true6 hw fun H' => ?_
    simp (disch := omega) only [sN, ↓reduceIte, Nat.reduceEqDiff, Nat.reduceAdd, Nat.reduceMul, Nat.reduceSub, reduceCtorEq, e_none, e_some, e_bindS]
    refine ret_keep (by rw [List.length_append]; omega) ?_
    simp only [q_tmp, q_then, rs_lawSpi, e_upd, e_putS, e_putN, e_t, e_c, Nat.reduceEqDiff, ↓reduceIte, reduceCtorEq, Nat.reduceAdd]
end Go.Proofs.Ythbhljolpnbdlaa

