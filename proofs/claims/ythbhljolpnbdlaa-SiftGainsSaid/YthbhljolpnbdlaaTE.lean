/- Contracts of stage 4: Agreement. -/
import Derived.Test.YthbhljolpnbdlaaVX
import Derived.Test.YthbhljolpnbdlaaT12
import Derived.Test.YthbhljolpnbdlaaRD
set_option linter.unusedSimpArgs false
set_option linter.unusedVariables false
-- NEWSET
namespace Go.Proofs.Ythbhljolpnbdlaa
open Go Go.Vh

def agE (L : List Pul) (l : List Int) (m : Nat) (sh : Int) : Int := fst0 [pE L, cE l m, if -16 ≤ sh ∧ sh ≤ 16 then 0 else 3]
def scA (L : List Pul) (l : List Int) (m : Nat) (sh : Int) : Int := if agE L l m sh = 0 then (cntB (agI L l m sh) L.length : Int) - 2 * (cntB (wrI L l m sh) L.length : Int) else 0

set_option maxHeartbeats 2000000 in
theorem agreement_gen (H0 : AHeap) {κ κ' : SK} {n m r r' : Nat} {L : List Pul} {l : List Int} {row row' : ARow} {sh : Int} (hk : okS κ n) (hl : L.length = n) (hn : n ≤ maxLen) (hr : Vh.rowAt H0 r = some row) (hc : row.cells = pcells L)
    (hk' : okS κ' m) (hl' : l.length = m * 2) (hm : m ≤ maxLen) (hr' : Vh.rowAt H0 r' = some row') (hc' : row'.cells = ints .i64 l) {R : AV → AHeap → Prop}
    (hR : ∀ (s : St) (H : AHeap), Base H0 H → s 6 = .int .i64 (scA L l m sh) → s 7 = .int .i64 (agE L l m sh) → retPost H0.length rs_agreement R .ret s H) :
    ACalls Try.prog 12 [mkS κ r 0 n, mkS κ' r' 0 m, .int .i64 sh] H0 (List.range H0.length) R := by
  refine ACalls.body Try.func12 ent_agreement ir_agreement_ok rs_agreement_ok Try.ntmps12 (by simp) rfl ?_
  unfold ir_agreement
  have e0 : s0 [mkS κ r 0 n, mkS κ' r' 0 m, .int .i64 sh] 0 = mkS κ r 0 n := rfl
  have e1 : s0 [mkS κ r 0 n, mkS κ' r' 0 m, .int .i64 sh] 1 = mkS κ' r' 0 m := rfl
  have e2 : s0 [mkS κ r 0 n, mkS κ' r' 0 m, .int .i64 sh] 2 = .int .i64 sh := rfl
  simp (disch := omega) only [sN, ↓reduceIte, Nat.reduceEqDiff, Nat.reduceAdd, Nat.reduceMul, Nat.reduceSub, reduceCtorEq, e_none, e_some, e_bindS, e0, e1, e2, List.map_cons, List.map_nil]
  refine ⟨_, (checkPulses_calls H0 hk hl hn hr hc).g.mono ?_⟩
  rintro v H1 ⟨rfl, hB1⟩
  simp (disch := omega) only [sN, ↓reduceIte, Nat.reduceEqDiff, Nat.reduceAdd, Nat.reduceMul, Nat.reduceSub, reduceCtorEq, e_none, e_some, e_bindS, e0, e1, e2, List.map_cons, List.map_nil]
  refine ⟨_, (checkClicks_calls H1 hk' hl' hm (hB1.row hr') hc').g.mono ?_⟩
  rintro v H2 ⟨rfl, hB2⟩
  have hB := hB1.trans hB2
  clear hB1 hB2
  obtain ⟨E1, hE1⟩ : ∃ e, e = pE L := ⟨_, rfl⟩
  obtain ⟨E2, hE2⟩ : ∃ e, e = cE l m := ⟨_, rfl⟩
  rw [← hE1, ← hE2]
  simp (disch := omega) only [sN, ↓reduceIte, Nat.reduceEqDiff, Nat.reduceAdd, Nat.reduceMul, Nat.reduceSub, reduceCtorEq, e_none, e_some, e_bindS, e0, e1, e2]
  rw [x_bs2 (v := .int .i64 E1) (u := .int .i64 E2) (by simp only [e_upd, e_putS, e_putN, e_t, e_c, Nat.reduceEqDiff, ↓reduceIte, reduceCtorEq, Nat.reduceAdd]) (by simp only [e_upd, e_putS, e_putN, e_t, e_c, Nat.reduceEqDiff, ↓reduceIte, reduceCtorEq, Nat.reduceAdd]) rfl rfl rfl]
  simp (disch := omega) only [sN, ↓reduceIte, Nat.reduceEqDiff, Nat.reduceAdd, Nat.reduceMul, Nat.reduceSub, reduceCtorEq, e_none, e_some, e_bindS, e0, e1, e2, List.map_cons, List.map_nil]
  refine ⟨_, (firstError_calls (H2 ++ [rw_ [.int .i64 E1, .int .i64 E2]]) (n := 2) (r := H2.length) (l := [E1, E2]) (row := ⟨true, false, [.int .i64 E1, .int .i64 E2]⟩) rfl (by omega) (by simp [Vh.rowAt, rw_]) rfl).g.mono ?_⟩
  rintro v H3 ⟨rfl, hB3⟩
  have hB3' := hB.app.trans hB3
  clear hB hB3
  by_cases hz1 : E1 = 0
  · by_cases hz2 : E2 = 0
    · have hh : fst0 [E1, E2] = 0 := by simp [fst0, hz1, hz2]
      rw [hh]
      have hP : n ≤ 4096 ∧ L.all okP = true := by
        rw [hz1] at hE1; unfold pE at hE1
        split at hE1
        · split at hE1
          · exact ⟨by omega, ‹_›⟩
          · omega
        · omega
      have hC : m ≤ 4096 ∧ okCs l m = true := by
        rw [hz2] at hE2; unfold cE at hE2
        split at hE2
        · split at hE2
          · exact ⟨by omega, ‹_›⟩
          · omega
        · omega
      simp (disch := omega) only [sN, ↓reduceIte, Nat.reduceEqDiff, Nat.reduceAdd, Nat.reduceMul, Nat.reduceSub, reduceCtorEq, e_none, e_some, e_bindS, e0, e1, e2, List.map_cons, List.map_nil]
      refine ⟨_, (agreeG_calls H3 hk hl hP.1 (hB3'.row hr) hc hP.2 hk' hl' hC.1 (hB3'.row hr') hc' hC.2).g.mono ?_⟩
      rintro v H4 ⟨a, b, rfl, hB4, hg⟩
      have hB5 := hB3'.trans hB4
      have hag : agE L l m sh = if -16 ≤ sh ∧ sh ≤ 16 then 0 else 3 := by
        unfold agE; rw [← hE1, ← hE2, hz1, hz2]
        simp only [fst0, if_true]
        split <;> simp
      by_cases hs : -16 ≤ sh ∧ sh ≤ 16
      · rw [if_pos hs] at hag ⊢
        obtain ⟨⟨q1, g1⟩, ⟨q2, g2⟩⟩ := hg hs
        have l1 := g1.len
        have l2 := g2.len
        have b1 := cntB_le (f := agI L l m sh) L.length
        have b2 := cntB_le (f := wrI L l m sh) L.length
        have hsc : scA L l m sh = (cntB (agI L l m sh) L.length : Int) - 2 * (cntB (wrI L l m sh) L.length : Int) := by unfold scA; rw [if_pos hag]
        simp (disch := omega) only [sN, ↓reduceIte, Nat.reduceEqDiff, Nat.reduceAdd, Nat.reduceMul, Nat.reduceSub, reduceCtorEq, e_none, e_some, e_bindS, e0, e1, e2, List.getElem?_cons_zero, List.getElem?_cons_succ, l1, l2]
        refine hR _ _ hB5 ?_ ?_
        · rw [hsc]; simp only [e_upd, e_putS, e_putN, e_t, e_c, Nat.reduceEqDiff, ↓reduceIte, reduceCtorEq, Nat.reduceAdd]
        · rw [hag]; simp only [e_upd, e_putS, e_putN, e_t, e_c, Nat.reduceEqDiff, ↓reduceIte, reduceCtorEq, Nat.reduceAdd]
      · rw [if_neg hs] at hag ⊢
        have hsc : scA L l m sh = 0 := by unfold scA; rw [if_neg (by omega)]
        simp (disch := omega) only [sN, ↓reduceIte, Nat.reduceEqDiff, Nat.reduceAdd, Nat.reduceMul, Nat.reduceSub, reduceCtorEq, e_none, e_some, e_bindS, e0, e1, e2, List.getElem?_cons_zero, List.getElem?_cons_succ]
        refine hR _ _ hB5 ?_ ?_
        · rw [hsc]; simp only [e_upd, e_putS, e_putN, e_t, e_c, Nat.reduceEqDiff, ↓reduceIte, reduceCtorEq, Nat.reduceAdd]
        · rw [hag]; simp only [e_upd, e_putS, e_putN, e_t, e_c, Nat.reduceEqDiff, ↓reduceIte, reduceCtorEq, Nat.reduceAdd]
    · have hh : fst0 [E1, E2] = E2 := by simp [fst0, hz1, hz2]
      rw [hh]
      have hag : agE L l m sh = E2 := by unfold agE; rw [← hE1, ← hE2]; simp [fst0, hz1, hz2]
      have hsc : scA L l m sh = 0 := by unfold scA; rw [if_neg (by omega)]
      simp (disch := omega) only [sN, ↓reduceIte, Nat.reduceEqDiff, Nat.reduceAdd, Nat.reduceMul, Nat.reduceSub, reduceCtorEq, e_none, e_some, e_bindS, e0, e1, e2]
      refine hR _ _ hB3' ?_ ?_
      · rw [hsc]; simp only [e_upd, e_putS, e_putN, e_t, e_c, Nat.reduceEqDiff, ↓reduceIte, reduceCtorEq, Nat.reduceAdd]
      · rw [hag]; simp only [e_upd, e_putS, e_putN, e_t, e_c, Nat.reduceEqDiff, ↓reduceIte, reduceCtorEq, Nat.reduceAdd]
  · have hh : fst0 [E1, E2] = E1 := by simp [fst0, hz1]
    rw [hh]
    have hag : agE L l m sh = E1 := by unfold agE; rw [← hE1, ← hE2]; simp [fst0, hz1]
    have hsc : scA L l m sh = 0 := by unfold scA; rw [if_neg (by omega)]
    simp (disch := omega) only [sN, ↓reduceIte, Nat.reduceEqDiff, Nat.reduceAdd, Nat.reduceMul, Nat.reduceSub, reduceCtorEq, e_none, e_some, e_bindS, e0, e1, e2]
    refine hR _ _ hB3' ?_ ?_
    · rw [hsc]; simp only [e_upd, e_putS, e_putN, e_t, e_c, Nat.reduceEqDiff, ↓reduceIte, reduceCtorEq, Nat.reduceAdd]
    · rw [hag]; simp only [e_upd, e_putS, e_putN, e_t, e_c, Nat.reduceEqDiff, ↓reduceIte, reduceCtorEq, Nat.reduceAdd]
end Go.Proofs.Ythbhljolpnbdlaa


/- Contracts of stage 4: known(). -/
-- NEWSET
namespace Go.Proofs.Ythbhljolpnbdlaa
open Go Go.Vh

def kP : List Pul := [⟨0, true, 2, 1, true⟩, ⟨1, false, 2, 1, true⟩]
def kC : List Int := [1, 1, 0, 2, 1, 1]

theorem agreement_k (sh : Int) : ACalls Try.prog 12 [.slice 0 0 2 2, .slice 1 0 3 3, .int .i64 sh] [ro (pcells kP), ro (ints .i64 kC)] (List.range 2) fun v H => v = .tuple [.int .i64 (scA kP kC 3 sh), .int .i64 (agE kP kC 3 sh)] ∧ H = [ro (pcells kP), ro (ints .i64 kC)] := by
  refine agreement_gen [ro (pcells kP), ro (ints .i64 kC)] (κ := .cap 2) (κ' := .cap 3) (n := 2) (m := 3) (r := 0) (r' := 1) (L := kP) (l := kC) (row := ⟨false, false, pcells kP⟩) (row' := ⟨false, false, ints .i64 kC⟩) (show 2 ≤ 2 by omega) rfl (by unfold maxLen; omega) (by simp [Vh.rowAt, ro]) rfl (show 3 ≤ 3 by omega) rfl (by unfold maxLen; omega) (by simp [Vh.rowAt, ro]) rfl ?_
  intro s H hB h6 h7
  have r0 := hB.row (r := 0) (row := ⟨false, false, pcells kP⟩) (by simp [Vh.rowAt, ro])
  have r1 := hB.row (r := 1) (row := ⟨false, false, ints .i64 kC⟩) (by simp [Vh.rowAt, ro])
  have hlen : 2 ≤ H.length := hB.1
  have hg : gcH [0, 1] H = [ro (pcells kP), ro (ints .i64 kC)] := by
    simp only [gcH, List.map_cons, List.map_nil, r0, r1]
    rfl
  refine ret_gc [0, 1] ?_ (by rw [hg]; rfl) (by simp) ?_
  · simp only [gcOK, List.all_cons, List.all_nil, Bool.and_true, Bool.and_eq_true, decide_eq_true_eq]
    exact ⟨⟨rfl, by omega, by omega⟩, by decide⟩
  · rw [hg, show rs_agreement = [.tmp 6, .tmp 7] from rfl, q_tmp2, q_then]
    refine ⟨?_, rfl⟩
    simp only [gcS, h6, h7]
    rfl

/-- Agreement of known()'s pulses and clicks, answered beforehand. -/
def preK : Caller := fun f args H => if f = 12 then match args with
  | [.slice a 0 2 2, .slice b 0 3 3, .int .i64 sh] => match Vh.rowAt H a, Vh.rowAt H b with
    | some ra, some rb => if avEqL ra.cells (pcells kP) && avEqL rb.cells (ints .i64 kC) then some (.tuple [.int .i64 (scA kP kC 3 sh), .int .i64 (agE kP kC 3 sh)], H) else none
    | _, _ => none
  | _ => none
  else none
theorem preK_ok : CallOK Try.prog noG preK := by
  intro f args H v H' h
  unfold preK at h
  split at h
  case isFalse => cases h
  rename_i hf; subst hf
  split at h
  case h_2 => cases h
  rename_i a b sh
  split at h
  case h_2 => cases h
  rename_i ra rb ha hb
  split at h
  case isFalse => cases h
  rename_i hc
  simp only [Bool.and_eq_true] at hc
  have c1 := avEqL_ok _ _ hc.1
  have c2 := avEqL_ok _ _ hc.2
  simp only [Option.some.injEq, Prod.mk.injEq] at h
  obtain ⟨rfl, rfl⟩ := h
  have hfr := ACalls.frame (agreement_k sh) H [(a, 0), (b, 0)] rfl rfl ⟨seen_ro_whole ha (by rw [c1]; rfl) rfl, seen_ro_whole hb (by rw [c2]; rfl) rfl, trivial⟩ rfl
  have hn : renL (sig [(a, 0), (b, 0)] H.length) [.slice 0 0 2 2, .slice 1 0 3 3, .int .i64 sh] = [.slice a 0 2 2, .slice b 0 3 3, .int .i64 sh] := by
    simp [renL, AV.ren, sig]
  rw [hn] at hfr
  refine ⟨_, hfr.mono ?_⟩
  rintro v2 H2 ⟨v0, H0', ⟨rfl, rfl⟩, rfl, rfl⟩
  refine ⟨rfl, ?_⟩
  rw [m_merge, m_ro, m_ro, m_nil]
  simp
end Go.Proofs.Ythbhljolpnbdlaa

