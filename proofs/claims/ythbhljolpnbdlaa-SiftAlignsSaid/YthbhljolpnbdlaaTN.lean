/- Contracts of stage 4: the reference's Agreement. -/
import Derived.Test.YthbhljolpnbdlaaVX
import Derived.Test.YthbhljolpnbdlaaSIr8
import Derived.Test.YthbhljolpnbdlaaTF
import Derived.Test.YthbhljolpnbdlaaTE
import Derived.Test.YthbhljolpnbdlaaTI
set_option linter.unusedSimpArgs false
set_option linter.unusedVariables false
-- NEWSET
namespace Go.Proofs.Ythbhljolpnbdlaa
open Go Go.Vh

def scI (L : List Pul) (l : List Int) (m : Nat) (sh : Int) (i : Nat) : Int := (cntB (agI L l m sh) i : Int) - 2 * (cntB (wrI L l m sh) i : Int)
theorem wr_ag {L : List Pul} {l : List Int} {m : Nat} {sh : Int} : ∀ n, cntB (wrI L l m sh) n ≤ cntB (agI L l m sh) n
  | 0 => Nat.le_refl 0
  | n + 1 => by
    have := wr_ag (L := L) (l := l) (m := m) (sh := sh) n
    simp only [cntB]
    have h : wrI L l m sh n = true → agI L l m sh n = true := fun h => by unfold wrI at h; simp only [Bool.and_eq_true] at h; exact h.1
    split <;> split <;> first | omega | (rename_i h1 h2; exact absurd (h h1) h2)
theorem scI_rng {L : List Pul} {l : List Int} {m : Nat} {sh : Int} (n : Nat) : -(n : Int) ≤ scI L l m sh n ∧ scI L l m sh n ≤ n := by
  have h1 := wr_ag (L := L) (l := l) (m := m) (sh := sh) n
  have h2 := cntB_le (f := agI L l m sh) n
  unfold scI
  omega
theorem scI_no {L : List Pul} {l : List Int} {m : Nat} {sh : Int} {i : Nat} (h : agI L l m sh i = false) : scI L l m sh (i + 1) = scI L l m sh i := by
  have h2 : wrI L l m sh i = false := by unfold wrI; rw [h]; rfl
  unfold scI; simp only [cntB, h, h2]; simp
theorem scI_up {L : List Pul} {l : List Int} {m : Nat} {sh : Int} {i : Nat} (h : agI L l m sh i = true) (h2 : wrI L l m sh i = false) : scI L l m sh (i + 1) = scI L l m sh i + 1 := by
  unfold scI; simp only [cntB, h, h2]; simp; omega
theorem scI_dn {L : List Pul} {l : List Int} {m : Nat} {sh : Int} {i : Nat} (h : agI L l m sh i = true) (h2 : wrI L l m sh i = true) : scI L l m sh (i + 1) = scI L l m sh i - 1 := by
  unfold scI; simp only [cntB, h, h2]; simp; omega

theorem bTF : ((true : Bool) == false) = false := rfl
theorem bFT : ((false : Bool) == true) = false := rfl

set_option maxHeartbeats 4000000 in
theorem rScore_calls (H0 : AHeap) {κ κ' : SK} {n m r r' : Nat} {L : List Pul} {l : List Int} {row row' : ARow} {sh : Int} (hk : okS κ n) (hl : L.length = n) (hn : n ≤ 4096) (hr : Vh.rowAt H0 r = some row) (hc : row.cells = pcells L)
    (hk' : okS κ' m) (hl' : l.length = m * 2) (hm : m ≤ 4096) (hr' : Vh.rowAt H0 r' = some row') (hc' : row'.cells = ints .i64 l) (hs : -16 ≤ sh ∧ sh ≤ 16) :
    ACalls Try.prog 50 [mkS κ r 0 n, mkS κ' r' 0 m, .int .i64 sh] H0 (List.range H0.length) fun v H => v = .int .i64 (scI L l m sh n) ∧ H = H0 := by
  refine ACalls.body Try.func50 ent_rScore ir_rScore_ok rs_rScore_ok Try.ntmps50 (by simp) rfl ?_
  unfold ir_rScore
  have e0 : s0 [mkS κ r 0 n, mkS κ' r' 0 m, .int .i64 sh] 0 = mkS κ r 0 n := rfl
  have e1 : s0 [mkS κ r 0 n, mkS κ' r' 0 m, .int .i64 sh] 1 = mkS κ' r' 0 m := rfl
  have e2 : s0 [mkS κ r 0 n, mkS κ' r' 0 m, .int .i64 sh] 2 = .int .i64 sh := rfl
  simp (disch := omega) only [sN, ↓reduceIte, Nat.reduceEqDiff, Nat.reduceAdd, Nat.reduceMul, Nat.reduceSub, reduceCtorEq, e_none, e_some, e_bindS, e0, e1, e2]
  refine ⟨fun t s H => ∃ i : Nat, t = n - i ∧ i ≤ n ∧ H = H0 ∧ s 0 = mkS κ r 0 n ∧ s 1 = mkS κ' r' 0 m ∧ s 2 = .int .i64 sh ∧ s 7 = .int .i64 (scI L l m sh i) ∧ s 8 = .int .i64 (i : Int), n, ⟨0, rfl, by omega, rfl, ?_, ?_, ?_, ?_, ?_⟩, ?_⟩
  · simp only [e_upd, e_putS, e_putN, e_t, e_c, Nat.reduceEqDiff, ↓reduceIte, reduceCtorEq, Nat.reduceAdd, e0]
  · simp only [e_upd, e_putS, e_putN, e_t, e_c, Nat.reduceEqDiff, ↓reduceIte, reduceCtorEq, Nat.reduceAdd, e1]
  · simp only [e_upd, e_putS, e_putN, e_t, e_c, Nat.reduceEqDiff, ↓reduceIte, reduceCtorEq, Nat.reduceAdd, e2]
  · simp only [e_upd, e_putS, e_putN, e_t, e_c, Nat.reduceEqDiff, ↓reduceIte, reduceCtorEq, Nat.reduceAdd]; rfl
  · simp only [e_upd, e_putS, e_putN, e_t, e_c, Nat.reduceEqDiff, ↓reduceIte, reduceCtorEq, Nat.reduceAdd]; rfl
  rintro t s H ⟨i, rfl, hi, hH, h0, h1, h2, h7, h8⟩
  rw [hH]
  have hrng := scI_rng (L := L) (l := l) (m := m) (sh := sh) i
  by_cases hlt : i < n
  case neg =>
    obtain rfl : i = n := by omega
    simp (disch := omega) only [sN, ↓reduceIte, Nat.reduceEqDiff, Nat.reduceAdd, Nat.reduceMul, Nat.reduceSub, reduceCtorEq, e_none, e_some, e_bindS, h0, h1, h2, h7, h8, k_len hk]
    refine ret_keep (by simp) ⟨?_, rfl⟩
    simp only [e_upd, e_putS, e_putN, e_t, e_c, Nat.reduceEqDiff, ↓reduceIte, reduceCtorEq, Nat.reduceAdd]
  have hil : i < L.length := by omega
  have g0 := pulse_get (L := L) (i := i) (j := 0) hil (by omega)
  have g1 := pulse_get (L := L) (i := i) (j := 1) hil (by omega)
  have g4 := pulse_get (L := L) (i := i) (j := 4) hil (by omega)
  have hag : agI L l m sh i = (decide (0 ≤ i + sh ∧ i + sh < m) && ag1 (L.getD i default) (cb l (i + sh).toNat) (ck l (i + sh).toNat)) := rfl
  have hwr : wrI L l m sh i = (agI L l m sh i && decide (ck l (i + sh).toNat ≠ if (L.getD i default).bit then 2 else 1)) := rfl
  obtain ⟨p, hp⟩ : ∃ p, p = L.getD i default := ⟨_, rfl⟩
  rw [← hp, ← hc] at g0 g1 g4
  rw [← hp] at hag hwr
  clear hp
  obtain ⟨x, bit, c, ph, sn⟩ := p
  have g0' : row.cells[i * 5]? = some (.int .i64 x) := g0
  have g1' : row.cells[i * 5 + 1]? = some (.bool bit) := g1
  have g4' : row.cells[i * 5 + 4]? = some (.bool sn) := g4
  clear g0 g1 g4
  have ia : aindexAddr 5 (mkS κ r 0 n) (.int .i64 (i : Int)) = some (.ptr r (i * 5)) := by
    rw [k_idx5 hk (Nat.le_refl n) (by omega) (by omega)]; simp
  have next : ∀ z, scI L l m sh (i + 1) = z → True := fun _ _ => trivial
  by_cases q0 : (i : Int) + sh < 0
  · have hno := scI_no (L := L) (l := l) (m := m) (sh := sh) (i := i) (by rw [hag, decide_eq_false (by omega)]; rfl)
    simp (disch := omega) only [sN, ↓reduceIte, Nat.reduceEqDiff, Nat.reduceAdd, Nat.reduceMul, Nat.reduceSub, reduceCtorEq, e_none, e_some, e_bindS, h0, h1, h2, h7, h8, k_len hk, k_len hk']
    refine loop_keep (m := n - (i + 1)) (by omega) ⟨i + 1, rfl, by omega, rfl, ?_, ?_, ?_, ?_, ?_⟩
    · simp only [e_upd, e_putS, e_putN, e_t, e_c, Nat.reduceEqDiff, ↓reduceIte, reduceCtorEq, Nat.reduceAdd, h0]
    · simp only [e_upd, e_putS, e_putN, e_t, e_c, Nat.reduceEqDiff, ↓reduceIte, reduceCtorEq, Nat.reduceAdd, h1]
    · simp only [e_upd, e_putS, e_putN, e_t, e_c, Nat.reduceEqDiff, ↓reduceIte, reduceCtorEq, Nat.reduceAdd, h2]
    · rw [hno]; simp only [e_upd, e_putS, e_putN, e_t, e_c, Nat.reduceEqDiff, ↓reduceIte, reduceCtorEq, Nat.reduceAdd, h7]
    · simp only [e_upd, e_putS, e_putN, e_t, e_c, Nat.reduceEqDiff, ↓reduceIte, reduceCtorEq, Nat.reduceAdd]; first | done | rfl
  by_cases q1 : (i : Int) + sh ≥ m
  · have hno := scI_no (L := L) (l := l) (m := m) (sh := sh) (i := i) (by rw [hag, decide_eq_false (by omega)]; rfl)
    simp (disch := omega) only [sN, ↓reduceIte, Nat.reduceEqDiff, Nat.reduceAdd, Nat.reduceMul, Nat.reduceSub, reduceCtorEq, e_none, e_some, e_bindS, h0, h1, h2, h7, h8, k_len hk, k_len hk']
    refine loop_keep (m := n - (i + 1)) (by omega) ⟨i + 1, rfl, by omega, rfl, ?_, ?_, ?_, ?_, ?_⟩
    · simp only [e_upd, e_putS, e_putN, e_t, e_c, Nat.reduceEqDiff, ↓reduceIte, reduceCtorEq, Nat.reduceAdd, h0]
    · simp only [e_upd, e_putS, e_putN, e_t, e_c, Nat.reduceEqDiff, ↓reduceIte, reduceCtorEq, Nat.reduceAdd, h1]
    · simp only [e_upd, e_putS, e_putN, e_t, e_c, Nat.reduceEqDiff, ↓reduceIte, reduceCtorEq, Nat.reduceAdd, h2]
    · rw [hno]; simp only [e_upd, e_putS, e_putN, e_t, e_c, Nat.reduceEqDiff, ↓reduceIte, reduceCtorEq, Nat.reduceAdd, h7]
    · simp only [e_upd, e_putS, e_putN, e_t, e_c, Nat.reduceEqDiff, ↓reduceIte, reduceCtorEq, Nat.reduceAdd]; first | done | rfl
  obtain ⟨j, hj⟩ : ∃ j : Nat, (j : Int) = (i : Int) + sh := ⟨((i : Int) + sh).toNat, by omega⟩
  have hjm : j < m := by omega
  have hjt : ((i : Int) + sh).toNat = j := by omega
  rw [hjt] at hag hwr
  rw [decide_eq_true (show 0 ≤ (i : Int) + sh ∧ (i : Int) + sh < m by omega), Bool.true_and] at hag
  have gb : row'.cells[j * 2]? = some (.int .i64 (cb l j)) := by rw [hc']; exact pair_b hl' hjm
  have gk : row'.cells[j * 2 + 1]? = some (.int .i64 (ck l j)) := by rw [hc']; exact pair_k hl' hjm
  obtain ⟨b, hb⟩ : ∃ b, b = cb l j := ⟨_, rfl⟩
  obtain ⟨k, hkk⟩ : ∃ b, b = ck l j := ⟨_, rfl⟩
  rw [← hb, ← hkk] at hag
  rw [← hkk] at hwr gk
  rw [← hb] at gb
  have ib : aindexAddr 2 (mkS κ' r' 0 m) (.int .i64 ((i : Int) + sh)) = some (.ptr r' (j * 2)) := by
    rw [← hj, k_idx2 hk' (Nat.le_refl m) (by omega) (by omega)]; simp
  have hag2 : agI L l m sh i = (sn && decide (x = b) && decide (k = 1 ∨ k = 2)) := by rw [hag]; simp [ag1]
  clear hag hb hkk next
  cases sn with
  | false =>
    have hno := scI_no (L := L) (l := l) (m := m) (sh := sh) (i := i) (by rw [hag2]; rfl)
    simp (disch := omega) only [sN, ↓reduceIte, Nat.reduceEqDiff, Nat.reduceAdd, Nat.reduceMul, Nat.reduceSub, reduceCtorEq, e_none, e_some, e_bindS, h0, h1, h2, h7, h8, k_len hk, k_len hk', ia, ib, p_fieldAddr, Nat.add_zero, hr, hr', g0', g1', g4', gb, gk, Option.bind_some, Option.map_some]
    refine loop_keep (m := n - (i + 1)) (by omega) ⟨i + 1, rfl, by omega, rfl, ?_, ?_, ?_, ?_, ?_⟩
    · simp only [e_upd, e_putS, e_putN, e_t, e_c, Nat.reduceEqDiff, ↓reduceIte, reduceCtorEq, Nat.reduceAdd, h0]
    · simp only [e_upd, e_putS, e_putN, e_t, e_c, Nat.reduceEqDiff, ↓reduceIte, reduceCtorEq, Nat.reduceAdd, h1]
    · simp only [e_upd, e_putS, e_putN, e_t, e_c, Nat.reduceEqDiff, ↓reduceIte, reduceCtorEq, Nat.reduceAdd, h2]
    · rw [hno]; simp only [e_upd, e_putS, e_putN, e_t, e_c, Nat.reduceEqDiff, ↓reduceIte, reduceCtorEq, Nat.reduceAdd, h7]
    · simp only [e_upd, e_putS, e_putN, e_t, e_c, Nat.reduceEqDiff, ↓reduceIte, reduceCtorEq, Nat.reduceAdd]; first | done | rfl
  | true =>
    by_cases q2 : x = b
    case neg =>
      have hno := scI_no (L := L) (l := l) (m := m) (sh := sh) (i := i) (by rw [hag2, decide_eq_false q2]; rfl)
      simp (disch := omega) only [sN, ↓reduceIte, Nat.reduceEqDiff, Nat.reduceAdd, Nat.reduceMul, Nat.reduceSub, reduceCtorEq, e_none, e_some, e_bindS, h0, h1, h2, h7, h8, k_len hk, k_len hk', ia, ib, p_fieldAddr, Nat.add_zero, hr, hr', g0', g1', g4', gb, gk, Option.bind_some, Option.map_some]
      refine loop_keep (m := n - (i + 1)) (by omega) ⟨i + 1, rfl, by omega, rfl, ?_, ?_, ?_, ?_, ?_⟩
      · simp only [e_upd, e_putS, e_putN, e_t, e_c, Nat.reduceEqDiff, ↓reduceIte, reduceCtorEq, Nat.reduceAdd, h0]
      · simp only [e_upd, e_putS, e_putN, e_t, e_c, Nat.reduceEqDiff, ↓reduceIte, reduceCtorEq, Nat.reduceAdd, h1]
      · simp only [e_upd, e_putS, e_putN, e_t, e_c, Nat.reduceEqDiff, ↓reduceIte, reduceCtorEq, Nat.reduceAdd, h2]
      · rw [hno]; simp only [e_upd, e_putS, e_putN, e_t, e_c, Nat.reduceEqDiff, ↓reduceIte, reduceCtorEq, Nat.reduceAdd, h7]
      · simp only [e_upd, e_putS, e_putN, e_t, e_c, Nat.reduceEqDiff, ↓reduceIte, reduceCtorEq, Nat.reduceAdd]; first | done | rfl
    by_cases q3 : k = 1
    · subst q3
      have hag3 : agI L l m sh i = true := by rw [hag2, decide_eq_true q2]; rfl
      cases bit with
      | true =>
        have hst := scI_dn hag3 (by rw [hwr, hag3]; rfl)
        simp (disch := omega) only [sN, ↓reduceIte, Nat.reduceEqDiff, Nat.reduceAdd, Nat.reduceMul, Nat.reduceSub, reduceCtorEq, e_none, e_some, e_bindS, h0, h1, h2, h7, h8, k_len hk, k_len hk', ia, ib, p_fieldAddr, Nat.add_zero, hr, hr', g0', g1', g4', gb, gk, Option.bind_some, Option.map_some, p_binB, beq_self_eq_true, Bool.false_eq_true, ↓reduceIte, bTF, bFT]
        refine loop_keep (m := n - (i + 1)) (by omega) ⟨i + 1, rfl, by omega, rfl, ?_, ?_, ?_, ?_, ?_⟩
        · simp only [e_upd, e_putS, e_putN, e_t, e_c, Nat.reduceEqDiff, ↓reduceIte, reduceCtorEq, Nat.reduceAdd, h0]
        · simp only [e_upd, e_putS, e_putN, e_t, e_c, Nat.reduceEqDiff, ↓reduceIte, reduceCtorEq, Nat.reduceAdd, h1]
        · simp only [e_upd, e_putS, e_putN, e_t, e_c, Nat.reduceEqDiff, ↓reduceIte, reduceCtorEq, Nat.reduceAdd, h2]
        · rw [hst]; simp only [e_upd, e_putS, e_putN, e_t, e_c, Nat.reduceEqDiff, ↓reduceIte, reduceCtorEq, Nat.reduceAdd]
        · simp only [e_upd, e_putS, e_putN, e_t, e_c, Nat.reduceEqDiff, ↓reduceIte, reduceCtorEq, Nat.reduceAdd]; first | done | rfl
      | false =>
        have hst := scI_up hag3 (by rw [hwr, hag3]; rfl)
        simp (disch := omega) only [sN, ↓reduceIte, Nat.reduceEqDiff, Nat.reduceAdd, Nat.reduceMul, Nat.reduceSub, reduceCtorEq, e_none, e_some, e_bindS, h0, h1, h2, h7, h8, k_len hk, k_len hk', ia, ib, p_fieldAddr, Nat.add_zero, hr, hr', g0', g1', g4', gb, gk, Option.bind_some, Option.map_some, p_binB, beq_self_eq_true, Bool.false_eq_true, ↓reduceIte, bTF, bFT]
        refine loop_keep (m := n - (i + 1)) (by omega) ⟨i + 1, rfl, by omega, rfl, ?_, ?_, ?_, ?_, ?_⟩
        · simp only [e_upd, e_putS, e_putN, e_t, e_c, Nat.reduceEqDiff, ↓reduceIte, reduceCtorEq, Nat.reduceAdd, h0]
        · simp only [e_upd, e_putS, e_putN, e_t, e_c, Nat.reduceEqDiff, ↓reduceIte, reduceCtorEq, Nat.reduceAdd, h1]
        · simp only [e_upd, e_putS, e_putN, e_t, e_c, Nat.reduceEqDiff, ↓reduceIte, reduceCtorEq, Nat.reduceAdd, h2]
        · rw [hst]; simp only [e_upd, e_putS, e_putN, e_t, e_c, Nat.reduceEqDiff, ↓reduceIte, reduceCtorEq, Nat.reduceAdd]
        · simp only [e_upd, e_putS, e_putN, e_t, e_c, Nat.reduceEqDiff, ↓reduceIte, reduceCtorEq, Nat.reduceAdd]; first | done | rfl
    by_cases q4 : k = 2
    · subst q4
      have hag3 : agI L l m sh i = true := by rw [hag2, decide_eq_true q2]; rfl
      cases bit with
      | true =>
        have hst := scI_up hag3 (by rw [hwr, hag3]; rfl)
        simp (disch := omega) only [sN, ↓reduceIte, Nat.reduceEqDiff, Nat.reduceAdd, Nat.reduceMul, Nat.reduceSub, reduceCtorEq, e_none, e_some, e_bindS, h0, h1, h2, h7, h8, k_len hk, k_len hk', ia, ib, p_fieldAddr, Nat.add_zero, hr, hr', g0', g1', g4', gb, gk, Option.bind_some, Option.map_some, p_binB, beq_self_eq_true, Bool.false_eq_true, ↓reduceIte, bTF, bFT]
        refine loop_keep (m := n - (i + 1)) (by omega) ⟨i + 1, rfl, by omega, rfl, ?_, ?_, ?_, ?_, ?_⟩
        · simp only [e_upd, e_putS, e_putN, e_t, e_c, Nat.reduceEqDiff, ↓reduceIte, reduceCtorEq, Nat.reduceAdd, h0]
        · simp only [e_upd, e_putS, e_putN, e_t, e_c, Nat.reduceEqDiff, ↓reduceIte, reduceCtorEq, Nat.reduceAdd, h1]
        · simp only [e_upd, e_putS, e_putN, e_t, e_c, Nat.reduceEqDiff, ↓reduceIte, reduceCtorEq, Nat.reduceAdd, h2]
        · rw [hst]; simp only [e_upd, e_putS, e_putN, e_t, e_c, Nat.reduceEqDiff, ↓reduceIte, reduceCtorEq, Nat.reduceAdd]
        · simp only [e_upd, e_putS, e_putN, e_t, e_c, Nat.reduceEqDiff, ↓reduceIte, reduceCtorEq, Nat.reduceAdd]; first | done | rfl
      | false =>
        have hst := scI_dn hag3 (by rw [hwr, hag3]; rfl)
        simp (disch := omega) only [sN, ↓reduceIte, Nat.reduceEqDiff, Nat.reduceAdd, Nat.reduceMul, Nat.reduceSub, reduceCtorEq, e_none, e_some, e_bindS, h0, h1, h2, h7, h8, k_len hk, k_len hk', ia, ib, p_fieldAddr, Nat.add_zero, hr, hr', g0', g1', g4', gb, gk, Option.bind_some, Option.map_some, p_binB, beq_self_eq_true, Bool.false_eq_true, ↓reduceIte, bTF, bFT]
        refine loop_keep (m := n - (i + 1)) (by omega) ⟨i + 1, rfl, by omega, rfl, ?_, ?_, ?_, ?_, ?_⟩
        · simp only [e_upd, e_putS, e_putN, e_t, e_c, Nat.reduceEqDiff, ↓reduceIte, reduceCtorEq, Nat.reduceAdd, h0]
        · simp only [e_upd, e_putS, e_putN, e_t, e_c, Nat.reduceEqDiff, ↓reduceIte, reduceCtorEq, Nat.reduceAdd, h1]
        · simp only [e_upd, e_putS, e_putN, e_t, e_c, Nat.reduceEqDiff, ↓reduceIte, reduceCtorEq, Nat.reduceAdd, h2]
        · rw [hst]; simp only [e_upd, e_putS, e_putN, e_t, e_c, Nat.reduceEqDiff, ↓reduceIte, reduceCtorEq, Nat.reduceAdd]
        · simp only [e_upd, e_putS, e_putN, e_t, e_c, Nat.reduceEqDiff, ↓reduceIte, reduceCtorEq, Nat.reduceAdd]; first | done | rfl
    have hno := scI_no (L := L) (l := l) (m := m) (sh := sh) (i := i) (by rw [hag2, decide_eq_false (show ¬ (k = 1 ∨ k = 2) by omega), Bool.and_false])
    simp (disch := omega) only [sN, ↓reduceIte, Nat.reduceEqDiff, Nat.reduceAdd, Nat.reduceMul, Nat.reduceSub, reduceCtorEq, e_none, e_some, e_bindS, h0, h1, h2, h7, h8, k_len hk, k_len hk', ia, ib, p_fieldAddr, Nat.add_zero, hr, hr', g0', g1', g4', gb, gk, Option.bind_some, Option.map_some, p_binB, beq_self_eq_true, Bool.false_eq_true, ↓reduceIte, bTF, bFT]
    refine loop_keep (m := n - (i + 1)) (by omega) ⟨i + 1, rfl, by omega, rfl, ?_, ?_, ?_, ?_, ?_⟩
    · simp only [e_upd, e_putS, e_putN, e_t, e_c, Nat.reduceEqDiff, ↓reduceIte, reduceCtorEq, Nat.reduceAdd, h0]
    · simp only [e_upd, e_putS, e_putN, e_t, e_c, Nat.reduceEqDiff, ↓reduceIte, reduceCtorEq, Nat.reduceAdd, h1]
    · simp only [e_upd, e_putS, e_putN, e_t, e_c, Nat.reduceEqDiff, ↓reduceIte, reduceCtorEq, Nat.reduceAdd, h2]
    · rw [hno]; simp only [e_upd, e_putS, e_putN, e_t, e_c, Nat.reduceEqDiff, ↓reduceIte, reduceCtorEq, Nat.reduceAdd, h7]
    · simp only [e_upd, e_putS, e_putN, e_t, e_c, Nat.reduceEqDiff, ↓reduceIte, reduceCtorEq, Nat.reduceAdd]; first | done | rfl
end Go.Proofs.Ythbhljolpnbdlaa


/- Contracts of stage 4: Agreement and Align of the reference; sift's Agreement. -/
-- NEWSET
namespace Go.Proofs.Ythbhljolpnbdlaa
open Go Go.Vh

theorem agreement_calls (H0 : AHeap) {κ κ' : SK} {n m r r' : Nat} {L : List Pul} {l : List Int} {row row' : ARow} {sh : Int} (hk : okS κ n) (hl : L.length = n) (hn : n ≤ maxLen) (hr : Vh.rowAt H0 r = some row) (hc : row.cells = pcells L)
    (hk' : okS κ' m) (hl' : l.length = m * 2) (hm : m ≤ maxLen) (hr' : Vh.rowAt H0 r' = some row') (hc' : row'.cells = ints .i64 l) :
    ACalls Try.prog 12 [mkS κ r 0 n, mkS κ' r' 0 m, .int .i64 sh] H0 (List.range H0.length) fun v H => v = .tuple [.int .i64 (scA L l m sh), .int .i64 (agE L l m sh)] ∧ Base H0 H := by
  refine agreement_gen H0 hk hl hn hr hc hk' hl' hm hr' hc' ?_
  intro s H hB h6 h7
  refine ret_keep hB.1 ?_
  rw [show rs_agreement = [.tmp 6, .tmp 7] from rfl, q_tmp2, q_then]
  exact ⟨by rw [h6, h7], hB⟩

def boE (L : List Pul) (l : List Int) (m : Nat) : Int := fst0 [pE L, cE l m]
theorem boE_zero {L : List Pul} {l : List Int} {m : Nat} (h : boE L l m = 0) : pE L = 0 ∧ cE l m = 0 := by
  unfold boE at h
  by_cases h1 : pE L = 0
  · by_cases h2 : cE l m = 0
    · exact ⟨h1, h2⟩
    · simp [fst0, h1, h2] at h
  · simp [fst0, h1] at h
theorem rBoth_calls (H0 : AHeap) {κ κ' : SK} {n m r r' : Nat} {L : List Pul} {l : List Int} {row row' : ARow} (hk : okS κ n) (hl : L.length = n) (hn : n ≤ maxLen) (hr : Vh.rowAt H0 r = some row) (hc : row.cells = pcells L)
    (hk' : okS κ' m) (hl' : l.length = m * 2) (hm : m ≤ maxLen) (hr' : Vh.rowAt H0 r' = some row') (hc' : row'.cells = ints .i64 l) :
    ACalls Try.prog 48 [mkS κ r 0 n, mkS κ' r' 0 m] H0 (List.range H0.length) fun v H => v = .int .i64 (boE L l m) ∧ H = H0 := by
  refine ACalls.body Try.func48 ent_rBoth ir_rBoth_ok rs_rBoth_ok Try.ntmps48 (by simp) rfl ?_
  unfold ir_rBoth
  have e0 : s0 [mkS κ r 0 n, mkS κ' r' 0 m] 0 = mkS κ r 0 n := rfl
  have e1 : s0 [mkS κ r 0 n, mkS κ' r' 0 m] 1 = mkS κ' r' 0 m := rfl
  simp (disch := omega) only [sN, ↓reduceIte, Nat.reduceEqDiff, Nat.reduceAdd, Nat.reduceMul, Nat.reduceSub, reduceCtorEq, e_none, e_some, e_bindS, e0, e1, List.map_cons, List.map_nil]
  refine ⟨_, (rPulses_calls H0 hk hl hn hr hc).g.mono ?_⟩
  rintro v H1 ⟨rfl, hH⟩
  rw [hH]
  obtain ⟨E1, hE1⟩ : ∃ e, e = pE L := ⟨_, rfl⟩
  rw [← hE1]
  by_cases hz1 : E1 = 0
  · rw [hz1] at hE1 ⊢
    simp (disch := omega) only [sN, ↓reduceIte, Nat.reduceEqDiff, Nat.reduceAdd, Nat.reduceMul, Nat.reduceSub, reduceCtorEq, e_none, e_some, e_bindS, e0, e1, List.map_cons, List.map_nil]
    refine ⟨_, (rClicks_calls H0 hk' hl' hm hr' hc').g.mono ?_⟩
    rintro v H1 ⟨rfl, hH⟩
    rw [hH]
    simp (disch := omega) only [sN, ↓reduceIte, Nat.reduceEqDiff, Nat.reduceAdd, Nat.reduceMul, Nat.reduceSub, reduceCtorEq, e_none, e_some, e_bindS, e0, e1]
    refine ret_keep (by simp) ⟨?_, rfl⟩
    have : boE L l m = cE l m := by unfold boE; rw [← hE1]; simp [fst0]; intro h; exact h.symm
    rw [this]
    simp only [e_upd, e_putS, e_putN, e_t, e_c, Nat.reduceEqDiff, ↓reduceIte, reduceCtorEq, Nat.reduceAdd]
  · simp (disch := omega) only [sN, ↓reduceIte, Nat.reduceEqDiff, Nat.reduceAdd, Nat.reduceMul, Nat.reduceSub, reduceCtorEq, e_none, e_some, e_bindS, e0, e1, List.map_cons, List.map_nil]
    refine ⟨_, (rPulses_calls H0 hk hl hn hr hc).g.mono ?_⟩
    rintro v H1 ⟨rfl, hH⟩
    rw [hH, ← hE1]
    simp (disch := omega) only [sN, ↓reduceIte, Nat.reduceEqDiff, Nat.reduceAdd, Nat.reduceMul, Nat.reduceSub, reduceCtorEq, e_none, e_some, e_bindS, e0, e1]
    refine ret_keep (by simp) ⟨?_, rfl⟩
    have : boE L l m = E1 := by unfold boE; rw [← hE1]; simp [fst0, hz1]
    rw [this]
    simp only [e_upd, e_putS, e_putN, e_t, e_c, Nat.reduceEqDiff, ↓reduceIte, reduceCtorEq, Nat.reduceAdd]

theorem rAgreement_calls (H0 : AHeap) {κ κ' : SK} {n m r r' : Nat} {L : List Pul} {l : List Int} {row row' : ARow} {sh : Int} (hk : okS κ n) (hl : L.length = n) (hn : n ≤ maxLen) (hr : Vh.rowAt H0 r = some row) (hc : row.cells = pcells L)
    (hk' : okS κ' m) (hl' : l.length = m * 2) (hm : m ≤ maxLen) (hr' : Vh.rowAt H0 r' = some row') (hc' : row'.cells = ints .i64 l) :
    ACalls Try.prog 13 [mkS κ r 0 n, mkS κ' r' 0 m, .int .i64 sh] H0 (List.range H0.length) fun v H => v = .tuple [.int .i64 (scA L l m sh), .int .i64 (agE L l m sh)] ∧ H = H0 := by
  refine ACalls.body Try.func13 ent_rAgreement ir_rAgreement_ok rs_rAgreement_ok Try.ntmps13 (by simp) rfl ?_
  unfold ir_rAgreement
  have e0 : s0 [mkS κ r 0 n, mkS κ' r' 0 m, .int .i64 sh] 0 = mkS κ r 0 n := rfl
  have e1 : s0 [mkS κ r 0 n, mkS κ' r' 0 m, .int .i64 sh] 1 = mkS κ' r' 0 m := rfl
  have e2 : s0 [mkS κ r 0 n, mkS κ' r' 0 m, .int .i64 sh] 2 = .int .i64 sh := rfl
  have hagE : agE L l m sh = if boE L l m = 0 then (if -16 ≤ sh ∧ sh ≤ 16 then 0 else 3) else boE L l m := by
    unfold agE boE
    by_cases h1 : pE L = 0
    · by_cases h2 : cE l m = 0
      · simp only [fst0, h1, h2, if_true]
        split <;> simp
      · simp [fst0, h1, h2]
    · simp [fst0, h1]
  have hscA : agE L l m sh ≠ 0 → scA L l m sh = 0 := fun h => by unfold scA; rw [if_neg h]
  have hscI : agE L l m sh = 0 → scA L l m sh = scI L l m sh n := fun h => by unfold scA scI; rw [if_pos h, hl]
  simp (disch := omega) only [sN, ↓reduceIte, Nat.reduceEqDiff, Nat.reduceAdd, Nat.reduceMul, Nat.reduceSub, reduceCtorEq, e_none, e_some, e_bindS, e0, e1, e2, List.map_cons, List.map_nil]
  refine ⟨_, (rBoth_calls H0 hk hl hn hr hc hk' hl' hm hr' hc').g.mono ?_⟩
  rintro v H1 ⟨rfl, hH⟩
  rw [hH]
  have hbz := boE_zero (L := L) (l := l) (m := m)
  obtain ⟨E1, hE1⟩ : ∃ e, e = boE L l m := ⟨_, rfl⟩
  rw [← hE1] at hagE hbz ⊢
  by_cases hz1 : E1 = 0
  · rw [if_pos hz1] at hagE
    obtain ⟨hp0, hc0⟩ := hbz hz1
    have hn4 : n ≤ 4096 := by rw [← hl]; exact pE_zero hp0
    have hm4 : m ≤ 4096 := cE_zero hc0
    rw [hz1]
    simp (disch := omega) only [sN, ↓reduceIte, Nat.reduceEqDiff, Nat.reduceAdd, Nat.reduceMul, Nat.reduceSub, reduceCtorEq, e_none, e_some, e_bindS, e0, e1, e2, List.map_cons, List.map_nil]
    refine ⟨_, (rShiftable_calls H0 sh).g.mono ?_⟩
    rintro v H1 ⟨rfl, hH⟩
    rw [hH]
    by_cases hs : -16 ≤ sh ∧ sh ≤ 16
    · rw [if_pos hs] at hagE
      rw [decide_eq_true hs]
      simp (disch := omega) only [sN, ↓reduceIte, Nat.reduceEqDiff, Nat.reduceAdd, Nat.reduceMul, Nat.reduceSub, reduceCtorEq, e_none, e_some, e_bindS, e0, e1, e2, List.map_cons, List.map_nil]
      refine ⟨_, (rScore_calls H0 hk hl hn4 hr hc hk' hl' hm4 hr' hc' hs).g.mono ?_⟩
      rintro v H1 ⟨rfl, hH⟩
      rw [hH]
      simp (disch := omega) only [sN, ↓reduceIte, Nat.reduceEqDiff, Nat.reduceAdd, Nat.reduceMul, Nat.reduceSub, reduceCtorEq, e_none, e_some, e_bindS, e0, e1, e2]
      refine ret_keep (by simp) ?_
      rw [show rs_rAgreement = [.tmp 6, .tmp 7] from rfl, q_tmp2, q_then]
      refine ⟨?_, rfl⟩
      rw [hscI hagE, hagE]
      simp only [e_upd, e_putS, e_putN, e_t, e_c, Nat.reduceEqDiff, ↓reduceIte, reduceCtorEq, Nat.reduceAdd]
    · rw [if_neg hs] at hagE
      rw [decide_eq_false hs]
      simp (disch := omega) only [sN, ↓reduceIte, Nat.reduceEqDiff, Nat.reduceAdd, Nat.reduceMul, Nat.reduceSub, reduceCtorEq, e_none, e_some, e_bindS, e0, e1, e2]
      refine ret_keep (by simp) ?_
      rw [show rs_rAgreement = [.tmp 6, .tmp 7] from rfl, q_tmp2, q_then]
      refine ⟨?_, rfl⟩
      rw [hscA (by rw [hagE]; decide), hagE]
      simp only [e_upd, e_putS, e_putN, e_t, e_c, Nat.reduceEqDiff, ↓reduceIte, reduceCtorEq, Nat.reduceAdd]
  · rw [if_neg hz1] at hagE
    simp (disch := omega) only [sN, ↓reduceIte, Nat.reduceEqDiff, Nat.reduceAdd, Nat.reduceMul, Nat.reduceSub, reduceCtorEq, e_none, e_some, e_bindS, e0, e1, e2, List.map_cons, List.map_nil]
    refine ⟨_, (rBoth_calls H0 hk hl hn hr hc hk' hl' hm hr' hc').g.mono ?_⟩
    rintro v H1 ⟨rfl, hH⟩
    rw [hH, ← hE1]
    simp (disch := omega) only [sN, ↓reduceIte, Nat.reduceEqDiff, Nat.reduceAdd, Nat.reduceMul, Nat.reduceSub, reduceCtorEq, e_none, e_some, e_bindS, e0, e1, e2]
    refine ret_keep (by simp) ?_
    rw [show rs_rAgreement = [.tmp 6, .tmp 7] from rfl, q_tmp2, q_then]
    refine ⟨?_, rfl⟩
    rw [hscA (by rw [hagE]; exact hz1), hagE]
    simp only [e_upd, e_putS, e_putN, e_t, e_c, Nat.reduceEqDiff, ↓reduceIte, reduceCtorEq, Nat.reduceAdd]

theorem wrapI {x : Int} (h1 : -9223372036854775808 ≤ x) (h2 : x ≤ 9223372036854775807) : (IntKind.i64).wrap x = x := by
  simp [IntKind.wrap, IntKind.signed, IntKind.bits]
  omega

/-- the k-th shift, and the best one of the first -/
def shf (k : Nat) : Int := if k % 2 = 1 then -(((k + 1) / 2 : Nat) : Int) else (((k + 1) / 2 : Nat) : Int)
def bst (sc : Int → Int) : Nat → Int
  | 0 => 0
  | k + 1 => if sc (shf (k + 1)) > sc (bst sc k) then shf (k + 1) else bst sc k
theorem shf_rng {k : Nat} (h : k ≤ 32) : -16 ≤ shf k ∧ shf k ≤ 16 := by
  unfold shf
  split <;> omega
theorem bst_rng {sc : Int → Int} : ∀ {k : Nat}, k ≤ 32 → -16 ≤ bst sc k ∧ bst sc k ≤ 16
  | 0, _ => by simp [bst]
  | k + 1, h => by
    simp only [bst]
    split
    · exact shf_rng h
    · exact bst_rng (by omega)
def alE (L : List Pul) (l : List Int) (m : Nat) (need : Int) : Int := if boE L l m = 0 then (if 0 ≤ need ∧ need ≤ 4096 then (if scI L l m (bst (fun sh => scI L l m sh L.length) 32) L.length < need then 17 else 0) else 3) else boE L l m
def alN (L : List Pul) (l : List Int) (m : Nat) (need : Int) : Int := if alE L l m need = 0 then bst (fun sh => scI L l m sh L.length) 32 else 0

set_option maxHeartbeats 4000000 in
theorem rAlign_calls (H0 : AHeap) {κ κ' : SK} {n m r r' : Nat} {L : List Pul} {l : List Int} {row row' : ARow} {need : Int} (hk : okS κ n) (hl : L.length = n) (hn : n ≤ maxLen) (hr : Vh.rowAt H0 r = some row) (hc : row.cells = pcells L)
    (hk' : okS κ' m) (hl' : l.length = m * 2) (hm : m ≤ maxLen) (hr' : Vh.rowAt H0 r' = some row') (hc' : row'.cells = ints .i64 l) :
    ACalls Try.prog 15 [mkS κ r 0 n, mkS κ' r' 0 m, .int .i64 need] H0 (List.range H0.length) fun v H => v = .tuple [.int .i64 (alN L l m need), .int .i64 (alE L l m need)] ∧ H = H0 := by
  refine ACalls.body Try.func15 ent_rAlign ir_rAlign_ok rs_rAlign_ok Try.ntmps15 (by simp) rfl ?_
  unfold ir_rAlign
  have e0 : s0 [mkS κ r 0 n, mkS κ' r' 0 m, .int .i64 need] 0 = mkS κ r 0 n := rfl
  have e1 : s0 [mkS κ r 0 n, mkS κ' r' 0 m, .int .i64 need] 1 = mkS κ' r' 0 m := rfl
  have e2 : s0 [mkS κ r 0 n, mkS κ' r' 0 m, .int .i64 need] 2 = .int .i64 need := rfl
  have halE : alE L l m need = if boE L l m = 0 then (if 0 ≤ need ∧ need ≤ 4096 then (if scI L l m (bst (fun sh => scI L l m sh L.length) 32) L.length < need then 17 else 0) else 3) else boE L l m := rfl
  have halN : alE L l m need ≠ 0 → alN L l m need = 0 := fun h => by unfold alN; rw [if_neg h]
  have halZ : alE L l m need = 0 → alN L l m need = bst (fun sh => scI L l m sh n) 32 := fun h => by unfold alN; rw [if_pos h, hl]
  rw [hl] at halE
  simp (disch := omega) only [sN, ↓reduceIte, Nat.reduceEqDiff, Nat.reduceAdd, Nat.reduceMul, Nat.reduceSub, reduceCtorEq, e_none, e_some, e_bindS, e0, e1, e2, List.map_cons, List.map_nil]
  refine ⟨_, (rBoth_calls H0 hk hl hn hr hc hk' hl' hm hr' hc').g.mono ?_⟩
  rintro v H1 ⟨rfl, hH⟩
  rw [hH]
  have hbz := boE_zero (L := L) (l := l) (m := m)
  obtain ⟨E1, hE1⟩ : ∃ e, e = boE L l m := ⟨_, rfl⟩
  rw [← hE1] at halE hbz ⊢
  by_cases hz1 : E1 = 0
  case neg =>
    rw [if_neg hz1] at halE
    simp (disch := omega) only [sN, ↓reduceIte, Nat.reduceEqDiff, Nat.reduceAdd, Nat.reduceMul, Nat.reduceSub, reduceCtorEq, e_none, e_some, e_bindS, e0, e1, e2, List.map_cons, List.map_nil]
    refine ⟨_, (rBoth_calls H0 hk hl hn hr hc hk' hl' hm hr' hc').g.mono ?_⟩
    rintro v H1 ⟨rfl, hH⟩
    rw [hH, ← hE1]
    simp (disch := omega) only [sN, ↓reduceIte, Nat.reduceEqDiff, Nat.reduceAdd, Nat.reduceMul, Nat.reduceSub, reduceCtorEq, e_none, e_some, e_bindS, e0, e1, e2]
    refine ret_keep (by simp) ?_
    rw [show rs_rAlign = [.tmp 6, .tmp 7] from rfl, q_tmp2, q_then]
    refine ⟨?_, rfl⟩
    rw [halN (by rw [halE]; exact hz1), halE]
    simp only [e_upd, e_putS, e_putN, e_t, e_c, Nat.reduceEqDiff, ↓reduceIte, reduceCtorEq, Nat.reduceAdd]
  rw [if_pos hz1] at halE
  obtain ⟨hp0, hc0⟩ := hbz hz1
  have hn4 : n ≤ 4096 := by rw [← hl]; exact pE_zero hp0
  have hm4 : m ≤ 4096 := cE_zero hc0
  rw [hz1]
  simp (disch := omega) only [sN, ↓reduceIte, Nat.reduceEqDiff, Nat.reduceAdd, Nat.reduceMul, Nat.reduceSub, reduceCtorEq, e_none, e_some, e_bindS, e0, e1, e2, List.map_cons, List.map_nil]
  refine ⟨_, (rWithin_calls H0 need 4096).g.mono ?_⟩
  rintro v H1 ⟨rfl, hH⟩
  rw [hH]
  by_cases hs : 0 ≤ need ∧ need ≤ 4096
  case neg =>
    rw [if_neg hs] at halE
    rw [decide_eq_false hs]
    simp (disch := omega) only [sN, ↓reduceIte, Nat.reduceEqDiff, Nat.reduceAdd, Nat.reduceMul, Nat.reduceSub, reduceCtorEq, e_none, e_some, e_bindS, e0, e1, e2]
    refine ret_keep (by simp) ?_
    rw [show rs_rAlign = [.tmp 6, .tmp 7] from rfl, q_tmp2, q_then]
    refine ⟨?_, rfl⟩
    rw [halN (by rw [halE]; decide), halE]
    simp only [e_upd, e_putS, e_putN, e_t, e_c, Nat.reduceEqDiff, ↓reduceIte, reduceCtorEq, Nat.reduceAdd]
  rw [if_pos hs] at halE
  rw [decide_eq_true hs]
  obtain ⟨sc, hsc⟩ : ∃ f, f = fun sh => scI L l m sh n := ⟨_, rfl⟩
  have score : ∀ sh, -16 ≤ sh ∧ sh ≤ 16 → ACalls Try.prog 50 [mkS κ r 0 n, mkS κ' r' 0 m, .int .i64 sh] H0 (List.range H0.length) fun v H => v = .int .i64 (sc sh) ∧ H = H0 := fun sh h => by
    have := rScore_calls H0 hk hl hn4 hr hc hk' hl' hm4 hr' hc' h
    rw [hsc]; exact this
  have hrng : ∀ sh, -4096 ≤ sc sh ∧ sc sh ≤ 4096 := fun sh => by
    have := scI_rng (L := L) (l := l) (m := m) (sh := sh) n
    rw [hsc]; dsimp only; omega
  rw [← hsc] at halZ halE
  have halE : alE L l m need = if sc (bst sc 32) < need then 17 else 0 := by rw [halE, hsc]
  clear hsc hbz hp0 hc0
  simp (disch := omega) only [sN, ↓reduceIte, Nat.reduceEqDiff, Nat.reduceAdd, Nat.reduceMul, Nat.reduceSub, reduceCtorEq, e_none, e_some, e_bindS, e0, e1, e2]
  refine ⟨fun t s H => ∃ i : Nat, t = 32 - i ∧ i ≤ 32 ∧ H = H0 ∧ s 0 = mkS κ r 0 n ∧ s 1 = mkS κ' r' 0 m ∧ s 2 = .int .i64 need ∧ s 8 = .int .i64 (bst sc i) ∧ s 9 = .int .i64 ((i : Int) + 1), 32, ⟨0, rfl, by omega, rfl, ?_, ?_, ?_, ?_, ?_⟩, ?_⟩
  · simp only [e_upd, e_putS, e_putN, e_t, e_c, Nat.reduceEqDiff, ↓reduceIte, reduceCtorEq, Nat.reduceAdd, e0]
  · simp only [e_upd, e_putS, e_putN, e_t, e_c, Nat.reduceEqDiff, ↓reduceIte, reduceCtorEq, Nat.reduceAdd, e1]
  · simp only [e_upd, e_putS, e_putN, e_t, e_c, Nat.reduceEqDiff, ↓reduceIte, reduceCtorEq, Nat.reduceAdd, e2]
  · simp only [e_upd, e_putS, e_putN, e_t, e_c, Nat.reduceEqDiff, ↓reduceIte, reduceCtorEq, Nat.reduceAdd]; rfl
  · simp only [e_upd, e_putS, e_putN, e_t, e_c, Nat.reduceEqDiff, ↓reduceIte, reduceCtorEq, Nat.reduceAdd]; rfl
  rintro t s H ⟨i, rfl, hi, hH, h0, h1, h2, h8, h9⟩
  rw [hH]
  have hb := bst_rng (sc := sc) hi
  by_cases hlt : i < 32
  case neg =>
    obtain rfl : i = 32 := by omega
    simp (disch := omega) only [sN, ↓reduceIte, Nat.reduceEqDiff, Nat.reduceAdd, Nat.reduceMul, Nat.reduceSub, reduceCtorEq, e_none, e_some, e_bindS, h0, h1, h2, h8, h9, List.map_cons, List.map_nil]
    refine ⟨_, (score _ hb).g.mono ?_⟩
    rintro v H1 ⟨rfl, hH⟩
    rw [hH]
    obtain ⟨y, hy⟩ : ∃ y, y = sc (bst sc 32) := ⟨_, rfl⟩
    rw [← hy] at halE ⊢
    by_cases hlt2 : y < need
    · rw [if_pos hlt2] at halE
      simp (disch := omega) only [sN, ↓reduceIte, Nat.reduceEqDiff, Nat.reduceAdd, Nat.reduceMul, Nat.reduceSub, reduceCtorEq, e_none, e_some, e_bindS, h0, h1, h2, h8, h9]
      refine ret_keep (by simp) ?_
      rw [show rs_rAlign = [.tmp 6, .tmp 7] from rfl, q_tmp2, q_then]
      refine ⟨?_, rfl⟩
      rw [halN (by rw [halE]; decide), halE]
      simp only [e_upd, e_putS, e_putN, e_t, e_c, Nat.reduceEqDiff, ↓reduceIte, reduceCtorEq, Nat.reduceAdd]
    · rw [if_neg hlt2] at halE
      simp (disch := omega) only [sN, ↓reduceIte, Nat.reduceEqDiff, Nat.reduceAdd, Nat.reduceMul, Nat.reduceSub, reduceCtorEq, e_none, e_some, e_bindS, h0, h1, h2, h8, h9]
      refine ret_keep (by simp) ?_
      rw [show rs_rAlign = [.tmp 6, .tmp 7] from rfl, q_tmp2, q_then]
      refine ⟨?_, rfl⟩
      rw [halZ halE, halE]
      simp only [e_upd, e_putS, e_putN, e_t, e_c, Nat.reduceEqDiff, ↓reduceIte, reduceCtorEq, Nat.reduceAdd]
  have hst : bst sc (i + 1) = if sc (shf (i + 1)) > sc (bst sc i) then shf (i + 1) else bst sc i := rfl
  have hsr := shf_rng (k := i + 1) (by omega)
  obtain ⟨z, hz⟩ : ∃ z, z = bst sc i := ⟨_, rfl⟩
  rw [← hz] at hst hb h8
  have hr1 := hrng (shf (i + 1))
  have hr2 := hrng z
  by_cases hodd : (i + 1) % 2 = 1
  · have hsh : shf (i + 1) = -(((i : Int) + 1 + 1) / 2) := by unfold shf; rw [if_pos hodd]; omega
    obtain ⟨x, hx⟩ : ∃ x, x = shf (i + 1) := ⟨_, rfl⟩
    rw [← hx] at hst hsr hsh hr1
    have hq : (IntKind.i64).wrap (((i : Int) + 1 + 1) / 2) = ((i : Int) + 1 + 1) / 2 := wrapI (by omega) (by omega)
    simp (disch := omega) only [sN, ↓reduceIte, Nat.reduceEqDiff, Nat.reduceAdd, Nat.reduceMul, Nat.reduceSub, reduceCtorEq, e_none, e_some, e_bindS, h0, h1, h2, h8, h9, b_quo, b_rem, hq]
    rw [show ((i : Int) + 1) % 2 = 1 by omega]
    rw [p_negv4 (a := ((i : Int) + 1 + 1) / 2) (by simp only [e_upd, e_putS, e_putN, e_t, e_c, Nat.reduceEqDiff, ↓reduceIte, reduceCtorEq, Nat.reduceAdd]) (by omega), ← hsh]
    simp (disch := omega) only [sN, ↓reduceIte, Nat.reduceEqDiff, Nat.reduceAdd, Nat.reduceMul, Nat.reduceSub, reduceCtorEq, e_none, e_some, e_bindS, h0, h1, h2, h8, h9, List.map_cons, List.map_nil]
    refine ⟨_, (score x hsr).g.mono ?_⟩
    rintro v H1 ⟨rfl, hH⟩
    rw [hH]
    simp (disch := omega) only [sN, ↓reduceIte, Nat.reduceEqDiff, Nat.reduceAdd, Nat.reduceMul, Nat.reduceSub, reduceCtorEq, e_none, e_some, e_bindS, h0, h1, h2, h8, h9, List.map_cons, List.map_nil]
    refine ⟨_, (score z hb).g.mono ?_⟩
    rintro v H1 ⟨rfl, hH⟩
    rw [hH]
    by_cases hgt : sc x > sc z
    · rw [if_pos hgt] at hst
      simp (disch := omega) only [sN, ↓reduceIte, Nat.reduceEqDiff, Nat.reduceAdd, Nat.reduceMul, Nat.reduceSub, reduceCtorEq, e_none, e_some, e_bindS, h0, h1, h2, h8, h9]
      refine loop_keep (m := 32 - (i + 1)) (by omega) ⟨i + 1, rfl, by omega, rfl, ?_, ?_, ?_, ?_, ?_⟩
      · simp only [e_upd, e_putS, e_putN, e_t, e_c, Nat.reduceEqDiff, ↓reduceIte, reduceCtorEq, Nat.reduceAdd, h0]
      · simp only [e_upd, e_putS, e_putN, e_t, e_c, Nat.reduceEqDiff, ↓reduceIte, reduceCtorEq, Nat.reduceAdd, h1]
      · simp only [e_upd, e_putS, e_putN, e_t, e_c, Nat.reduceEqDiff, ↓reduceIte, reduceCtorEq, Nat.reduceAdd, h2]
      · rw [hst]; simp only [e_upd, e_putS, e_putN, e_t, e_c, Nat.reduceEqDiff, ↓reduceIte, reduceCtorEq, Nat.reduceAdd]
      · simp only [e_upd, e_putS, e_putN, e_t, e_c, Nat.reduceEqDiff, ↓reduceIte, reduceCtorEq, Nat.reduceAdd]; first | done | rfl
    · rw [if_neg hgt] at hst
      simp (disch := omega) only [sN, ↓reduceIte, Nat.reduceEqDiff, Nat.reduceAdd, Nat.reduceMul, Nat.reduceSub, reduceCtorEq, e_none, e_some, e_bindS, h0, h1, h2, h8, h9]
      refine loop_keep (m := 32 - (i + 1)) (by omega) ⟨i + 1, rfl, by omega, rfl, ?_, ?_, ?_, ?_, ?_⟩
      · simp only [e_upd, e_putS, e_putN, e_t, e_c, Nat.reduceEqDiff, ↓reduceIte, reduceCtorEq, Nat.reduceAdd, h0]
      · simp only [e_upd, e_putS, e_putN, e_t, e_c, Nat.reduceEqDiff, ↓reduceIte, reduceCtorEq, Nat.reduceAdd, h1]
      · simp only [e_upd, e_putS, e_putN, e_t, e_c, Nat.reduceEqDiff, ↓reduceIte, reduceCtorEq, Nat.reduceAdd, h2]
      · rw [hst]; simp only [e_upd, e_putS, e_putN, e_t, e_c, Nat.reduceEqDiff, ↓reduceIte, reduceCtorEq, Nat.reduceAdd, h8]
      · simp only [e_upd, e_putS, e_putN, e_t, e_c, Nat.reduceEqDiff, ↓reduceIte, reduceCtorEq, Nat.reduceAdd]; first | done | rfl
  · have hsh : shf (i + 1) = ((i : Int) + 1 + 1) / 2 := by unfold shf; rw [if_neg hodd]; omega
    obtain ⟨x, hx⟩ : ∃ x, x = shf (i + 1) := ⟨_, rfl⟩
    rw [← hx] at hst hsr hsh hr1
    have hq : (IntKind.i64).wrap (((i : Int) + 1 + 1) / 2) = ((i : Int) + 1 + 1) / 2 := wrapI (by omega) (by omega)
    simp (disch := omega) only [sN, ↓reduceIte, Nat.reduceEqDiff, Nat.reduceAdd, Nat.reduceMul, Nat.reduceSub, reduceCtorEq, e_none, e_some, e_bindS, h0, h1, h2, h8, h9, b_quo, b_rem, hq]
    rw [show ((i : Int) + 1) % 2 = 0 by omega, ← hsh]
    simp (disch := omega) only [sN, ↓reduceIte, Nat.reduceEqDiff, Nat.reduceAdd, Nat.reduceMul, Nat.reduceSub, reduceCtorEq, e_none, e_some, e_bindS, h0, h1, h2, h8, h9, List.map_cons, List.map_nil]
    refine ⟨_, (score x hsr).g.mono ?_⟩
    rintro v H1 ⟨rfl, hH⟩
    rw [hH]
    simp (disch := omega) only [sN, ↓reduceIte, Nat.reduceEqDiff, Nat.reduceAdd, Nat.reduceMul, Nat.reduceSub, reduceCtorEq, e_none, e_some, e_bindS, h0, h1, h2, h8, h9, List.map_cons, List.map_nil]
    refine ⟨_, (score z hb).g.mono ?_⟩
    rintro v H1 ⟨rfl, hH⟩
    rw [hH]
    by_cases hgt : sc x > sc z
    · rw [if_pos hgt] at hst
      simp (disch := omega) only [sN, ↓reduceIte, Nat.reduceEqDiff, Nat.reduceAdd, Nat.reduceMul, Nat.reduceSub, reduceCtorEq, e_none, e_some, e_bindS, h0, h1, h2, h8, h9]
      refine loop_keep (m := 32 - (i + 1)) (by omega) ⟨i + 1, rfl, by omega, rfl, ?_, ?_, ?_, ?_, ?_⟩
      · simp only [e_upd, e_putS, e_putN, e_t, e_c, Nat.reduceEqDiff, ↓reduceIte, reduceCtorEq, Nat.reduceAdd, h0]
      · simp only [e_upd, e_putS, e_putN, e_t, e_c, Nat.reduceEqDiff, ↓reduceIte, reduceCtorEq, Nat.reduceAdd, h1]
      · simp only [e_upd, e_putS, e_putN, e_t, e_c, Nat.reduceEqDiff, ↓reduceIte, reduceCtorEq, Nat.reduceAdd, h2]
      · rw [hst]; simp only [e_upd, e_putS, e_putN, e_t, e_c, Nat.reduceEqDiff, ↓reduceIte, reduceCtorEq, Nat.reduceAdd]
      · simp only [e_upd, e_putS, e_putN, e_t, e_c, Nat.reduceEqDiff, ↓reduceIte, reduceCtorEq, Nat.reduceAdd]; first | done | rfl
    · rw [if_neg hgt] at hst
      simp (disch := omega) only [sN, ↓reduceIte, Nat.reduceEqDiff, Nat.reduceAdd, Nat.reduceMul, Nat.reduceSub, reduceCtorEq, e_none, e_some, e_bindS, h0, h1, h2, h8, h9]
      refine loop_keep (m := 32 - (i + 1)) (by omega) ⟨i + 1, rfl, by omega, rfl, ?_, ?_, ?_, ?_, ?_⟩
      · simp only [e_upd, e_putS, e_putN, e_t, e_c, Nat.reduceEqDiff, ↓reduceIte, reduceCtorEq, Nat.reduceAdd, h0]
      · simp only [e_upd, e_putS, e_putN, e_t, e_c, Nat.reduceEqDiff, ↓reduceIte, reduceCtorEq, Nat.reduceAdd, h1]
      · simp only [e_upd, e_putS, e_putN, e_t, e_c, Nat.reduceEqDiff, ↓reduceIte, reduceCtorEq, Nat.reduceAdd, h2]
      · rw [hst]; simp only [e_upd, e_putS, e_putN, e_t, e_c, Nat.reduceEqDiff, ↓reduceIte, reduceCtorEq, Nat.reduceAdd, h8]
      · simp only [e_upd, e_putS, e_putN, e_t, e_c, Nat.reduceEqDiff, ↓reduceIte, reduceCtorEq, Nat.reduceAdd]; first | done | rfl
end Go.Proofs.Ythbhljolpnbdlaa

