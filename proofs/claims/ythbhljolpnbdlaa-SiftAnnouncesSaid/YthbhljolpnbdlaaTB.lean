/- Contracts of stage 4: the reference's Announce; two lists compared. -/
import Derived.Test.YthbhljolpnbdlaaVX
import Derived.Test.YthbhljolpnbdlaaT3
set_option linter.unusedSimpArgs false
set_option linter.unusedVariables false
-- NEWSET
namespace Go.Proofs.Ythbhljolpnbdlaa
open Go Go.Vh

theorem rShiftable_calls (H0 : AHeap) (n : Int) : ACalls Try.prog 49 [.int .i64 n] H0 (List.range H0.length) fun v H => v = .bool (decide (-16 ≤ n ∧ n ≤ 16)) ∧ H = H0 := by
  refine ACalls.body Try.func49 ent_rShiftable ir_rShiftable_ok rs_rShiftable_ok Try.ntmps49 (by simp) rfl ?_
  unfold ir_rShiftable
  have e0 : s0 [.int .i64 n] 0 = .int .i64 n := rfl
  by_cases h0 : -16 ≤ n
  · by_cases h1 : n ≤ 16
    · simp (disch := omega) only [sN, ↓reduceIte, Nat.reduceEqDiff, Nat.reduceAdd, Nat.reduceMul, Nat.reduceSub, reduceCtorEq, e_none, e_some, e_bindS, e0]
      refine ret_keep (by simp) ⟨?_, rfl⟩
      simp only [e_upd, e_putS, e_putN, e_t, e_c, Nat.reduceEqDiff, ↓reduceIte, reduceCtorEq, Nat.reduceAdd]; try simp [h0, h1]
    · simp (disch := omega) only [sN, ↓reduceIte, Nat.reduceEqDiff, Nat.reduceAdd, Nat.reduceMul, Nat.reduceSub, reduceCtorEq, e_none, e_some, e_bindS, e0]
      refine ret_keep (by simp) ⟨?_, rfl⟩
      simp only [e_upd, e_putS, e_putN, e_t, e_c, Nat.reduceEqDiff, ↓reduceIte, reduceCtorEq, Nat.reduceAdd]; try simp [h0, h1]
  · simp (disch := omega) only [sN, ↓reduceIte, Nat.reduceEqDiff, Nat.reduceAdd, Nat.reduceMul, Nat.reduceSub, reduceCtorEq, e_none, e_some, e_bindS, e0]
    refine ret_keep (by simp) ⟨?_, rfl⟩
    simp only [e_upd, e_putS, e_putN, e_t, e_c, Nat.reduceEqDiff, ↓reduceIte, reduceCtorEq, Nat.reduceAdd]; try simp [h0]

theorem rWithin_calls (H0 : AHeap) (n m : Int) : ACalls Try.prog 53 [.int .i64 n, .int .i64 m] H0 (List.range H0.length) fun v H => v = .bool (decide (0 ≤ n ∧ n ≤ m)) ∧ H = H0 := by
  refine ACalls.body Try.func53 ent_rWithin ir_rWithin_ok rs_rWithin_ok Try.ntmps53 (by simp) rfl ?_
  unfold ir_rWithin
  have e0 : s0 [.int .i64 n, .int .i64 m] 0 = .int .i64 n := rfl
  have e1 : s0 [.int .i64 n, .int .i64 m] 1 = .int .i64 m := rfl
  by_cases h0 : 0 ≤ n
  · by_cases h1 : n ≤ m
    · simp (disch := omega) only [sN, ↓reduceIte, Nat.reduceEqDiff, Nat.reduceAdd, Nat.reduceMul, Nat.reduceSub, reduceCtorEq, e_none, e_some, e_bindS, e0, e1]
      refine ret_keep (by simp) ⟨?_, rfl⟩
      simp only [e_upd, e_putS, e_putN, e_t, e_c, Nat.reduceEqDiff, ↓reduceIte, reduceCtorEq, Nat.reduceAdd]; try simp [h0, h1]
    · simp (disch := omega) only [sN, ↓reduceIte, Nat.reduceEqDiff, Nat.reduceAdd, Nat.reduceMul, Nat.reduceSub, reduceCtorEq, e_none, e_some, e_bindS, e0, e1]
      refine ret_keep (by simp) ⟨?_, rfl⟩
      simp only [e_upd, e_putS, e_putN, e_t, e_c, Nat.reduceEqDiff, ↓reduceIte, reduceCtorEq, Nat.reduceAdd]; try simp [h0, h1]
  · simp (disch := omega) only [sN, ↓reduceIte, Nat.reduceEqDiff, Nat.reduceAdd, Nat.reduceMul, Nat.reduceSub, reduceCtorEq, e_none, e_some, e_bindS, e0, e1]
    refine ret_keep (by simp) ⟨?_, rfl⟩
    simp only [e_upd, e_putS, e_putN, e_t, e_c, Nat.reduceEqDiff, ↓reduceIte, reduceCtorEq, Nat.reduceAdd]; try simp [h0]

set_option maxHeartbeats 2000000 in
theorem rClicks_calls (H0 : AHeap) {κ : SK} {n r : Nat} {l : List Int} {row : ARow} (hk : okS κ n) (hl : l.length = n * 2) (hn : n ≤ maxLen) (hr : Vh.rowAt H0 r = some row) (hc : row.cells = ints .i64 l) :
    ACalls Try.prog 56 [mkS κ r 0 n] H0 (List.range H0.length) fun v H => v = .int .i64 (cE l n) ∧ H = H0 := by
  refine ACalls.body Try.func56 ent_rClicks ir_rClicks_ok rs_rClicks_ok Try.ntmps56 (by simp) rfl ?_
  unfold ir_rClicks
  have e0 : s0 [mkS κ r 0 n] 0 = mkS κ r 0 n := rfl
  have hn' : (n : Int) ≤ 9223372036854775807 := by unfold maxLen at hn; omega
  by_cases hb : n ≤ 4096
  · simp (disch := omega) only [sN, ↓reduceIte, Nat.reduceEqDiff, Nat.reduceAdd, Nat.reduceMul, Nat.reduceSub, reduceCtorEq, e_none, e_some, e_bindS, e0, k_len hk]
    refine ⟨fun t s H => ∃ i : Nat, t = n - i ∧ i ≤ n ∧ (∀ j, j < i → okC (cb l j) (ck l j) = true) ∧ H = H0 ∧ s 0 = mkS κ r 0 n ∧ s 3 = .int .i64 (i : Int), n, ⟨0, rfl, by omega, fun j h => by omega, rfl, ?_, ?_⟩, ?_⟩
    · simp only [e_upd, e_putS, e_putN, e_t, e_c, Nat.reduceEqDiff, ↓reduceIte, reduceCtorEq, Nat.reduceAdd, e0]
    · simp only [e_upd, e_putS, e_putN, e_t, e_c, Nat.reduceEqDiff, ↓reduceIte, reduceCtorEq, Nat.reduceAdd]; rfl
    rintro t s H ⟨i, rfl, hi, hS, hHH, h0, h3⟩
    rw [hHH]
    by_cases hlt : i < n
    · have hcb := pair_b hl hlt
      have hck := pair_k hl hlt
      rw [← hc] at hcb hck
      obtain ⟨x, hx⟩ : ∃ x, x = cb l i := ⟨_, rfl⟩
      obtain ⟨y, hy⟩ : ∃ y, y = ck l i := ⟨_, rfl⟩
      rw [← hx] at hcb; rw [← hy] at hck
      have ia : aindexAddr 2 (mkS κ r 0 n) (.int .i64 (i : Int)) = some (.ptr r (i * 2)) := by
        rw [k_idx2 hk (Nat.le_refl n) (by omega) (by omega)]; simp
      have bad : okC (cb l i) (ck l i) = false → (0 : Int) = 0 → cE l n = 2 := fun h _ => by
        unfold cE; rw [if_pos hb, okCs_false hlt h]; rfl
      by_cases h1 : 0 ≤ x
      · by_cases h2 : x ≤ 1
        · by_cases h4 : 0 ≤ y
          · by_cases h5 : y ≤ 3
            · simp (disch := omega) only [sN, ↓reduceIte, Nat.reduceEqDiff, Nat.reduceAdd, Nat.reduceMul, Nat.reduceSub, reduceCtorEq, e_none, e_some, e_bindS, h0, h3, k_len hk, ia, p_fieldAddr, Nat.add_zero, hr, hcb, hck, Option.bind_some, Option.map_some]
              refine loop_keep (m := n - (i + 1)) (by omega) ⟨i + 1, rfl, by omega, fun j hj => ?_, rfl, ?_, ?_⟩
              · rcases Nat.lt_or_ge j i with h | h
                · exact hS j h
                · obtain rfl : j = i := by omega
                  rw [← hx, ← hy]; unfold okC; exact decide_eq_true ⟨by omega, h4, h5⟩
              · simp only [e_upd, e_putS, e_putN, e_t, e_c, Nat.reduceEqDiff, ↓reduceIte, reduceCtorEq, Nat.reduceAdd, h0]
              · simp only [e_upd, e_putS, e_putN, e_t, e_c, Nat.reduceEqDiff, ↓reduceIte, reduceCtorEq, Nat.reduceAdd]; first | done | rfl
            · simp (disch := omega) only [sN, ↓reduceIte, Nat.reduceEqDiff, Nat.reduceAdd, Nat.reduceMul, Nat.reduceSub, reduceCtorEq, e_none, e_some, e_bindS, h0, h3, k_len hk, ia, p_fieldAddr, Nat.add_zero, hr, hcb, hck, Option.bind_some, Option.map_some]
              refine ret_keep (by simp) ⟨?_, rfl⟩
              rw [bad (by rw [← hx, ← hy]; unfold okC; exact decide_eq_false (by omega)) rfl]
              simp only [e_upd, e_putS, e_putN, e_t, e_c, Nat.reduceEqDiff, ↓reduceIte, reduceCtorEq, Nat.reduceAdd]
          · simp (disch := omega) only [sN, ↓reduceIte, Nat.reduceEqDiff, Nat.reduceAdd, Nat.reduceMul, Nat.reduceSub, reduceCtorEq, e_none, e_some, e_bindS, h0, h3, k_len hk, ia, p_fieldAddr, Nat.add_zero, hr, hcb, hck, Option.bind_some, Option.map_some]
            refine ret_keep (by simp) ⟨?_, rfl⟩
            rw [bad (by rw [← hx, ← hy]; unfold okC; exact decide_eq_false (by omega)) rfl]
            simp only [e_upd, e_putS, e_putN, e_t, e_c, Nat.reduceEqDiff, ↓reduceIte, reduceCtorEq, Nat.reduceAdd]
        · simp (disch := omega) only [sN, ↓reduceIte, Nat.reduceEqDiff, Nat.reduceAdd, Nat.reduceMul, Nat.reduceSub, reduceCtorEq, e_none, e_some, e_bindS, h0, h3, k_len hk, ia, p_fieldAddr, Nat.add_zero, hr, hcb, hck, Option.bind_some, Option.map_some]
          refine ret_keep (by simp) ⟨?_, rfl⟩
          rw [bad (by rw [← hx, ← hy]; unfold okC; exact decide_eq_false (by omega)) rfl]
          simp only [e_upd, e_putS, e_putN, e_t, e_c, Nat.reduceEqDiff, ↓reduceIte, reduceCtorEq, Nat.reduceAdd]
      · simp (disch := omega) only [sN, ↓reduceIte, Nat.reduceEqDiff, Nat.reduceAdd, Nat.reduceMul, Nat.reduceSub, reduceCtorEq, e_none, e_some, e_bindS, h0, h3, k_len hk, ia, p_fieldAddr, Nat.add_zero, hr, hcb, hck, Option.bind_some, Option.map_some]
        refine ret_keep (by simp) ⟨?_, rfl⟩
        rw [bad (by rw [← hx, ← hy]; unfold okC; exact decide_eq_false (by omega)) rfl]
        simp only [e_upd, e_putS, e_putN, e_t, e_c, Nat.reduceEqDiff, ↓reduceIte, reduceCtorEq, Nat.reduceAdd]
    · obtain rfl : i = n := by omega
      have hce : cE l i = 0 := by unfold cE; rw [if_pos hb, okCs_true hS]; rfl
      rw [hce]
      simp (disch := omega) only [sN, ↓reduceIte, Nat.reduceEqDiff, Nat.reduceAdd, Nat.reduceMul, Nat.reduceSub, reduceCtorEq, e_none, e_some, e_bindS, h0, h3, k_len hk]
      refine ret_keep (by simp) ⟨?_, rfl⟩
      simp only [e_upd, e_putS, e_putN, e_t, e_c, Nat.reduceEqDiff, ↓reduceIte, reduceCtorEq, Nat.reduceAdd]
  · have hce : cE l n = 5 := by simp [cE, hb]
    rw [hce]
    simp (disch := omega) only [sN, ↓reduceIte, Nat.reduceEqDiff, Nat.reduceAdd, Nat.reduceMul, Nat.reduceSub, reduceCtorEq, e_none, e_some, e_bindS, e0, k_len hk]
    refine ret_keep (by simp) ⟨?_, rfl⟩
    simp only [e_upd, e_putS, e_putN, e_t, e_c, Nat.reduceEqDiff, ↓reduceIte, reduceCtorEq, Nat.reduceAdd]
end Go.Proofs.Ythbhljolpnbdlaa


/- Contracts of stage 4: the reference's Announce. -/
-- NEWSET
namespace Go.Proofs.Ythbhljolpnbdlaa
open Go Go.Vh

theorem eA_three {l : List Int} {n : Nat} {sh a b : Int} (h : cE l n = 0) (hh : ¬ ((-16 ≤ sh ∧ sh ≤ 16) ∧ (0 ≤ b ∧ b ≤ 4096) ∧ 0 ≤ a ∧ a ≤ b)) : eA l n sh a b = 3 := by
  unfold eA
  by_cases h2 : -16 ≤ sh ∧ sh ≤ 16
  · by_cases h3 : 0 ≤ b ∧ b ≤ 4096
    · by_cases h4 : 0 ≤ a ∧ a ≤ b
      · exact (hh ⟨h2, h3, h4⟩).elim
      · simp [fst0, h, h2, h3, h4]
    · simp [fst0, h, h2, h3]
  · simp [fst0, h, h2]
theorem eA_ok {l : List Int} {n : Nat} {sh a b : Int} (h : cE l n = 0) (h2 : -16 ≤ sh ∧ sh ≤ 16) (h3 : 0 ≤ b ∧ b ≤ 4096) (h4 : 0 ≤ a ∧ a ≤ b) : eA l n sh a b = 0 := by
  simp [eA, fst0, h, h2, h3, h4]

set_option maxHeartbeats 2000000 in
theorem rAnnounce_calls (H0 : AHeap) {κ : SK} {n r : Nat} {l : List Int} {row : ARow} {sh a b : Int} (hk : okS κ n) (hl : l.length = n * 2) (hn : n ≤ maxLen) (hr : Vh.rowAt H0 r = some row) (hc : row.cells = ints .i64 l) :
    ACalls Try.prog 19 [mkS κ r 0 n, .int .i64 sh, .int .i64 a, .int .i64 b] H0 (List.range H0.length) (AnsA H0 l n sh a b) := by
  refine ACalls.body Try.func19 ent_rAnnounce ir_rAnnounce_ok rs_rAnnounce_ok Try.ntmps19 (by simp) rfl ?_
  unfold ir_rAnnounce
  have e0 : s0 [mkS κ r 0 n, .int .i64 sh, .int .i64 a, .int .i64 b] 0 = mkS κ r 0 n := rfl
  have e1 : s0 [mkS κ r 0 n, .int .i64 sh, .int .i64 a, .int .i64 b] 1 = .int .i64 sh := rfl
  have e2 : s0 [mkS κ r 0 n, .int .i64 sh, .int .i64 a, .int .i64 b] 2 = .int .i64 a := rfl
  have e3 : s0 [mkS κ r 0 n, .int .i64 sh, .int .i64 a, .int .i64 b] 3 = .int .i64 b := rfl
  have fin : ∀ E : Int, E ≠ 0 → eA l n sh a b = E → AnsA H0 l n sh a b (.tuple [.nilslice, .int .i64 E]) H0 := fun E hE he => by
    refine ⟨.nilslice, by rw [he], Base.refl, .inl ⟨?_, rfl⟩⟩
    unfold anL; rw [if_neg (by rw [he]; exact hE)]
  simp (disch := omega) only [sN, ↓reduceIte, Nat.reduceEqDiff, Nat.reduceAdd, Nat.reduceMul, Nat.reduceSub, reduceCtorEq, e_none, e_some, e_bindS, e0, e1, e2, e3, List.map_cons, List.map_nil]
  refine ⟨_, (rClicks_calls H0 hk hl hn hr hc).g.mono ?_⟩
  rintro v H1 ⟨rfl, hH⟩
  rw [hH]
  obtain ⟨E1, hE1⟩ : ∃ e, e = cE l n := ⟨_, rfl⟩
  rw [← hE1]
  by_cases hz : E1 = 0
  · rw [hz] at hE1 ⊢
    have hE1' := hE1.symm
    simp (disch := omega) only [sN, ↓reduceIte, Nat.reduceEqDiff, Nat.reduceAdd, Nat.reduceMul, Nat.reduceSub, reduceCtorEq, e_none, e_some, e_bindS, e0, e1, e2, e3, List.map_cons, List.map_nil]
    refine ⟨_, (rShiftable_calls H0 sh).g.mono ?_⟩
    rintro v H1 ⟨rfl, hH⟩
    rw [hH]
    by_cases hs : -16 ≤ sh ∧ sh ≤ 16
    · rw [decide_eq_true hs]
      simp (disch := omega) only [sN, ↓reduceIte, Nat.reduceEqDiff, Nat.reduceAdd, Nat.reduceMul, Nat.reduceSub, reduceCtorEq, e_none, e_some, e_bindS, e0, e1, e2, e3, List.map_cons, List.map_nil]
      refine ⟨_, (rWithin_calls H0 b 4096).g.mono ?_⟩
      rintro v H1 ⟨rfl, hH⟩
      rw [hH]
      by_cases hb : 0 ≤ b ∧ b ≤ 4096
      · rw [decide_eq_true hb]
        simp (disch := omega) only [sN, ↓reduceIte, Nat.reduceEqDiff, Nat.reduceAdd, Nat.reduceMul, Nat.reduceSub, reduceCtorEq, e_none, e_some, e_bindS, e0, e1, e2, e3, List.map_cons, List.map_nil]
        refine ⟨_, (rWithin_calls H0 a b).g.mono ?_⟩
        rintro v H1 ⟨rfl, hH⟩
        rw [hH]
        by_cases ha : 0 ≤ a ∧ a ≤ b
        · rw [decide_eq_true ha]
          have hz0 : eA l n sh a b = 0 := eA_ok hE1' hs hb ha
          have hn4 : n ≤ 4096 := (eA_zero hz0).1
          simp (disch := omega) only [sN, ↓reduceIte, Nat.reduceEqDiff, Nat.reduceAdd, Nat.reduceMul, Nat.reduceSub, reduceCtorEq, e_none, e_some, e_bindS, e0, e1, e2, e3]
          refine ⟨fun t s H => ∃ j : Nat, (t : Int) = b - a - j ∧ (j : Int) ≤ b - a ∧ Base H0 H ∧ Gr H0 H (s 10) (ann l n sh a j) ∧ s 0 = mkS κ r 0 n ∧ s 1 = .int .i64 sh ∧ s 3 = .int .i64 b ∧ s 11 = .int .i64 (a + j), (b - a).toNat, ⟨0, by omega, by omega, Base.refl, .inl ⟨rfl, ?_⟩, ?_, ?_, ?_, ?_⟩, ?_⟩
          · simp only [e_upd, e_putS, e_putN, e_t, e_c, Nat.reduceEqDiff, ↓reduceIte, reduceCtorEq, Nat.reduceAdd]
          · simp only [e_upd, e_putS, e_putN, e_t, e_c, Nat.reduceEqDiff, ↓reduceIte, reduceCtorEq, Nat.reduceAdd, e0]
          · simp only [e_upd, e_putS, e_putN, e_t, e_c, Nat.reduceEqDiff, ↓reduceIte, reduceCtorEq, Nat.reduceAdd, e1]
          · simp only [e_upd, e_putS, e_putN, e_t, e_c, Nat.reduceEqDiff, ↓reduceIte, reduceCtorEq, Nat.reduceAdd, e3]
          · simp only [e_upd, e_putS, e_putN, e_t, e_c, Nat.reduceEqDiff, ↓reduceIte, reduceCtorEq, Nat.reduceAdd]; simp
          rintro t s H ⟨j, ht, hj, hB, hg, h0, h1, h3, h11⟩
          have hrH := hB.row hr
          by_cases hlt : a + (j : Int) < b
          · have next : ∀ (s' : St) (H' : AHeap), Base H0 H' → Gr H0 H' (s' 10) (ann l n sh a (j + 1)) → s' 0 = mkS κ r 0 n → s' 1 = .int .i64 sh → s' 3 = .int .i64 b → s' 11 = .int .i64 (a + j + 1) → loopPost H0.length (fun t s H => ∃ j : Nat, (t : Int) = b - a - j ∧ (j : Int) ≤ b - a ∧ Base H0 H ∧ Gr H0 H (s 10) (ann l n sh a j) ∧ s 0 = mkS κ r 0 n ∧ s 1 = .int .i64 sh ∧ s 3 = .int .i64 b ∧ s 11 = .int .i64 (a + j)) t s' H' := fun s' H' q1 q2 q3 q4 q5 q6 =>
              loop_keep (m := t - 1) (by omega) ⟨j + 1, by omega, by omega, q1, q2, q3, q4, q5, by rw [q6]; congr 1; omega⟩
            have hst : ann l n sh a (j + 1) = ann l n sh a j ++ hd1 l n sh (a + j) := rfl
            obtain ⟨c, hcc⟩ : ∃ c, c = a + (j : Int) := ⟨_, rfl⟩
            rw [← hcc] at h11 hlt hst next
            have skip : ¬ (0 ≤ c + sh ∧ c + sh < n ∧ (ck l (c + sh).toNat = 1 ∨ ck l (c + sh).toNat = 2)) → ann l n sh a (j + 1) = ann l n sh a j := fun h => by
              rw [hst]; unfold hd1; rw [if_neg h, List.append_nil]
            by_cases hx0 : 0 ≤ c + sh
            · by_cases hx1 : c + sh < n
              · obtain ⟨i, hi'⟩ : ∃ i : Nat, (i : Int) = c + sh := ⟨(c + sh).toNat, by omega⟩
                have hin : i < n := by omega
                have hcb := pair_b hl hin
                have hck := pair_k hl hin
                rw [← hc] at hcb hck
                have ia : aindexAddr 2 (mkS κ r 0 n) (.int .i64 (c + sh)) = some (.ptr r (i * 2)) := by
                  rw [← hi', k_idx2 hk (Nat.le_refl n) (by omega) (by omega)]; simp
                have hcn : (c + sh).toNat = i := by omega
                obtain ⟨y, hy⟩ : ∃ y, y = ck l i := ⟨_, rfl⟩
                rw [← hy] at hck
                have tail : y = 1 ∨ y = 2 → ann l n sh a (j + 1) = ann l n sh a j ++ [c, cb l i] := fun h => by
                  rw [hst]; unfold hd1; rw [if_pos (by rw [hcn, ← hy]; exact ⟨hx0, hx1, h⟩), hcn]
                have hlen := ann_len (l := l) (n := n) (sh := sh) (a := a) j
                obtain ⟨v', H'', ea, eg, eb⟩ := x_appG (H0 := H0) (H := H ++ [rw_ [.int .i64 c, .int .i64 (cb l i)]]) (v := s 10) (l := ann l n sh a j) (a := c) (b := cb l i) (r := H.length) (c := 1) (row := ⟨true, false, [.int .i64 c, .int .i64 (cb l i)]⟩) hg.app (by simp [Vh.rowAt, rw_]) rfl (by omega) hB.app
                by_cases hy1 : y = 1
                · simp (disch := omega) only [sN, ↓reduceIte, Nat.reduceEqDiff, Nat.reduceAdd, Nat.reduceMul, Nat.reduceSub, reduceCtorEq, e_none, e_some, e_bindS, h0, h1, h3, h11, k_len hk, ia, p_fieldAddr, Nat.add_zero, hrH, hcb, hck, Option.bind_some, Option.map_some]
                  rw [p_build2v (v1 := .int .i64 c) (v2 := .int .i64 (cb l i)) (by simp only [e_upd, e_putS, e_putN, e_t, e_c, Nat.reduceEqDiff, ↓reduceIte, reduceCtorEq, Nat.reduceAdd]) (by simp only [e_upd, e_putS, e_putN, e_t, e_c, Nat.reduceEqDiff, ↓reduceIte, reduceCtorEq, Nat.reduceAdd]) rfl rfl]
                  simp (disch := omega) only [sN, ↓reduceIte, Nat.reduceEqDiff, Nat.reduceAdd, Nat.reduceMul, Nat.reduceSub, reduceCtorEq, e_none, e_some, e_bindS, h0, h1, h3, h11]
                  rw [x_bsA1 (v1 := .int .i64 c) (v2 := .int .i64 (cb l i)) (by simp only [e_upd, e_putS, e_putN, e_t, e_c, Nat.reduceEqDiff, ↓reduceIte, reduceCtorEq, Nat.reduceAdd]) rfl rfl]
                  simp (disch := omega) only [sN, ↓reduceIte, Nat.reduceEqDiff, Nat.reduceAdd, Nat.reduceMul, Nat.reduceSub, reduceCtorEq, e_none, e_some, e_bindS, h0, h1, h3, h11]
                  rw [ea _ _ _ (by simp only [e_upd, e_putS, e_putN, e_t, e_c, Nat.reduceEqDiff, ↓reduceIte, reduceCtorEq, Nat.reduceAdd]) (by simp only [e_upd, e_putS, e_putN, e_t, e_c, Nat.reduceEqDiff, ↓reduceIte, reduceCtorEq, Nat.reduceAdd])]
                  simp (disch := omega) only [sN, ↓reduceIte, Nat.reduceEqDiff, Nat.reduceAdd, Nat.reduceMul, Nat.reduceSub, reduceCtorEq, e_none, e_some, e_bindS, h0, h1, h3, h11]
                  refine next _ _ eb ?_ ?_ ?_ ?_ ?_
                  · rw [tail (.inl hy1)]; simp only [e_upd, e_putS, e_putN, e_t, e_c, Nat.reduceEqDiff, ↓reduceIte, reduceCtorEq, Nat.reduceAdd]; exact eg
                  · simp only [e_upd, e_putS, e_putN, e_t, e_c, Nat.reduceEqDiff, ↓reduceIte, reduceCtorEq, Nat.reduceAdd, h0]
                  · simp only [e_upd, e_putS, e_putN, e_t, e_c, Nat.reduceEqDiff, ↓reduceIte, reduceCtorEq, Nat.reduceAdd, h1]
                  · simp only [e_upd, e_putS, e_putN, e_t, e_c, Nat.reduceEqDiff, ↓reduceIte, reduceCtorEq, Nat.reduceAdd, h3]
                  · simp only [e_upd, e_putS, e_putN, e_t, e_c, Nat.reduceEqDiff, ↓reduceIte, reduceCtorEq, Nat.reduceAdd]
                · by_cases hy2 : y = 2
                  · simp (disch := omega) only [sN, ↓reduceIte, Nat.reduceEqDiff, Nat.reduceAdd, Nat.reduceMul, Nat.reduceSub, reduceCtorEq, e_none, e_some, e_bindS, h0, h1, h3, h11, k_len hk, ia, p_fieldAddr, Nat.add_zero, hrH, hcb, hck, Option.bind_some, Option.map_some]
                    rw [p_build2v (v1 := .int .i64 c) (v2 := .int .i64 (cb l i)) (by simp only [e_upd, e_putS, e_putN, e_t, e_c, Nat.reduceEqDiff, ↓reduceIte, reduceCtorEq, Nat.reduceAdd]) (by simp only [e_upd, e_putS, e_putN, e_t, e_c, Nat.reduceEqDiff, ↓reduceIte, reduceCtorEq, Nat.reduceAdd]) rfl rfl]
                    simp (disch := omega) only [sN, ↓reduceIte, Nat.reduceEqDiff, Nat.reduceAdd, Nat.reduceMul, Nat.reduceSub, reduceCtorEq, e_none, e_some, e_bindS, h0, h1, h3, h11]
                    rw [x_bsA1 (v1 := .int .i64 c) (v2 := .int .i64 (cb l i)) (by simp only [e_upd, e_putS, e_putN, e_t, e_c, Nat.reduceEqDiff, ↓reduceIte, reduceCtorEq, Nat.reduceAdd]) rfl rfl]
                    simp (disch := omega) only [sN, ↓reduceIte, Nat.reduceEqDiff, Nat.reduceAdd, Nat.reduceMul, Nat.reduceSub, reduceCtorEq, e_none, e_some, e_bindS, h0, h1, h3, h11]
                    rw [ea _ _ _ (by simp only [e_upd, e_putS, e_putN, e_t, e_c, Nat.reduceEqDiff, ↓reduceIte, reduceCtorEq, Nat.reduceAdd]) (by simp only [e_upd, e_putS, e_putN, e_t, e_c, Nat.reduceEqDiff, ↓reduceIte, reduceCtorEq, Nat.reduceAdd])]
                    simp (disch := omega) only [sN, ↓reduceIte, Nat.reduceEqDiff, Nat.reduceAdd, Nat.reduceMul, Nat.reduceSub, reduceCtorEq, e_none, e_some, e_bindS, h0, h1, h3, h11]
                    refine next _ _ eb ?_ ?_ ?_ ?_ ?_
                    · rw [tail (.inr hy2)]; simp only [e_upd, e_putS, e_putN, e_t, e_c, Nat.reduceEqDiff, ↓reduceIte, reduceCtorEq, Nat.reduceAdd]; exact eg
                    · simp only [e_upd, e_putS, e_putN, e_t, e_c, Nat.reduceEqDiff, ↓reduceIte, reduceCtorEq, Nat.reduceAdd, h0]
                    · simp only [e_upd, e_putS, e_putN, e_t, e_c, Nat.reduceEqDiff, ↓reduceIte, reduceCtorEq, Nat.reduceAdd, h1]
                    · simp only [e_upd, e_putS, e_putN, e_t, e_c, Nat.reduceEqDiff, ↓reduceIte, reduceCtorEq, Nat.reduceAdd, h3]
                    · simp only [e_upd, e_putS, e_putN, e_t, e_c, Nat.reduceEqDiff, ↓reduceIte, reduceCtorEq, Nat.reduceAdd]
                  · simp (disch := omega) only [sN, ↓reduceIte, Nat.reduceEqDiff, Nat.reduceAdd, Nat.reduceMul, Nat.reduceSub, reduceCtorEq, e_none, e_some, e_bindS, h0, h1, h3, h11, k_len hk, ia, p_fieldAddr, Nat.add_zero, hrH, hcb, hck, Option.bind_some, Option.map_some]
                    refine next _ _ hB ?_ ?_ ?_ ?_ ?_
                    · rw [skip (by rw [hcn, ← hy]; exact fun h => by omega)]; simp only [e_upd, e_putS, e_putN, e_t, e_c, Nat.reduceEqDiff, ↓reduceIte, reduceCtorEq, Nat.reduceAdd]; exact hg
                    · simp only [e_upd, e_putS, e_putN, e_t, e_c, Nat.reduceEqDiff, ↓reduceIte, reduceCtorEq, Nat.reduceAdd, h0]
                    · simp only [e_upd, e_putS, e_putN, e_t, e_c, Nat.reduceEqDiff, ↓reduceIte, reduceCtorEq, Nat.reduceAdd, h1]
                    · simp only [e_upd, e_putS, e_putN, e_t, e_c, Nat.reduceEqDiff, ↓reduceIte, reduceCtorEq, Nat.reduceAdd, h3]
                    · simp only [e_upd, e_putS, e_putN, e_t, e_c, Nat.reduceEqDiff, ↓reduceIte, reduceCtorEq, Nat.reduceAdd]
              · simp (disch := omega) only [sN, ↓reduceIte, Nat.reduceEqDiff, Nat.reduceAdd, Nat.reduceMul, Nat.reduceSub, reduceCtorEq, e_none, e_some, e_bindS, h0, h1, h3, h11, k_len hk]
                refine next _ _ hB ?_ ?_ ?_ ?_ ?_
                · rw [skip (by omega)]; simp only [e_upd, e_putS, e_putN, e_t, e_c, Nat.reduceEqDiff, ↓reduceIte, reduceCtorEq, Nat.reduceAdd]; exact hg
                · simp only [e_upd, e_putS, e_putN, e_t, e_c, Nat.reduceEqDiff, ↓reduceIte, reduceCtorEq, Nat.reduceAdd, h0]
                · simp only [e_upd, e_putS, e_putN, e_t, e_c, Nat.reduceEqDiff, ↓reduceIte, reduceCtorEq, Nat.reduceAdd, h1]
                · simp only [e_upd, e_putS, e_putN, e_t, e_c, Nat.reduceEqDiff, ↓reduceIte, reduceCtorEq, Nat.reduceAdd, h3]
                · simp only [e_upd, e_putS, e_putN, e_t, e_c, Nat.reduceEqDiff, ↓reduceIte, reduceCtorEq, Nat.reduceAdd]
            · simp (disch := omega) only [sN, ↓reduceIte, Nat.reduceEqDiff, Nat.reduceAdd, Nat.reduceMul, Nat.reduceSub, reduceCtorEq, e_none, e_some, e_bindS, h0, h1, h3, h11, k_len hk]
              refine next _ _ hB ?_ ?_ ?_ ?_ ?_
              · rw [skip (by omega)]; simp only [e_upd, e_putS, e_putN, e_t, e_c, Nat.reduceEqDiff, ↓reduceIte, reduceCtorEq, Nat.reduceAdd]; exact hg
              · simp only [e_upd, e_putS, e_putN, e_t, e_c, Nat.reduceEqDiff, ↓reduceIte, reduceCtorEq, Nat.reduceAdd, h0]
              · simp only [e_upd, e_putS, e_putN, e_t, e_c, Nat.reduceEqDiff, ↓reduceIte, reduceCtorEq, Nat.reduceAdd, h1]
              · simp only [e_upd, e_putS, e_putN, e_t, e_c, Nat.reduceEqDiff, ↓reduceIte, reduceCtorEq, Nat.reduceAdd, h3]
              · simp only [e_upd, e_putS, e_putN, e_t, e_c, Nat.reduceEqDiff, ↓reduceIte, reduceCtorEq, Nat.reduceAdd]
          · simp (disch := omega) only [sN, ↓reduceIte, Nat.reduceEqDiff, Nat.reduceAdd, Nat.reduceMul, Nat.reduceSub, reduceCtorEq, e_none, e_some, e_bindS, h0, h1, h3, h11]
            refine ret_keep hB.1 ?_
            rw [show rs_rAnnounce = [.tmp 8, .tmp 9] from rfl, q_tmp2, q_then]
            refine ⟨s 10, ?_, hB, ?_⟩
            · rw [hz0]; simp only [e_upd, e_putS, e_putN, e_t, e_c, Nat.reduceEqDiff, ↓reduceIte, reduceCtorEq, Nat.reduceAdd]
            · unfold anL; rw [if_pos hz0, show (b - a).toNat = j by omega]; exact hg
        · rw [decide_eq_false ha]
          simp (disch := omega) only [sN, ↓reduceIte, Nat.reduceEqDiff, Nat.reduceAdd, Nat.reduceMul, Nat.reduceSub, reduceCtorEq, e_none, e_some, e_bindS, e0, e1, e2, e3]
          refine ret_keep (by simp) ?_
          rw [show rs_rAnnounce = [.tmp 8, .tmp 9] from rfl, q_tmp2, q_then]
          simp only [e_upd, e_putS, e_putN, e_t, e_c, Nat.reduceEqDiff, ↓reduceIte, reduceCtorEq, Nat.reduceAdd]
          exact fin 3 (by decide) (eA_three hE1' (by omega))
      · rw [decide_eq_false hb]
        simp (disch := omega) only [sN, ↓reduceIte, Nat.reduceEqDiff, Nat.reduceAdd, Nat.reduceMul, Nat.reduceSub, reduceCtorEq, e_none, e_some, e_bindS, e0, e1, e2, e3, List.map_cons, List.map_nil]
        refine ret_keep (by simp) ?_
        rw [show rs_rAnnounce = [.tmp 8, .tmp 9] from rfl, q_tmp2, q_then]
        simp only [e_upd, e_putS, e_putN, e_t, e_c, Nat.reduceEqDiff, ↓reduceIte, reduceCtorEq, Nat.reduceAdd]
        exact fin 3 (by decide) (eA_three hE1' (by omega))
    · rw [decide_eq_false hs]
      simp (disch := omega) only [sN, ↓reduceIte, Nat.reduceEqDiff, Nat.reduceAdd, Nat.reduceMul, Nat.reduceSub, reduceCtorEq, e_none, e_some, e_bindS, e0, e1, e2, e3, List.map_cons, List.map_nil]
      refine ret_keep (by simp) ?_
      rw [show rs_rAnnounce = [.tmp 8, .tmp 9] from rfl, q_tmp2, q_then]
      simp only [e_upd, e_putS, e_putN, e_t, e_c, Nat.reduceEqDiff, ↓reduceIte, reduceCtorEq, Nat.reduceAdd]
      exact fin 3 (by decide) (eA_three hE1' (by omega))
  · simp (disch := omega) only [sN, ↓reduceIte, Nat.reduceEqDiff, Nat.reduceAdd, Nat.reduceMul, Nat.reduceSub, reduceCtorEq, e_none, e_some, e_bindS, e0, e1, e2, e3, List.map_cons, List.map_nil]
    refine ⟨_, (rClicks_calls H0 hk hl hn hr hc).g.mono ?_⟩
    rintro v H1 ⟨rfl, hH⟩
    rw [hH, ← hE1]
    simp (disch := omega) only [sN, ↓reduceIte, Nat.reduceEqDiff, Nat.reduceAdd, Nat.reduceMul, Nat.reduceSub, reduceCtorEq, e_none, e_some, e_bindS, e0, e1, e2, e3]
    refine ret_keep (by simp) ?_
    rw [show rs_rAnnounce = [.tmp 8, .tmp 9] from rfl, q_tmp2, q_then]
    simp only [e_upd, e_putS, e_putN, e_t, e_c, Nat.reduceEqDiff, ↓reduceIte, reduceCtorEq, Nat.reduceAdd]
    exact fin E1 hz (by unfold eA; simp [fst0, ← hE1, hz])
end Go.Proofs.Ythbhljolpnbdlaa


/- Contracts of stage 4: two lists compared. -/
-- NEWSET
namespace Go.Proofs.Ythbhljolpnbdlaa
open Go Go.Vh

theorem u_idx2 {q n : Nat} {x : Int} (h0 : 0 ≤ x) (h1 : x < n) : aindexAddr 2 (.sliceU q 0 n 2) (.int .i64 x) = some (.ptr q (x.toNat * 2)) := by
  simp [aindexAddr, h0, h1]

theorem p_eqPair {s : St} {x y : Opd} {a b : Int} (h1 : evo s x = .agg [.int .i64 a, .int .i64 b]) (h2 : evo s y = .agg [.int .i64 a, .int .i64 b]) : ipure (.eqAgg true [(0, 0), (1, 0)] x y) s = some (.bool false) := by
  simp [ipure, h1, h2, aggEq, cellEq]

set_option maxHeartbeats 1000000 in
theorem sameHeard_calls (H0 : AHeap) {B1 B2 : AHeap} {v v' : AV} {l : List Int} (h1 : Gr B1 H0 v l) (h2 : Gr B2 H0 v' l) (hlen : l.length ≤ 100000) :
    ACalls Try.prog 20 [v, v'] H0 (List.range H0.length) fun w H => w = .bool true ∧ H = H0 := by
  refine ACalls.body Try.func20 ent_sameHeard ir_sameHeard_ok rs_sameHeard_ok Try.ntmps20 (by simp) rfl ?_
  unfold ir_sameHeard
  have e0 : s0 [v, v'] 0 = v := rfl
  have e1 : s0 [v, v'] 1 = v' := rfl
  rcases h1 with ⟨rfl, rfl⟩ | ⟨q, n, a1, a2, rfl, a4, a5⟩
  · rcases h2 with ⟨_, rfl⟩ | ⟨q', n', b1, b2, rfl, b4, b5⟩
    · simp (disch := omega) only [sN, ↓reduceIte, Nat.reduceEqDiff, Nat.reduceAdd, Nat.reduceMul, Nat.reduceSub, reduceCtorEq, e_none, e_some, e_bindS, e0, e1]
      refine ⟨fun t s H => H = H0 ∧ s 0 = .nilslice ∧ s 5 = .int .i64 0, 0, ⟨rfl, ?_, ?_⟩, ?_⟩
      · simp only [e_upd, e_putS, e_putN, e_t, e_c, Nat.reduceEqDiff, ↓reduceIte, reduceCtorEq, Nat.reduceAdd, e0]
      · simp only [e_upd, e_putS, e_putN, e_t, e_c, Nat.reduceEqDiff, ↓reduceIte, reduceCtorEq, Nat.reduceAdd]
      rintro t s H ⟨hH, h0, h5⟩
      rw [hH]
      simp (disch := omega) only [sN, ↓reduceIte, Nat.reduceEqDiff, Nat.reduceAdd, Nat.reduceMul, Nat.reduceSub, reduceCtorEq, e_none, e_some, e_bindS, h0, h5]
      refine ret_keep (by simp) ⟨?_, rfl⟩
      simp only [e_upd, e_putS, e_putN, e_t, e_c, Nat.reduceEqDiff, ↓reduceIte, reduceCtorEq, Nat.reduceAdd]
    · simp at b2; omega
  · rcases h2 with ⟨rfl, _⟩ | ⟨q', n', b1, b2, rfl, b4, b5⟩
    · simp at a2; omega
    obtain rfl : n' = n := by omega
    have hn : n' ≤ 9223372036854775807 := by omega
    simp (disch := omega) only [sN, ↓reduceIte, Nat.reduceEqDiff, Nat.reduceAdd, Nat.reduceMul, Nat.reduceSub, reduceCtorEq, e_none, e_some, e_bindS, e0, e1]
    refine ⟨fun t s H => ∃ i : Nat, t = n' - i ∧ i ≤ n' ∧ H = H0 ∧ s 0 = .sliceU q 0 n' 2 ∧ s 1 = .sliceU q' 0 n' 2 ∧ s 5 = .int .i64 (i : Int), n', ⟨0, rfl, by omega, rfl, ?_, ?_, ?_⟩, ?_⟩
    · simp only [e_upd, e_putS, e_putN, e_t, e_c, Nat.reduceEqDiff, ↓reduceIte, reduceCtorEq, Nat.reduceAdd, e0]
    · simp only [e_upd, e_putS, e_putN, e_t, e_c, Nat.reduceEqDiff, ↓reduceIte, reduceCtorEq, Nat.reduceAdd, e1]
    · simp only [e_upd, e_putS, e_putN, e_t, e_c, Nat.reduceEqDiff, ↓reduceIte, reduceCtorEq, Nat.reduceAdd]; rfl
    rintro t s H ⟨i, rfl, hi, hH, h0, h1, h5⟩
    rw [hH]
    by_cases hlt : i < n'
    · obtain ⟨c1, c2⟩ := pair_at a2 hlt
      have ia : aindexAddr 2 (.sliceU q 0 n' 2) (.int .i64 (i : Int)) = some (.ptr q (i * 2)) := by
        rw [u_idx2 (by omega) (by omega)]; simp
      have ib : aindexAddr 2 (.sliceU q' 0 n' 2) (.int .i64 (i : Int)) = some (.ptr q' (i * 2)) := by
        rw [u_idx2 (by omega) (by omega)]; simp
      simp (disch := omega) only [sN, ↓reduceIte, Nat.reduceEqDiff, Nat.reduceAdd, Nat.reduceMul, Nat.reduceSub, reduceCtorEq, e_none, e_some, e_bindS, h0, h1, h5, ia, ib]
      rw [x_loadNO (n := 2) (r := q) (off := i * 2) (l := [.int .i64 (cb l i), .int .i64 (ck l i)]) (by simp only [e_upd, e_putS, e_putN, e_t, e_c, Nat.reduceEqDiff, ↓reduceIte, reduceCtorEq, Nat.reduceAdd]) a5 c1 c2]
      simp (disch := omega) only [sN, ↓reduceIte, Nat.reduceEqDiff, Nat.reduceAdd, Nat.reduceMul, Nat.reduceSub, reduceCtorEq, e_none, e_some, e_bindS, h0, h1, h5, ia, ib]
      rw [x_loadNO (n := 2) (r := q') (off := i * 2) (l := [.int .i64 (cb l i), .int .i64 (ck l i)]) (by simp only [e_upd, e_putS, e_putN, e_t, e_c, Nat.reduceEqDiff, ↓reduceIte, reduceCtorEq, Nat.reduceAdd]) b5 c1 c2]
      simp (disch := omega) only [sN, ↓reduceIte, Nat.reduceEqDiff, Nat.reduceAdd, Nat.reduceMul, Nat.reduceSub, reduceCtorEq, e_none, e_some, e_bindS, h0, h1, h5, ia, ib]
      rw [p_eqPair (a := cb l i) (b := ck l i) (by simp only [e_upd, e_putS, e_putN, e_t, e_c, Nat.reduceEqDiff, ↓reduceIte, reduceCtorEq, Nat.reduceAdd]) (by simp only [e_upd, e_putS, e_putN, e_t, e_c, Nat.reduceEqDiff, ↓reduceIte, reduceCtorEq, Nat.reduceAdd])]
      simp (disch := omega) only [sN, ↓reduceIte, Nat.reduceEqDiff, Nat.reduceAdd, Nat.reduceMul, Nat.reduceSub, reduceCtorEq, e_none, e_some, e_bindS, h0, h1, h5, ia, ib]
      refine loop_keep (m := n' - (i + 1)) (by omega) ⟨i + 1, rfl, by omega, rfl, ?_, ?_, ?_⟩
      · simp only [e_upd, e_putS, e_putN, e_t, e_c, Nat.reduceEqDiff, ↓reduceIte, reduceCtorEq, Nat.reduceAdd, h0]
      · simp only [e_upd, e_putS, e_putN, e_t, e_c, Nat.reduceEqDiff, ↓reduceIte, reduceCtorEq, Nat.reduceAdd, h1]
      · simp only [e_upd, e_putS, e_putN, e_t, e_c, Nat.reduceEqDiff, ↓reduceIte, reduceCtorEq, Nat.reduceAdd]; first | done | rfl
    · obtain rfl : i = n' := by omega
      simp (disch := omega) only [sN, ↓reduceIte, Nat.reduceEqDiff, Nat.reduceAdd, Nat.reduceMul, Nat.reduceSub, reduceCtorEq, e_none, e_some, e_bindS, h0, h1, h5]
      refine ret_keep (by simp) ⟨?_, rfl⟩
      simp only [e_upd, e_putS, e_putN, e_t, e_c, Nat.reduceEqDiff, ↓reduceIte, reduceCtorEq, Nat.reduceAdd]
end Go.Proofs.Ythbhljolpnbdlaa

