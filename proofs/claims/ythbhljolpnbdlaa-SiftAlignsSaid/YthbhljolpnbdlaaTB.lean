/- Contracts of stage 4: the reference's Announce; two lists compared. -/
import Derived.Test.YthbhljolpnbdlaaVX
import Derived.Test.YthbhljolpnbdlaaT3
set_option linter.unusedSimpArgs false
set_option linter.unusedVariables false
-- NEWSET
namespace Go.Proofs.Ythbhljolpnbdlaa
open Go Go.Vh

theorem rShiftable_calls (H0 : AHeap) (n : Int) : ACalls Try.prog 49 [.int .i64 n] H0 (List.range H0.length) fun v H => v = .bool (decide (-16 ≤ n ∧ n ≤ 16)) ∧ H = H0 := by
  refine ACalls.body Try.func49 ent_rShiftable ir_rShiftable_ok rs_rShiftable_ok Try.ntmps49 (by simp) rfl ?_
  unfold ir_rShiftable
  have e0 : s0 [.int .i64 n] 0 = .int .i64 n := rfl
  by_cases h0 : -16 ≤ n
  · by_cases h1 : n ≤ 16
    · simp (disch := omega) only [sN, ↓reduceIte, Nat.reduceEqDiff, Nat.reduceAdd, Nat.reduceMul, Nat.reduceSub, reduceCtorEq, e_none, e_some, e_bindS, e0]
      refine ret_keep (by simp) ⟨?_, rfl⟩
      simp only [e_upd, e_putS, e_putN, e_t, e_c, Nat.reduceEqDiff, ↓reduceIte, reduceCtorEq, Nat.reduceAdd]; try simp [h0, h1]
    · simp (disch := omega) only [sN, ↓reduceIte, Nat.reduceEqDiff, Nat.reduceAdd, Nat.reduceMul, Nat.reduceSub, reduceCtorEq, e_none, e_some, e_bindS, e0]
      refine ret_keep (by simp) ⟨?_, rfl⟩
      simp only [e_upd, e_putS, e_putN, e_t, e_c, Nat.reduceEqDiff, ↓reduceIte, reduceCtorEq, Nat.reduceAdd]; try simp [h0, h1]
  · simp (disch := omega) only [sN, ↓reduceIte, Nat.reduceEqDiff, Nat.reduceAdd, Nat.reduceMul, Nat.reduceSub, reduceCtorEq, e_none, e_some, e_bindS, e0]
    refine ret_keep (by simp) ⟨?_, rfl⟩
    simp only [e_upd, e_putS, e_putN, e_t, e_c, Nat.reduceEqDiff, ↓reduceIte, reduceCtorEq, Nat.reduceAdd]; try simp [h0]

theorem rWithin_calls (H0 : AHeap) (n m : Int) : ACalls Try.prog 53 [.int .i64 n, .int .i64 m] H0 (List.range H0.length) fun v H => v = .bool (decide (0 ≤ n ∧ n ≤ m)) ∧ H = H0 := by
  refine ACalls.body Try.func53 ent_rWithin ir_rWithin_ok rs_rWithin_ok Try.ntmps53 (by simp) rfl ?_
  unfold ir_rWithin
  have e0 : s0 [.int .i64 n, .int .i64 m] 0 = .int .i64 n := rfl
  have e1 : s0 [.int .i64 n, .int .i64 m] 1 = .int .i64 m := rfl
  by_cases h0 : 0 ≤ n
  · by_cases h1 : n ≤ m
    · simp (disch := omega) only [sN, ↓reduceIte, Nat.reduceEqDiff, Nat.reduceAdd, Nat.reduceMul, Nat.reduceSub, reduceCtorEq, e_none, e_some, e_bindS, e0, e1]
      refine ret_keep (by simp) ⟨?_, rfl⟩
      simp only [e_upd, e_putS, e_putN, e_t, e_c, Nat.reduceEqDiff, ↓reduceIte, reduceCtorEq, Nat.reduceAdd]; try simp [h0, h1]
    · simp (disch := omega) only [sN, ↓reduceIte, Nat.reduceEqDiff, Nat.reduceAdd, Nat.reduceMul, Nat.reduceSub, reduceCtorEq, e_none, e_some, e_bindS, e0, e1]
      refine ret_keep (by simp) ⟨?_, rfl⟩
      simp only [e_upd, e_putS, e_putN, e_t, e_c, Nat.reduceEqDiff, ↓reduceIte, reduceCtorEq, Nat.reduceAdd]; try simp [h0, h1]
  · simp (disch := omega) only [sN, ↓reduceIte, Nat.reduceEqDiff, Nat.reduceAdd, Nat.reduceMul, Nat.reduceSub, reduceCtorEq, e_none, e_some, e_bindS, e0, e1]
    refine ret_keep (by simp) ⟨?_, rfl⟩
    simp only [e_upd, e_putS, e_putN, e_t, e_c, Nat.reduceEqDiff, ↓reduceIte, reduceCtorEq, Nat.reduceAdd]; try simp [h0]

set_option maxHeartbeats 2000000 in
theorem rClicks_calls (H0 : AHeap) {κ : SK} {n r : Nat} {l : List Int} {row : ARow} (hk : okS κ n) (hl : l.length = n * 2) (hn : n ≤ maxLen) (hr : Vh.rowAt H0 r = some row) (hc : row.cells = ints .i64 l) :
    ACalls Try.prog 56 [mkS κ r 0 n] H0 (List.range H0.length) fun v H => v = .int .i64 (cE l n) ∧ H = H0 := by
  refine ACalls.body Try.func56 ent_rClicks ir_rClicks_ok rs_rClicks_ok Try.ntmps56 (by simp) rfl ?_
  unfold ir_rClicks
  have e0 : s0 [mkS κ r 0 n] 0 = mkS κ r 0 n := rfl
  have hn' : (n : Int) ≤ 9223372036854775807 := by unfold maxLen at hn; omega
  by_cases hb : n ≤ 4096
  · simp (disch := omega) only [sN, ↓reduceIte, Nat.reduceEqDiff, Nat.reduceAdd, Nat.reduceMul, Nat.reduceSub, reduceCtorEq, e_none, e_some, e_bindS, e0, k_len hk]
    refine ⟨fun t s H => ∃ i : Nat, t = n - i ∧ i ≤ n ∧ (∀ j, j < i → okC (cb l j) (ck l j) = true) ∧ H = H0 ∧ s 0 = mkS κ r 0 n ∧ s 3 = .int .i64 (i : Int), n, ⟨0, rfl, by omega, fun j h => by omega, rfl, ?_, ?_⟩, ?_⟩
    · simp only [e_upd, e_putS, e_putN, e_t, e_c, Nat.reduceEqDiff, ↓reduceIte, reduceCtorEq, Nat.reduceAdd, e0]
    · simp only [e_upd, e_putS, e_putN, e_t, e_c, Nat.reduceEqDiff, ↓reduceIte, reduceCtorEq, Nat.reduceAdd]; rfl
    rintro t s H ⟨i, rfl, hi, hS, hHH, h0, h3⟩
    rw [hHH]
    by_cases hlt : i < n
    · have hcb := pair_b hl hlt
      have hck := pair_k hl hlt
      rw [← hc] at hcb hck
      obtain ⟨x, hx⟩ : ∃ x, x = cb l i := ⟨_, rfl⟩
      obtain ⟨y, hy⟩ : ∃ y, y = ck l i := ⟨_, rfl⟩
      rw [← hx] at hcb; rw [← hy] at hck
      have ia : aindexAddr 2 (mkS κ r 0 n) (.int .i64 (i : Int)) = some (.ptr r (i * 2)) := by
        rw [k_idx2 hk (Nat.le_refl n) (by omega) (by omega)]; simp
      have bad : okC (cb l i) (ck l i) = false → (0 : Int) = 0 → cE l n = 2 := fun h _ => by
        unfold cE; rw [if_pos hb, okCs_false hlt h]; rfl
      by_cases h1 : 0 ≤ x
      · by_cases h2 : x ≤ 1
        · by_cases h4 : 0 ≤ y
          · by_cases h5 : y ≤ 3
            · simp (disch := omega) only [sN, ↓reduceIte, Nat.reduceEqDiff, Nat.reduceAdd, Nat.reduceMul, Nat.reduceSub, reduceCtorEq, e_none, e_some, e_bindS, h0, h3, k_len hk, ia, p_fieldAddr, Nat.add_zero, hr, hcb, hck, Option.bind_some, Option.map_some]
              refine loop_keep (m := n - (i + 1)) (by omega) ⟨i + 1, rfl, by omega, fun j hj => ?_, rfl, ?_, ?_⟩
              · rcases Nat.lt_or_ge j i with h | h
                · exact hS j h
                · obtain rfl : j = i := by omega
                  rw [← hx, ← hy]; unfold okC; exact decide_eq_true ⟨by omega, h4, h5⟩
              · simp only [e_upd, e_putS, e_putN, e_t, e_c, Nat.reduceEqDiff, ↓reduceIte, reduceCtorEq, Nat.reduceAdd, h0]
              · simp only [e_upd, e_putS, e_putN, e_t, e_c, Nat.reduceEqDiff, ↓reduceIte, reduceCtorEq, Nat.reduceAdd]; first | done | rfl
            · simp (disch := omega) only [sN, ↓reduceIte, Nat.reduceEqDiff, Nat.reduceAdd, Nat.reduceMul, Nat.reduceSub, reduceCtorEq, e_none, e_some, e_bindS, h0, h3, k_len hk, ia, p_fieldAddr, Nat.add_zero, hr, hcb, hck, Option.bind_some, Option.map_some]
              refine ret_keep (by simp) ⟨?_, rfl⟩
              rw [bad (by rw [← hx, ← hy]; unfold okC; exact decide_eq_false (by omega)) rfl]
              simp only [e_upd, e_putS, e_putN, e_t, e_c, Nat.reduceEqDiff, ↓reduceIte, reduceCtorEq, Nat.reduceAdd]
          · simp (disch := omega) only [sN, ↓reduceIte, Nat.reduceEqDiff, Nat.reduceAdd, Nat.reduceMul, Nat.reduceSub, reduceCtorEq, e_none, e_some, e_bindS, h0, h3, k_len hk, ia, p_fieldAddr, Nat.add_zero, hr, hcb, hck, Option.bind_some, Option.map_some]
            refine ret_keep (by simp) ⟨?_, rfl⟩
            rw [bad (by rw [← hx, ← hy]; unfold okC; exact decide_eq_false (by omega)) rfl]
            simp only [e_upd, e_putS, e_putN, e_t, e_c, Nat.reduceEqDiff, ↓reduceIte, reduceCtorEq, Nat.reduceAdd]
        · simp (disch := omega) only [sN, ↓reduceIte, Nat.reduceEqDiff, Nat.reduceAdd, Nat.reduceMul, Nat.reduceSub, reduceCtorEq, e_none, e_some, e_bindS, h0, h3, k_len hk, ia, p_fieldAddr, Nat.add_zero, hr, hcb, hck, Option.bind_some, Option.map_some]
          refine ret_keep (by simp) ⟨?_, rfl⟩
          rw [bad (by rw [← hx, ← hy]; unfold okC; exact decide_eq_false (by omega)) rfl]
          simp only [e_upd, e_putS, e_putN, e_t, e_c, Nat.reduceEqDiff, ↓reduceIte, reduceCtorEq, Nat.reduceAdd]
      · simp (disch := omega) only [sN, ↓reduceIte, Nat.reduceEqDiff, Nat.reduceAdd, Nat.reduceMul, Nat.reduceSub, reduceCtorEq, e_none, e_some, e_bindS, h0, h3, k_len hk, ia, p_fieldAddr, Nat.add_zero, hr, hcb, hck, Option.bind_some, Option.map_some]
        refine ret_keep (by simp) ⟨?_, rfl⟩
        rw [bad (by rw [← hx, ← hy]; unfold okC; exact decide_eq_false (by omega)) rfl]
        simp only [e_upd, e_putS, e_putN, e_t, e_c, Nat.reduceEqDiff, ↓reduceIte, reduceCtorEq, Nat.reduceAdd]
    · obtain rfl : i = n := by omega
      have hce : cE l i = 0 := by unfold cE; rw [if_pos hb, okCs_true hS]; rfl
      rw [hce]
      simp (disch := omega) only [sN, ↓reduceIte, Nat.reduceEqDiff, Nat.reduceAdd, Nat.reduceMul, Nat.reduceSub, reduceCtorEq, e_none, e_some, e_bindS, h0, h3, k_len hk]
      refine ret_keep (by simp) ⟨?_, rfl⟩
      simp only [e_upd, e_putS, e_putN, e_t, e_c, Nat.reduceEqDiff, ↓reduceIte, reduceCtorEq, Nat.reduceAdd]
  · have hce : cE l n = 5 := by simp [cE, hb]
    rw [hce]
    simp (disch := omega) only [sN, ↓reduceIte, Nat.reduceEqDiff, Nat.reduceAdd, Nat.reduceMul, Nat.reduceSub, reduceCtorEq, e_none, e_some, e_bindS, e0, k_len hk]
    refine ret_keep (by simp) ⟨?_, rfl⟩
    simp only [e_upd, e_putS, e_putN, e_t, e_c, Nat.reduceEqDiff, ↓reduceIte, reduceCtorEq, Nat.reduceAdd]
end Go.Proofs.Ythbhljolpnbdlaa


/- Contracts of stage 4: the reference's Announce. -/
-- NEWSET
namespace Go.Proofs.Ythbhljolpnbdlaa
open Go Go.Vh

end Go.Proofs.Ythbhljolpnbdlaa


/- Contracts of stage 4: two lists compared. -/
-- NEWSET
namespace Go.Proofs.Ythbhljolpnbdlaa
open Go Go.Vh

theorem p_eqPair {s : St} {x y : Opd} {a b : Int} (h1 : evo s x = .agg [.int .i64 a, .int .i64 b]) (h2 : evo s y = .agg [.int .i64 a, .int .i64 b]) : ipure (.eqAgg true [(0, 0), (1, 0)] x y) s = some (.bool false) := by
  simp [ipure, h1, h2, aggEq, cellEq]

end Go.Proofs.Ythbhljolpnbdlaa

