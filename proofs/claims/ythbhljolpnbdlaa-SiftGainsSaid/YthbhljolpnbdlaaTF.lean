/- Contracts of stage 4: lists of announcements are checked. -/
import Derived.Test.YthbhljolpnbdlaaVX
import Derived.Test.YthbhljolpnbdlaaTD
set_option linter.unusedSimpArgs false
set_option linter.unusedVariables false
-- NEWSET
namespace Go.Proofs.Ythbhljolpnbdlaa
open Go Go.Vh

section
variable {K : St → AHeap → Prop} {d : Option Nat} {s : St} {H : AHeap} {x y : Int}
end

end Go.Proofs.Ythbhljolpnbdlaa


/- Contracts of stage 4: the reference's checks of pulses and announcements; two lists of numbers compared. -/
-- NEWSET
namespace Go.Proofs.Ythbhljolpnbdlaa
open Go Go.Vh

set_option maxHeartbeats 2000000 in
theorem rPulses_calls (H0 : AHeap) {κ : SK} {n r : Nat} {L : List Pul} {row : ARow} (hk : okS κ n) (hl : L.length = n) (hn : n ≤ maxLen) (hr : Vh.rowAt H0 r = some row) (hc : row.cells = pcells L) :
    ACalls Try.prog 59 [mkS κ r 0 n] H0 (List.range H0.length) fun v H => v = .int .i64 (pE L) ∧ H = H0 := by
  refine ACalls.body Try.func59 ent_rPulses ir_rPulses_ok rs_rPulses_ok Try.ntmps59 (by simp) rfl ?_
  unfold ir_rPulses
  have e0 : s0 [mkS κ r 0 n] 0 = mkS κ r 0 n := rfl
  have hn' : (n : Int) ≤ 9223372036854775807 := by unfold maxLen at hn; omega
  by_cases hb : n ≤ 4096
  · simp (disch := omega) only [sN, ↓reduceIte, Nat.reduceEqDiff, Nat.reduceAdd, Nat.reduceMul, Nat.reduceSub, reduceCtorEq, e_none, e_some, e_bindS, e0, k_len hk]
    refine ⟨fun t s H => ∃ i : Nat, t = n - i ∧ i ≤ n ∧ (∀ j, j < i → okP (L.getD j default) = true) ∧ H = H0 ∧ s 0 = mkS κ r 0 n ∧ s 3 = .int .i64 (i : Int), n, ⟨0, rfl, by omega, fun j h => by omega, rfl, ?_, ?_⟩, ?_⟩
    · simp only [e_upd, e_putS, e_putN, e_t, e_c, Nat.reduceEqDiff, ↓reduceIte, reduceCtorEq, Nat.reduceAdd, e0]
    · simp only [e_upd, e_putS, e_putN, e_t, e_c, Nat.reduceEqDiff, ↓reduceIte, reduceCtorEq, Nat.reduceAdd]; rfl
    rintro t s H ⟨i, rfl, hi, hS, hHH, h0, h3⟩
    rw [hHH]
    by_cases hlt : i < n
    · have hil : i < L.length := by omega
      have g0 := pulse_get (L := L) (i := i) (j := 0) hil (by omega)
      have g2 := pulse_get (L := L) (i := i) (j := 2) hil (by omega)
      have g3 := pulse_get (L := L) (i := i) (j := 3) hil (by omega)
      obtain ⟨p, hp⟩ : ∃ p, p = L.getD i default := ⟨_, rfl⟩
      have hp' := hp
      rw [← hp, ← hc] at g0 g2 g3
      obtain ⟨x, bit, c, k, sn⟩ := p
      have g0' : row.cells[i * 5]? = some (.int .i64 x) := g0
      have g2' : row.cells[i * 5 + 2]? = some (.int .i64 c) := g2
      have g3' : row.cells[i * 5 + 3]? = some (.int .i64 k) := g3
      have ia : aindexAddr 5 (mkS κ r 0 n) (.int .i64 (i : Int)) = some (.ptr r (i * 5)) := by
        rw [k_idx5 hk (Nat.le_refl n) (by omega) (by omega)]; simp
      have bad : okP ⟨x, bit, c, k, sn⟩ = false → pE L = 2 := fun h => by
        unfold pE; rw [if_pos (by omega), okPs_false hil (by rw [← hp']; exact h)]; rfl
      by_cases q0 : 0 ≤ x
      · by_cases q1 : x ≤ 1
        · by_cases q2 : 0 ≤ c
          · by_cases q3 : c ≤ 2
            · by_cases q4 : 0 ≤ k
              · by_cases q5 : k ≤ 3
                · simp (disch := omega) only [sN, ↓reduceIte, Nat.reduceEqDiff, Nat.reduceAdd, Nat.reduceMul, Nat.reduceSub, reduceCtorEq, e_none, e_some, e_bindS, h0, h3, k_len hk, ia, p_fieldAddr, Nat.add_zero, hr, g0', g2', g3', Option.bind_some, Option.map_some]
                  refine loop_keep (m := n - (i + 1)) (by omega) ⟨i + 1, rfl, by omega, fun j hj => ?_, rfl, ?_, ?_⟩
                  · rcases Nat.lt_or_ge j i with h | h
                    · exact hS j h
                    · obtain rfl : j = i := by omega
                      rw [← hp']; unfold okP; exact decide_eq_true (by dsimp only; omega)
                  · simp only [e_upd, e_putS, e_putN, e_t, e_c, Nat.reduceEqDiff, ↓reduceIte, reduceCtorEq, Nat.reduceAdd, h0]
                  · simp only [e_upd, e_putS, e_putN, e_t, e_c, Nat.reduceEqDiff, ↓reduceIte, reduceCtorEq, Nat.reduceAdd]; first | done | rfl
                · simp (disch := omega) only [sN, ↓reduceIte, Nat.reduceEqDiff, Nat.reduceAdd, Nat.reduceMul, Nat.reduceSub, reduceCtorEq, e_none, e_some, e_bindS, h0, h3, k_len hk, ia, p_fieldAddr, Nat.add_zero, hr, g0', g2', g3', Option.bind_some, Option.map_some]
                  refine ret_keep (by simp) ⟨?_, rfl⟩
                  rw [bad (by unfold okP; exact decide_eq_false (by dsimp only; omega))]
                  simp only [e_upd, e_putS, e_putN, e_t, e_c, Nat.reduceEqDiff, ↓reduceIte, reduceCtorEq, Nat.reduceAdd]
              · simp (disch := omega) only [sN, ↓reduceIte, Nat.reduceEqDiff, Nat.reduceAdd, Nat.reduceMul, Nat.reduceSub, reduceCtorEq, e_none, e_some, e_bindS, h0, h3, k_len hk, ia, p_fieldAddr, Nat.add_zero, hr, g0', g2', g3', Option.bind_some, Option.map_some]
                refine ret_keep (by simp) ⟨?_, rfl⟩
                rw [bad (by unfold okP; exact decide_eq_false (by dsimp only; omega))]
                simp only [e_upd, e_putS, e_putN, e_t, e_c, Nat.reduceEqDiff, ↓reduceIte, reduceCtorEq, Nat.reduceAdd]
            · simp (disch := omega) only [sN, ↓reduceIte, Nat.reduceEqDiff, Nat.reduceAdd, Nat.reduceMul, Nat.reduceSub, reduceCtorEq, e_none, e_some, e_bindS, h0, h3, k_len hk, ia, p_fieldAddr, Nat.add_zero, hr, g0', g2', g3', Option.bind_some, Option.map_some]
              refine ret_keep (by simp) ⟨?_, rfl⟩
              rw [bad (by unfold okP; exact decide_eq_false (by dsimp only; omega))]
              simp only [e_upd, e_putS, e_putN, e_t, e_c, Nat.reduceEqDiff, ↓reduceIte, reduceCtorEq, Nat.reduceAdd]
          · simp (disch := omega) only [sN, ↓reduceIte, Nat.reduceEqDiff, Nat.reduceAdd, Nat.reduceMul, Nat.reduceSub, reduceCtorEq, e_none, e_some, e_bindS, h0, h3, k_len hk, ia, p_fieldAddr, Nat.add_zero, hr, g0', g2', g3', Option.bind_some, Option.map_some]
            refine ret_keep (by simp) ⟨?_, rfl⟩
            rw [bad (by unfold okP; exact decide_eq_false (by dsimp only; omega))]
            simp only [e_upd, e_putS, e_putN, e_t, e_c, Nat.reduceEqDiff, ↓reduceIte, reduceCtorEq, Nat.reduceAdd]
        · simp (disch := omega) only [sN, ↓reduceIte, Nat.reduceEqDiff, Nat.reduceAdd, Nat.reduceMul, Nat.reduceSub, reduceCtorEq, e_none, e_some, e_bindS, h0, h3, k_len hk, ia, p_fieldAddr, Nat.add_zero, hr, g0', g2', g3', Option.bind_some, Option.map_some]
          refine ret_keep (by simp) ⟨?_, rfl⟩
          rw [bad (by unfold okP; exact decide_eq_false (by dsimp only; omega))]
          simp only [e_upd, e_putS, e_putN, e_t, e_c, Nat.reduceEqDiff, ↓reduceIte, reduceCtorEq, Nat.reduceAdd]
      · simp (disch := omega) only [sN, ↓reduceIte, Nat.reduceEqDiff, Nat.reduceAdd, Nat.reduceMul, Nat.reduceSub, reduceCtorEq, e_none, e_some, e_bindS, h0, h3, k_len hk, ia, p_fieldAddr, Nat.add_zero, hr, g0', g2', g3', Option.bind_some, Option.map_some]
        refine ret_keep (by simp) ⟨?_, rfl⟩
        rw [bad (by unfold okP; exact decide_eq_false (by dsimp only; omega))]
        simp only [e_upd, e_putS, e_putN, e_t, e_c, Nat.reduceEqDiff, ↓reduceIte, reduceCtorEq, Nat.reduceAdd]
    · obtain rfl : i = n := by omega
      have hce : pE L = 0 := by unfold pE; rw [if_pos (by omega), okPs_true (fun j hj => hS j (by omega))]; rfl
      rw [hce]
      simp (disch := omega) only [sN, ↓reduceIte, Nat.reduceEqDiff, Nat.reduceAdd, Nat.reduceMul, Nat.reduceSub, reduceCtorEq, e_none, e_some, e_bindS, h0, h3, k_len hk]
      refine ret_keep (by simp) ⟨?_, rfl⟩
      simp only [e_upd, e_putS, e_putN, e_t, e_c, Nat.reduceEqDiff, ↓reduceIte, reduceCtorEq, Nat.reduceAdd]
  · have hce : pE L = 5 := by simp [pE, hl, hb]
    rw [hce]
    simp (disch := omega) only [sN, ↓reduceIte, Nat.reduceEqDiff, Nat.reduceAdd, Nat.reduceMul, Nat.reduceSub, reduceCtorEq, e_none, e_some, e_bindS, e0, k_len hk]
    refine ret_keep (by simp) ⟨?_, rfl⟩
    simp only [e_upd, e_putS, e_putN, e_t, e_c, Nat.reduceEqDiff, ↓reduceIte, reduceCtorEq, Nat.reduceAdd]

/-- the numbers that were appended -/
def Gs (H0 H : AHeap) (v : AV) (xs : List Int) : Prop := (xs = [] ∧ v = .nilslice) ∨ ∃ q, 0 < xs.length ∧ v = .sliceU q 0 xs.length 1 ∧ H0.length ≤ q ∧ Vh.rowAt H q = some ⟨true, true, ints .i64 xs⟩
theorem Gs.base {H0 H H' : AHeap} {v : AV} {l : List Int} (h : Gs H0 H v l) (hb : Base H H') : Gs H0 H' v l := by
  rcases h with h | ⟨q, h1, h2, h3, h4⟩
  · exact .inl h
  · exact .inr ⟨q, h1, h2, h3, hb.row h4⟩
end Go.Proofs.Ythbhljolpnbdlaa

