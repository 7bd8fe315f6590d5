/- Contracts of stage 4: the reference's Announce; two lists compared. -/
import Derived.Test.YthbhljolpnbdlaaVX
import Derived.Test.YthbhljolpnbdlaaT3
set_option linter.unusedSimpArgs false
set_option linter.unusedVariables false
-- NEWSET
namespace Go.Proofs.Ythbhljolpnbdlaa
open Go Go.Vh

theorem rWithin_calls (H0 : AHeap) (n m : Int) : ACalls Try.prog 53 [.int .i64 n, .int .i64 m] H0 (List.range H0.length) fun v H => v = .bool (decide (0 ≤ n ∧ n ≤ m)) ∧ H = H0 := by
  refine ACalls.body Try.func53 ent_rWithin ir_rWithin_ok rs_rWithin_ok Try.ntmps53 (by simp) rfl ?_
  unfold ir_rWithin
  have e0 : s0 [.int .i64 n, .int .i64 m] 0 = .int .i64 n := rfl
  have e1 : s0 [.int .i64 n, .int .i64 m] 1 = .int .i64 m := rfl
  by_cases h0 : 0 ≤ n
  · by_cases h1 : n ≤ m
    · simp (disch := omega) only [sN, ↓reduceIte, Nat.reduceEqDiff, Nat.reduceAdd, Nat.reduceMul, Nat.reduceSub, reduceCtorEq, e_none, e_some, e_bindS, e0, e1]
      refine ret_keep (by simp) ⟨?_, rfl⟩
      simp only [e_upd, e_putS, e_putN, e_t, e_c, Nat.reduceEqDiff, ↓reduceIte, reduceCtorEq, Nat.reduceAdd]; try simp [h0, h1]
    · simp (disch := omega) only [sN, ↓reduceIte, Nat.reduceEqDiff, Nat.reduceAdd, Nat.reduceMul, Nat.reduceSub, reduceCtorEq, e_none, e_some, e_bindS, e0, e1]
      refine ret_keep (by simp) ⟨?_, rfl⟩
      simp only [e_upd, e_putS, e_putN, e_t, e_c, Nat.reduceEqDiff, ↓reduceIte, reduceCtorEq, Nat.reduceAdd]; try simp [h0, h1]
  · simp (disch := omega) only [sN, ↓reduceIte, Nat.reduceEqDiff, Nat.reduceAdd, Nat.reduceMul, Nat.reduceSub, reduceCtorEq, e_none, e_some, e_bindS, e0, e1]
    refine ret_keep (by simp) ⟨?_, rfl⟩
    simp only [e_upd, e_putS, e_putN, e_t, e_c, Nat.reduceEqDiff, ↓reduceIte, reduceCtorEq, Nat.reduceAdd]; try simp [h0]

end Go.Proofs.Ythbhljolpnbdlaa


/- Contracts of stage 4: the reference's Announce. -/
-- NEWSET
namespace Go.Proofs.Ythbhljolpnbdlaa
open Go Go.Vh

end Go.Proofs.Ythbhljolpnbdlaa


/- Contracts of stage 4: two lists compared. -/
-- NEWSET
namespace Go.Proofs.Ythbhljolpnbdlaa
open Go Go.Vh

end Go.Proofs.Ythbhljolpnbdlaa

