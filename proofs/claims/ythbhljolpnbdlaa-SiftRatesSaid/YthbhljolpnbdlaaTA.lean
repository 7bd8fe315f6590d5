/- Contracts of stage 4: clicks are checked. -/
import Derived.Test.YthbhljolpnbdlaaVX
import Derived.Test.YthbhljolpnbdlaaSIr2
import Derived.Test.YthbhljolpnbdlaaVb
set_option linter.unusedSimpArgs false
set_option linter.unusedVariables false
-- NEWSET
namespace Go.Proofs.Ythbhljolpnbdlaa
open Go Go.Vh

end Go.Proofs.Ythbhljolpnbdlaa


/- Contracts of stage 4: errors. -/
-- NEWSET
namespace Go.Proofs.Ythbhljolpnbdlaa
open Go Go.Vh

theorem checkCount_calls (H0 : AHeap) (n m : Int) : ACalls Try.prog 51 [.int .i64 n, .int .i64 m] H0 (List.range H0.length) fun v H => v = .int .i64 (if 0 ≤ n ∧ n ≤ m then 0 else 3) ∧ H = H0 := by
  refine ACalls.body Try.func51 ent_checkCount ir_checkCount_ok rs_checkCount_ok Try.ntmps51 (by simp) rfl ?_
  unfold ir_checkCount
  have e0 : s0 [.int .i64 n, .int .i64 m] 0 = .int .i64 n := rfl
  have e1 : s0 [.int .i64 n, .int .i64 m] 1 = .int .i64 m := rfl
  by_cases h0 : 0 ≤ n
  · by_cases h1 : n ≤ m
    · simp (disch := omega) only [sN, ↓reduceIte, Nat.reduceEqDiff, Nat.reduceAdd, Nat.reduceMul, Nat.reduceSub, reduceCtorEq, e_none, e_some, e_bindS, e0, e1]
      refine ret_keep (by simp) ⟨?_, rfl⟩
      simp only [e_upd, e_putS, e_putN, e_t, e_c, Nat.reduceEqDiff, ↓reduceIte, reduceCtorEq, Nat.reduceAdd]; try simp [h0, h1]
    · simp (disch := omega) only [sN, ↓reduceIte, Nat.reduceEqDiff, Nat.reduceAdd, Nat.reduceMul, Nat.reduceSub, reduceCtorEq, e_none, e_some, e_bindS, e0, e1]
      refine ret_keep (by simp) ⟨?_, rfl⟩
      simp only [e_upd, e_putS, e_putN, e_t, e_c, Nat.reduceEqDiff, ↓reduceIte, reduceCtorEq, Nat.reduceAdd]; try simp [h0, h1]
  · simp (disch := omega) only [sN, ↓reduceIte, Nat.reduceEqDiff, Nat.reduceAdd, Nat.reduceMul, Nat.reduceSub, reduceCtorEq, e_none, e_some, e_bindS, e0, e1]
    refine ret_keep (by simp) ⟨?_, rfl⟩
    simp only [e_upd, e_putS, e_putN, e_t, e_c, Nat.reduceEqDiff, ↓reduceIte, reduceCtorEq, Nat.reduceAdd]; try simp [h0]

/-- the first that is not 0 -/
def fst0 : List Int → Int
  | [] => 0
  | e :: l => if e = 0 then fst0 l else e
theorem fst0_drop {l : List Int} {i : Nat} (h : ∀ j, j < i → l.getD j 0 = 0) : fst0 l = fst0 (l.drop i) := by
  induction i generalizing l with
  | zero => rfl
  | succ i ih =>
    cases l with
    | nil => rfl
    | cons e l =>
      have := h 0 (by omega)
      simp at this; subst this
      simp only [fst0, if_true, List.drop_succ_cons]
      exact ih fun j hj => by simpa using h (j + 1) (by omega)

theorem firstError_calls (H0 : AHeap) {n r : Nat} {l : List Int} {row : ARow} (hl : l.length = n) (hn : n ≤ 100) (hr : Vh.rowAt H0 r = some row) (hc : row.cells = ints .i64 l) :
    ACalls Try.prog 44 [.slice r 0 n n] H0 (List.range H0.length) fun v H => v = .int .i64 (fst0 l) ∧ Base H0 H := by
  refine ACalls.body Try.func44 ent_firstError ir_firstError_ok rs_firstError_ok Try.ntmps44 (by simp) rfl ?_
  unfold ir_firstError
  have e0 : s0 [.slice r 0 n n] 0 = .slice r 0 n n := rfl
  simp (disch := omega) only [sN, ↓reduceIte, Nat.reduceEqDiff, Nat.reduceAdd, Nat.reduceMul, Nat.reduceSub, reduceCtorEq, e_none, e_some, e_bindS, e0]
  refine ⟨fun t s H => ∃ i : Nat, t = n - i ∧ i ≤ n ∧ (∀ j, j < i → l.getD j 0 = 0) ∧ Base H0 H ∧ s 5 = .slice r 0 n n ∧ s 6 = .int .i64 n ∧ s 7 = .int .i64 (i : Int), n, ⟨0, rfl, by omega, fun j h => by omega, Base.refl, ?_, ?_, ?_⟩, ?_⟩
  · simp only [e_upd, e_putS, e_putN, e_t, e_c, Nat.reduceEqDiff, ↓reduceIte, reduceCtorEq, Nat.reduceAdd]
  · simp only [e_upd, e_putS, e_putN, e_t, e_c, Nat.reduceEqDiff, ↓reduceIte, reduceCtorEq, Nat.reduceAdd]
  · simp only [e_upd, e_putS, e_putN, e_t, e_c, Nat.reduceEqDiff, ↓reduceIte, reduceCtorEq, Nat.reduceAdd]; rfl
  rintro t s H ⟨i, rfl, hi, hS, hB, h5, h6, h7⟩
  by_cases hlt : i < n
  · have hrH := hB.row hr
    have ia : aindexAddr 1 (.slice r 0 n n) (.int .i64 (i : Int)) = some (.ptr r i) := by
      rw [a_idx (by omega) (by omega)]; simp
    have hce : row.cells[i]? = some (.int .i64 (l.getD i 0)) := by rw [hc]; exact ints_get (by omega)
    have hd : fst0 l = fst0 (l.drop i) := fst0_drop hS
    rw [List.drop_eq_getElem_cons (by omega)] at hd
    have hg : l.getD i 0 = l[i]'(by omega) := by simp [List.getD_eq_getElem?_getD, show i < l.length by omega]
    simp only [fst0, ← hg] at hd
    obtain ⟨e, he⟩ : ∃ e, e = l.getD i 0 := ⟨_, rfl⟩
    rw [← he] at hce hd
    by_cases hz : e = 0
    · simp (disch := omega) only [sN, ↓reduceIte, Nat.reduceEqDiff, Nat.reduceAdd, Nat.reduceMul, Nat.reduceSub, reduceCtorEq, e_none, e_some, e_bindS, h5, h6, h7, ia, hrH, hce]
      refine loop_keep (m := n - (i + 1)) (by omega) ⟨i + 1, rfl, by omega, fun j hj => ?_, hB, ?_, ?_, ?_⟩
      · rcases Nat.lt_or_ge j i with h | h
        · exact hS j h
        · obtain rfl : j = i := by omega
          rw [← he]; exact hz
      · simp only [e_upd, e_putS, e_putN, e_t, e_c, Nat.reduceEqDiff, ↓reduceIte, reduceCtorEq, Nat.reduceAdd, h5]
      · simp only [e_upd, e_putS, e_putN, e_t, e_c, Nat.reduceEqDiff, ↓reduceIte, reduceCtorEq, Nat.reduceAdd, h6]
      · simp only [e_upd, e_putS, e_putN, e_t, e_c, Nat.reduceEqDiff, ↓reduceIte, reduceCtorEq, Nat.reduceAdd]; first | done | rfl
    · simp (disch := omega) only [sN, ↓reduceIte, Nat.reduceEqDiff, Nat.reduceAdd, Nat.reduceMul, Nat.reduceSub, reduceCtorEq, e_none, e_some, e_bindS, h5, h6, h7, ia, hrH, hce]
      refine ret_keep hB.1 ⟨?_, hB⟩
      rw [if_neg hz] at hd
      simp only [e_upd, e_putS, e_putN, e_t, e_c, Nat.reduceEqDiff, ↓reduceIte, reduceCtorEq, Nat.reduceAdd, hd]
  · obtain rfl : i = n := by omega
    simp (disch := omega) only [sN, ↓reduceIte, Nat.reduceEqDiff, Nat.reduceAdd, Nat.reduceMul, Nat.reduceSub, reduceCtorEq, e_none, e_some, e_bindS, h5, h6, h7]
    refine ret_keep hB.1 ⟨?_, hB⟩
    have hd : fst0 l = fst0 (l.drop i) := fst0_drop hS
    rw [List.drop_eq_nil_of_le (by omega)] at hd
    simp only [e_upd, e_putS, e_putN, e_t, e_c, Nat.reduceEqDiff, ↓reduceIte, reduceCtorEq, Nat.reduceAdd, hd, fst0]

end Go.Proofs.Ythbhljolpnbdlaa

