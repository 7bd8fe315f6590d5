/- Contracts of stage 4: slots are checked. -/
import Derived.Test.YthbhljolpnbdlaaVX
import Derived.Test.YthbhljolpnbdlaaSIr4
import Derived.Test.YthbhljolpnbdlaaTF
set_option linter.unusedSimpArgs false
set_option linter.unusedVariables false
-- NEWSET
namespace Go.Proofs.Ythbhljolpnbdlaa
open Go Go.Vh

theorem slotId_calls (H0 : AHeap) (x : Int) : ACalls Try.prog 95 [.int .i64 x] H0 (List.range H0.length) fun v H => v = .int .i64 x ∧ H = H0 := by
  refine ACalls.body Try.func95 ent_slotId ir_slotId_ok rs_slotId_ok Try.ntmps95 (by simp) rfl ?_
  unfold ir_slotId
  have e0 : s0 [.int .i64 x] 0 = .int .i64 x := rfl
  simp (disch := omega) only [sN, ↓reduceIte, Nat.reduceEqDiff, Nat.reduceAdd, Nat.reduceMul, Nat.reduceSub, reduceCtorEq, e_none, e_some, e_bindS, e0]
  refine ret_keep (by simp) ⟨?_, rfl⟩
  simp only [e_upd, e_putS, e_putN, e_t, e_c, Nat.reduceEqDiff, ↓reduceIte, reduceCtorEq, Nat.reduceAdd]

theorem checkS_calls (H0 : AHeap) {a b x : Int} {c p q : Nat} {rc rp rq : ARow} (hc : Vh.rowAt H0 c = some rc) (cc : rc.cells = [.func 93 [.ptr p 0, .ptr q 0]]) (hp : Vh.rowAt H0 p = some rp) (cp : rp.cells = [.int .i64 a]) (hq : Vh.rowAt H0 q = some rq) (cq : rq.cells = [.int .i64 b]) :
    ACalls Try.prog 96 [.int .i64 x, .ptr c 0] H0 (List.range H0.length) fun v H => v = .int .i64 (if a ≤ x ∧ x < b then 0 else 3) ∧ H = H0 := by
  refine ACalls.body Try.func96 ent_checkS ir_checkS_ok rs_checkS_ok Try.ntmps96 (by simp) rfl ?_
  unfold ir_checkS
  have e0 : s0 [.int .i64 x, .ptr c 0] 0 = .int .i64 x := rfl
  have e1 : s0 [.int .i64 x, .ptr c 0] 1 = .ptr c 0 := rfl
  simp (disch := omega) only [sN, ↓reduceIte, Nat.reduceEqDiff, Nat.reduceAdd, Nat.reduceMul, Nat.reduceSub, reduceCtorEq, e_none, e_some, e_bindS, e0, e1, hc, cc, Option.bind_some, List.getElem?_cons_zero, List.map_cons, List.map_nil, List.cons_append, List.nil_append]
  refine ⟨_, (inRange_calls H0 hp cp hq cq).g.mono ?_⟩
  rintro v H ⟨rfl, hH⟩
  rw [hH]
  by_cases h1 : a ≤ x ∧ x < b
  · rw [decide_eq_true h1, if_pos h1]
    simp (disch := omega) only [sN, ↓reduceIte, Nat.reduceEqDiff, Nat.reduceAdd, Nat.reduceMul, Nat.reduceSub, reduceCtorEq, e_none, e_some, e_bindS, e0, e1]
    refine ret_keep (by simp) ⟨?_, rfl⟩
    simp only [e_upd, e_putS, e_putN, e_t, e_c, Nat.reduceEqDiff, ↓reduceIte, reduceCtorEq, Nat.reduceAdd]
  · rw [decide_eq_false h1, if_neg h1]
    simp (disch := omega) only [sN, ↓reduceIte, Nat.reduceEqDiff, Nat.reduceAdd, Nat.reduceMul, Nat.reduceSub, reduceCtorEq, e_none, e_some, e_bindS, e0, e1]
    refine ret_keep (by simp) ⟨?_, rfl⟩
    simp only [e_upd, e_putS, e_putN, e_t, e_c, Nat.reduceEqDiff, ↓reduceIte, reduceCtorEq, Nat.reduceAdd]

/-- the error of the i-th slot -/
def gA (l : List Int) (a b : Int) (i : Nat) : Int := if a ≤ l.getD i 0 ∧ l.getD i 0 < b then (if 0 < i ∧ l.getD (i - 1) 0 ≥ l.getD i 0 then 6 else 0) else 3
def gE (l : List Int) (a b : Int) (n : Nat) : Int := fst0 ((List.range n).map (gA l a b))
theorem gE_getD {l : List Int} {a b : Int} {n j : Nat} (h : j < n) : ((List.range n).map (gA l a b)).getD j 0 = gA l a b j := by
  simp [List.getD_eq_getElem?_getD, h]
theorem gE_hit {l : List Int} {a b : Int} {n i : Nat} (hi : i < n) (h : ∀ j, j < i → gA l a b j = 0) (he : gA l a b i ≠ 0) : gE l a b n = gA l a b i := by
  unfold gE
  rw [fst0_drop (i := i) fun j hj => by rw [gE_getD (by omega)]; exact h j hj]
  rw [List.drop_eq_getElem_cons (by simpa using hi)]
  simp [fst0, he]
theorem gE_zero {l : List Int} {a b : Int} {n : Nat} (h : ∀ j, j < n → gA l a b j = 0) : gE l a b n = 0 := by
  unfold gE
  rw [fst0_drop (i := n) fun j hj => by rw [gE_getD (by omega)]; exact h j hj]
  rw [List.drop_eq_nil_of_le (by simp)]
  rfl
theorem gE_ok {l : List Int} {a b : Int} {n i : Nat} (h : gE l a b n = 0) (hi : i < n) : a ≤ l.getD i 0 ∧ l.getD i 0 < b := by
  have key : ∀ j, j ≤ n → ∀ k, k < j → gA l a b k = 0 := by
    intro j
    induction j with
    | zero => intro _ k hk; omega
    | succ j ih =>
      intro hj k hk
      rcases Nat.lt_or_ge k j with h1 | h1
      · exact ih (by omega) k h1
      · obtain rfl : k = j := by omega
        by_cases hz : gA l a b k = 0
        · exact hz
        · rw [gE_hit (by omega) (ih (by omega)) hz] at h
          exact h
  have hf := key n (Nat.le_refl n) i hi
  unfold gA at hf
  split at hf
  · assumption
  · cases hf

set_option maxHeartbeats 2000000 in
theorem firstFaultI_calls (H0 : AHeap) {κ : SK} {n r c p q : Nat} {l : List Int} {row rc rp rq : ARow} {a b : Int} (hk : okS κ n) (hl : l.length = n) (hn : n ≤ maxLen) (hr : Vh.rowAt H0 r = some row) (hcl : row.cells = ints .i64 l)
    (hc : Vh.rowAt H0 c = some rc) (cc : rc.cells = [.func 93 [.ptr p 0, .ptr q 0]]) (hp : Vh.rowAt H0 p = some rp) (cp : rp.cells = [.int .i64 a]) (hq : Vh.rowAt H0 q = some rq) (cq : rq.cells = [.int .i64 b]) :
    ACalls Try.prog 94 [mkS κ r 0 n, .func 95 [], .func 96 [.ptr c 0]] H0 (List.range H0.length) fun v H => v = .int .i64 (gE l a b n) ∧ H = H0 := by
  refine ACalls.body Try.func94 ent_firstFaultI ir_firstFaultI_ok rs_firstFaultI_ok Try.ntmps94 (by simp) rfl ?_
  unfold ir_firstFaultI
  have e0 : s0 [mkS κ r 0 n, .func 95 [], .func 96 [.ptr c 0]] 0 = mkS κ r 0 n := rfl
  have e1 : s0 [mkS κ r 0 n, .func 95 [], .func 96 [.ptr c 0]] 1 = .func 95 [] := rfl
  have e2 : s0 [mkS κ r 0 n, .func 95 [], .func 96 [.ptr c 0]] 2 = .func 96 [.ptr c 0] := rfl
  have hn' : (n : Int) ≤ 9223372036854775807 := by unfold maxLen at hn; omega
  simp (disch := omega) only [sN, ↓reduceIte, Nat.reduceEqDiff, Nat.reduceAdd, Nat.reduceMul, Nat.reduceSub, reduceCtorEq, e_none, e_some, e_bindS, e0, e1, e2, k_len hk]
  refine ⟨fun t s H => ∃ i : Nat, t = n - i ∧ i ≤ n ∧ (∀ j, j < i → gA l a b j = 0) ∧ H = H0 ∧ s 0 = mkS κ r 0 n ∧ s 1 = .func 95 [] ∧ s 2 = .func 96 [.ptr c 0] ∧ s 10 = mkS κ r 0 n ∧ s 11 = .int .i64 n ∧ s 12 = .int .i64 (i : Int), n, ⟨0, rfl, by omega, fun j h => by omega, rfl, ?_, ?_, ?_, ?_, ?_, ?_⟩, ?_⟩
  · simp only [e_upd, e_putS, e_putN, e_t, e_c, Nat.reduceEqDiff, ↓reduceIte, reduceCtorEq, Nat.reduceAdd, e0]
  · simp only [e_upd, e_putS, e_putN, e_t, e_c, Nat.reduceEqDiff, ↓reduceIte, reduceCtorEq, Nat.reduceAdd, e1]
  · simp only [e_upd, e_putS, e_putN, e_t, e_c, Nat.reduceEqDiff, ↓reduceIte, reduceCtorEq, Nat.reduceAdd, e2]
  · simp only [e_upd, e_putS, e_putN, e_t, e_c, Nat.reduceEqDiff, ↓reduceIte, reduceCtorEq, Nat.reduceAdd]
  · simp only [e_upd, e_putS, e_putN, e_t, e_c, Nat.reduceEqDiff, ↓reduceIte, reduceCtorEq, Nat.reduceAdd]
  · simp only [e_upd, e_putS, e_putN, e_t, e_c, Nat.reduceEqDiff, ↓reduceIte, reduceCtorEq, Nat.reduceAdd]; rfl
  rintro t s H ⟨i, rfl, hi, hS, hHH, h0, h1, h2, h10, h11, h12⟩
  rw [hHH]
  by_cases hlt : i < n
  · have hg : row.cells[i]? = some (.int .i64 (l.getD i 0)) := by rw [hcl]; exact ints_get (by omega)
    have ia : aindexAddr 1 (mkS κ r 0 n) (.int .i64 (i : Int)) = some (.ptr r i) := by
      rw [k_idx hk (Nat.le_refl n) (by omega) (by omega)]; simp
    obtain ⟨x, hx⟩ : ∃ x, x = l.getD i 0 := ⟨_, rfl⟩
    have hga : gA l a b i = if a ≤ x ∧ x < b then (if 0 < i ∧ l.getD (i - 1) 0 ≥ x then 6 else 0) else 3 := by unfold gA; rw [← hx]
    rw [← hx] at hg
    have done : gA l a b i = 0 → ∀ j, j < i + 1 → gA l a b j = 0 := fun h j hj => by
      rcases Nat.lt_or_ge j i with h' | h'
      · exact hS j h'
      · obtain rfl : j = i := by omega
        exact h
    simp (disch := omega) only [sN, ↓reduceIte, Nat.reduceEqDiff, Nat.reduceAdd, Nat.reduceMul, Nat.reduceSub, reduceCtorEq, e_none, e_some, e_bindS, h0, h1, h2, h10, h11, h12, ia, hr, hg, Option.bind_some, List.map_cons, List.map_nil, List.cons_append, List.nil_append]
    refine ⟨_, (checkS_calls H0 hc cc hp cp hq cq).g.mono ?_⟩
    rintro v H2 ⟨rfl, hH⟩
    rw [hH]
    by_cases hz : a ≤ x ∧ x < b
    · rw [if_pos hz] at hga ⊢
      by_cases hi0 : i = 0
      · rw [if_neg (by omega)] at hga
        simp (disch := omega) only [sN, ↓reduceIte, Nat.reduceEqDiff, Nat.reduceAdd, Nat.reduceMul, Nat.reduceSub, reduceCtorEq, e_none, e_some, e_bindS, h0, h1, h2, h10, h11, h12]
        refine loop_keep (m := n - (i + 1)) (by omega) ⟨i + 1, rfl, by omega, done hga, rfl, ?_, ?_, ?_, ?_, ?_, ?_⟩
        · simp only [e_upd, e_putS, e_putN, e_t, e_c, Nat.reduceEqDiff, ↓reduceIte, reduceCtorEq, Nat.reduceAdd, h0]
        · simp only [e_upd, e_putS, e_putN, e_t, e_c, Nat.reduceEqDiff, ↓reduceIte, reduceCtorEq, Nat.reduceAdd, h1]
        · simp only [e_upd, e_putS, e_putN, e_t, e_c, Nat.reduceEqDiff, ↓reduceIte, reduceCtorEq, Nat.reduceAdd, h2]
        · simp only [e_upd, e_putS, e_putN, e_t, e_c, Nat.reduceEqDiff, ↓reduceIte, reduceCtorEq, Nat.reduceAdd, h10]
        · simp only [e_upd, e_putS, e_putN, e_t, e_c, Nat.reduceEqDiff, ↓reduceIte, reduceCtorEq, Nat.reduceAdd, h11]
        · simp only [e_upd, e_putS, e_putN, e_t, e_c, Nat.reduceEqDiff, ↓reduceIte, reduceCtorEq, Nat.reduceAdd]; first | done | rfl
      · have hgz : row.cells[i - 1]? = some (.int .i64 (l.getD (i - 1) 0)) := by rw [hcl]; exact ints_get (by omega)
        obtain ⟨z, hzz⟩ : ∃ z, z = l.getD (i - 1) 0 := ⟨_, rfl⟩
        rw [← hzz] at hgz hga
        have ib : aindexAddr 1 (mkS κ r 0 n) (.int .i64 ((i : Int) - 1)) = some (.ptr r (i - 1)) := by
          rw [show (i : Int) - 1 = ((i - 1 : Nat) : Int) by omega, k_idx hk (Nat.le_refl n) (by omega) (by omega)]; simp
        simp (disch := omega) only [sN, ↓reduceIte, Nat.reduceEqDiff, Nat.reduceAdd, Nat.reduceMul, Nat.reduceSub, reduceCtorEq, e_none, e_some, e_bindS, h0, h1, h2, h10, h11, h12, ib, hr, hgz, Option.bind_some, List.map_cons, List.map_nil]
        refine ⟨_, (slotId_calls H0 z).g.mono ?_⟩
        rintro v H3 ⟨rfl, hH⟩
        rw [hH]
        simp (disch := omega) only [sN, ↓reduceIte, Nat.reduceEqDiff, Nat.reduceAdd, Nat.reduceMul, Nat.reduceSub, reduceCtorEq, e_none, e_some, e_bindS, h0, h1, h2, h10, h11, h12, List.map_cons, List.map_nil]
        refine ⟨_, (slotId_calls H0 x).g.mono ?_⟩
        rintro v H3 ⟨rfl, hH⟩
        rw [hH]
        by_cases hge : z ≥ x
        · rw [if_pos ⟨by omega, hge⟩] at hga
          simp (disch := omega) only [sN, ↓reduceIte, Nat.reduceEqDiff, Nat.reduceAdd, Nat.reduceMul, Nat.reduceSub, reduceCtorEq, e_none, e_some, e_bindS, h0, h1, h2, h10, h11, h12]
          refine ret_keep (by simp) ⟨?_, rfl⟩
          rw [gE_hit hlt hS (by rw [hga]; decide), hga]
          simp only [e_upd, e_putS, e_putN, e_t, e_c, Nat.reduceEqDiff, ↓reduceIte, reduceCtorEq, Nat.reduceAdd]
        · rw [if_neg (fun h => hge h.2)] at hga
          simp (disch := omega) only [sN, ↓reduceIte, Nat.reduceEqDiff, Nat.reduceAdd, Nat.reduceMul, Nat.reduceSub, reduceCtorEq, e_none, e_some, e_bindS, h0, h1, h2, h10, h11, h12]
          refine loop_keep (m := n - (i + 1)) (by omega) ⟨i + 1, rfl, by omega, done hga, rfl, ?_, ?_, ?_, ?_, ?_, ?_⟩
          · simp only [e_upd, e_putS, e_putN, e_t, e_c, Nat.reduceEqDiff, ↓reduceIte, reduceCtorEq, Nat.reduceAdd, h0]
          · simp only [e_upd, e_putS, e_putN, e_t, e_c, Nat.reduceEqDiff, ↓reduceIte, reduceCtorEq, Nat.reduceAdd, h1]
          · simp only [e_upd, e_putS, e_putN, e_t, e_c, Nat.reduceEqDiff, ↓reduceIte, reduceCtorEq, Nat.reduceAdd, h2]
          · simp only [e_upd, e_putS, e_putN, e_t, e_c, Nat.reduceEqDiff, ↓reduceIte, reduceCtorEq, Nat.reduceAdd, h10]
          · simp only [e_upd, e_putS, e_putN, e_t, e_c, Nat.reduceEqDiff, ↓reduceIte, reduceCtorEq, Nat.reduceAdd, h11]
          · simp only [e_upd, e_putS, e_putN, e_t, e_c, Nat.reduceEqDiff, ↓reduceIte, reduceCtorEq, Nat.reduceAdd]; first | done | rfl
    · rw [if_neg hz] at hga ⊢
      simp (disch := omega) only [sN, ↓reduceIte, Nat.reduceEqDiff, Nat.reduceAdd, Nat.reduceMul, Nat.reduceSub, reduceCtorEq, e_none, e_some, e_bindS, h0, h1, h2, h10, h11, h12]
      refine ret_keep (by simp) ⟨?_, rfl⟩
      rw [gE_hit hlt hS (by rw [hga]; decide), hga]
      simp only [e_upd, e_putS, e_putN, e_t, e_c, Nat.reduceEqDiff, ↓reduceIte, reduceCtorEq, Nat.reduceAdd]
  · obtain rfl : i = n := by omega
    rw [gE_zero hS]
    simp (disch := omega) only [sN, ↓reduceIte, Nat.reduceEqDiff, Nat.reduceAdd, Nat.reduceMul, Nat.reduceSub, reduceCtorEq, e_none, e_some, e_bindS, h10, h11, h12]
    refine ret_keep (by simp) ⟨?_, rfl⟩
    simp only [e_upd, e_putS, e_putN, e_t, e_c, Nat.reduceEqDiff, ↓reduceIte, reduceCtorEq, Nat.reduceAdd]

theorem checkSlots_calls (H0 : AHeap) {κ : SK} {n r p q : Nat} {l : List Int} {row rp rq : ARow} {a b : Int} (hk : okS κ n) (hl : l.length = n) (hn : n ≤ maxLen) (hr : Vh.rowAt H0 r = some row) (hcl : row.cells = ints .i64 l)
    (hp : Vh.rowAt H0 p = some rp) (cp : rp.cells = [.int .i64 a]) (hq : Vh.rowAt H0 q = some rq) (cq : rq.cells = [.int .i64 b]) :
    ACalls Try.prog 61 [mkS κ r 0 n, .func 93 [.ptr p 0, .ptr q 0]] H0 (List.range H0.length) fun v H => v = .int .i64 (gE l a b n) ∧ Base H0 H := by
  refine ACalls.body Try.func61 ent_checkSlots ir_checkSlots_ok rs_checkSlots_ok Try.ntmps61 (by simp) rfl ?_
  unfold ir_checkSlots
  have e0 : s0 [mkS κ r 0 n, .func 93 [.ptr p 0, .ptr q 0]] 0 = mkS κ r 0 n := rfl
  have e1 : s0 [mkS κ r 0 n, .func 93 [.ptr p 0, .ptr q 0]] 1 = .func 93 [.ptr p 0, .ptr q 0] := rfl
  simp (disch := omega) only [sN, ↓reduceIte, Nat.reduceEqDiff, Nat.reduceAdd, Nat.reduceMul, Nat.reduceSub, reduceCtorEq, e_none, e_some, e_bindS, e0, e1]
  rw [x_boxF (v := .func 93 [.ptr p 0, .ptr q 0]) (by simp only [e_upd, e_putS, e_putN, e_t, e_c, Nat.reduceEqDiff, ↓reduceIte, reduceCtorEq, Nat.reduceAdd, e1]) rfl]
  have hB : Base H0 (H0 ++ [rw_ [.func 93 [.ptr p 0, .ptr q 0]]]) := Base.one
  simp (disch := omega) only [sN, ↓reduceIte, Nat.reduceEqDiff, Nat.reduceAdd, Nat.reduceMul, Nat.reduceSub, reduceCtorEq, e_none, e_some, e_bindS, e0, e1, p_makeFunc, List.map_cons, List.map_nil]
  refine ⟨_, (firstFaultI_calls (H0 ++ [rw_ [.func 93 [.ptr p 0, .ptr q 0]]]) (c := H0.length) (rc := ⟨true, false, [.func 93 [.ptr p 0, .ptr q 0]]⟩) hk hl hn (hB.row hr) hcl (by simp [Vh.rowAt, rw_]) rfl (hB.row hp) cp (hB.row hq) cq).g.mono ?_⟩
  rintro v H ⟨rfl, hH⟩
  rw [hH]
  simp (disch := omega) only [sN, ↓reduceIte, Nat.reduceEqDiff, Nat.reduceAdd, Nat.reduceMul, Nat.reduceSub, reduceCtorEq, e_none, e_some, e_bindS]
  refine ret_keep hB.1 ?_
  simp only [rs_checkSlots, q_tmp, q_then, e_upd, e_putS, e_putN, e_t, e_c, Nat.reduceEqDiff, ↓reduceIte, reduceCtorEq, Nat.reduceAdd]
  exact ⟨trivial, hB⟩
end Go.Proofs.Ythbhljolpnbdlaa


/- Contracts of stage 4: the slots of a class. -/
-- NEWSET
namespace Go.Proofs.Ythbhljolpnbdlaa
open Go Go.Vh

theorem slotsOf_calls (H0 : AHeap) {κ : SK} {m r : Nat} (hk : okS κ m) : ACalls Try.prog 62 [mkS κ r 0 m] H0 (List.range H0.length) fun v H => v = .func 93 [.ptr H0.length 0, .ptr (H0.length + 1) 0] ∧ H = H0 ++ [rw_ [.int .i64 0]] ++ [rw_ [.int .i64 (m : Int)]] := by
  refine ACalls.body Try.func62 ent_slotsOf ir_slotsOf_ok rs_slotsOf_ok Try.ntmps62 (by simp) rfl ?_
  unfold ir_slotsOf
  have e0 : s0 [mkS κ r 0 m] 0 = mkS κ r 0 m := rfl
  simp (disch := omega) only [sN, ↓reduceIte, Nat.reduceEqDiff, Nat.reduceAdd, Nat.reduceMul, Nat.reduceSub, reduceCtorEq, e_none, e_some, e_bindS, e0, k_len hk, List.map_cons, List.map_nil]
  refine ⟨_, (between_calls H0 0 m).g.mono ?_⟩
  rintro v H ⟨rfl, rfl⟩
  simp (disch := omega) only [sN, ↓reduceIte, Nat.reduceEqDiff, Nat.reduceAdd, Nat.reduceMul, Nat.reduceSub, reduceCtorEq, e_none, e_some, e_bindS]
  refine ret_keep (by simp) ?_
  simp only [rs_slotsOf, q_tmp, q_then, e_upd, e_putS, e_putN, e_t, e_c, Nat.reduceEqDiff, ↓reduceIte, reduceCtorEq, Nat.reduceAdd]
  exact ⟨trivial, trivial⟩

set_option maxHeartbeats 2000000 in
theorem rSlots_calls (H0 : AHeap) {κ : SK} {n r : Nat} {l : List Int} {row : ARow} {a t b : Int} (hk : okS κ n) (hl : l.length = n) (hn : n ≤ maxLen) (hr : Vh.rowAt H0 r = some row) (hc : row.cells = ints .i64 l) (ht : b = t + 1) :
    ACalls Try.prog 63 [mkS κ r 0 n, .int .i64 a, .int .i64 t] H0 (List.range H0.length) fun v H => v = .int .i64 (gE l a b n) ∧ H = H0 := by
  refine ACalls.body Try.func63 ent_rSlots ir_rSlots_ok rs_rSlots_ok Try.ntmps63 (by simp) rfl ?_
  unfold ir_rSlots
  have e0 : s0 [mkS κ r 0 n, .int .i64 a, .int .i64 t] 0 = mkS κ r 0 n := rfl
  have e1 : s0 [mkS κ r 0 n, .int .i64 a, .int .i64 t] 1 = .int .i64 a := rfl
  have e2 : s0 [mkS κ r 0 n, .int .i64 a, .int .i64 t] 2 = .int .i64 t := rfl
  have hn' : (n : Int) ≤ 9223372036854775807 := by unfold maxLen at hn; omega
  simp (disch := omega) only [sN, ↓reduceIte, Nat.reduceEqDiff, Nat.reduceAdd, Nat.reduceMul, Nat.reduceSub, reduceCtorEq, e_none, e_some, e_bindS, e0, e1, e2, k_len hk]
  refine ⟨fun m s H => ∃ i : Nat, m = n - i ∧ i ≤ n ∧ (∀ j, j < i → gA l a b j = 0) ∧ H = H0 ∧ s 0 = mkS κ r 0 n ∧ s 1 = .int .i64 a ∧ s 2 = .int .i64 t ∧ s 7 = .int .i64 (i : Int), n, ⟨0, rfl, by omega, fun j h => by omega, rfl, ?_, ?_, ?_, ?_⟩, ?_⟩
  · simp only [e_upd, e_putS, e_putN, e_t, e_c, Nat.reduceEqDiff, ↓reduceIte, reduceCtorEq, Nat.reduceAdd, e0]
  · simp only [e_upd, e_putS, e_putN, e_t, e_c, Nat.reduceEqDiff, ↓reduceIte, reduceCtorEq, Nat.reduceAdd, e1]
  · simp only [e_upd, e_putS, e_putN, e_t, e_c, Nat.reduceEqDiff, ↓reduceIte, reduceCtorEq, Nat.reduceAdd, e2]
  · simp only [e_upd, e_putS, e_putN, e_t, e_c, Nat.reduceEqDiff, ↓reduceIte, reduceCtorEq, Nat.reduceAdd]; rfl
  rintro m s H ⟨i, rfl, hi, hS, hHH, h0, h1, h2, h7⟩
  rw [hHH]
  by_cases hlt : i < n
  · have hg : row.cells[i]? = some (.int .i64 (l.getD i 0)) := by rw [hc]; exact ints_get (by omega)
    have ia : aindexAddr 1 (mkS κ r 0 n) (.int .i64 (i : Int)) = some (.ptr r i) := by
      rw [k_idx hk (Nat.le_refl n) (by omega) (by omega)]; simp
    obtain ⟨x, hx⟩ : ∃ x, x = l.getD i 0 := ⟨_, rfl⟩
    have hga : gA l a b i = if a ≤ x ∧ x < b then (if 0 < i ∧ l.getD (i - 1) 0 ≥ x then 6 else 0) else 3 := by unfold gA; rw [← hx]
    rw [← hx] at hg
    have done : gA l a b i = 0 → ∀ j, j < i + 1 → gA l a b j = 0 := fun h j hj => by
      rcases Nat.lt_or_ge j i with h' | h'
      · exact hS j h'
      · obtain rfl : j = i := by omega
        exact h
    by_cases q0 : a ≤ x
    · by_cases q1 : x ≤ t
      · rw [if_pos (by omega)] at hga
        by_cases hi0 : i = 0
        · rw [if_neg (by omega)] at hga
          simp (disch := omega) only [sN, ↓reduceIte, Nat.reduceEqDiff, Nat.reduceAdd, Nat.reduceMul, Nat.reduceSub, reduceCtorEq, e_none, e_some, e_bindS, h0, h1, h2, h7, k_len hk, ia, hr, hg, Option.bind_some]
          refine loop_keep (m := n - (i + 1)) (by omega) ⟨i + 1, rfl, by omega, done hga, rfl, ?_, ?_, ?_, ?_⟩
          · simp only [e_upd, e_putS, e_putN, e_t, e_c, Nat.reduceEqDiff, ↓reduceIte, reduceCtorEq, Nat.reduceAdd, h0]
          · simp only [e_upd, e_putS, e_putN, e_t, e_c, Nat.reduceEqDiff, ↓reduceIte, reduceCtorEq, Nat.reduceAdd, h1]
          · simp only [e_upd, e_putS, e_putN, e_t, e_c, Nat.reduceEqDiff, ↓reduceIte, reduceCtorEq, Nat.reduceAdd, h2]
          · simp only [e_upd, e_putS, e_putN, e_t, e_c, Nat.reduceEqDiff, ↓reduceIte, reduceCtorEq, Nat.reduceAdd]; first | done | rfl
        · have hgz : row.cells[i - 1]? = some (.int .i64 (l.getD (i - 1) 0)) := by rw [hc]; exact ints_get (by omega)
          obtain ⟨z, hzz⟩ : ∃ z, z = l.getD (i - 1) 0 := ⟨_, rfl⟩
          rw [← hzz] at hgz hga
          have ib : aindexAddr 1 (mkS κ r 0 n) (.int .i64 ((i : Int) - 1)) = some (.ptr r (i - 1)) := by
            rw [show (i : Int) - 1 = ((i - 1 : Nat) : Int) by omega, k_idx hk (Nat.le_refl n) (by omega) (by omega)]; simp
          by_cases hge : z ≥ x
          · rw [if_pos ⟨by omega, hge⟩] at hga
            simp (disch := omega) only [sN, ↓reduceIte, Nat.reduceEqDiff, Nat.reduceAdd, Nat.reduceMul, Nat.reduceSub, reduceCtorEq, e_none, e_some, e_bindS, h0, h1, h2, h7, k_len hk, ia, ib, hr, hg, hgz, Option.bind_some]
            refine ret_keep (by simp) ⟨?_, rfl⟩
            rw [gE_hit hlt hS (by rw [hga]; decide), hga]
            simp only [e_upd, e_putS, e_putN, e_t, e_c, Nat.reduceEqDiff, ↓reduceIte, reduceCtorEq, Nat.reduceAdd]
          · rw [if_neg (fun h => hge h.2)] at hga
            simp (disch := omega) only [sN, ↓reduceIte, Nat.reduceEqDiff, Nat.reduceAdd, Nat.reduceMul, Nat.reduceSub, reduceCtorEq, e_none, e_some, e_bindS, h0, h1, h2, h7, k_len hk, ia, ib, hr, hg, hgz, Option.bind_some]
            refine loop_keep (m := n - (i + 1)) (by omega) ⟨i + 1, rfl, by omega, done hga, rfl, ?_, ?_, ?_, ?_⟩
            · simp only [e_upd, e_putS, e_putN, e_t, e_c, Nat.reduceEqDiff, ↓reduceIte, reduceCtorEq, Nat.reduceAdd, h0]
            · simp only [e_upd, e_putS, e_putN, e_t, e_c, Nat.reduceEqDiff, ↓reduceIte, reduceCtorEq, Nat.reduceAdd, h1]
            · simp only [e_upd, e_putS, e_putN, e_t, e_c, Nat.reduceEqDiff, ↓reduceIte, reduceCtorEq, Nat.reduceAdd, h2]
            · simp only [e_upd, e_putS, e_putN, e_t, e_c, Nat.reduceEqDiff, ↓reduceIte, reduceCtorEq, Nat.reduceAdd]; first | done | rfl
      · rw [if_neg (by omega)] at hga
        simp (disch := omega) only [sN, ↓reduceIte, Nat.reduceEqDiff, Nat.reduceAdd, Nat.reduceMul, Nat.reduceSub, reduceCtorEq, e_none, e_some, e_bindS, h0, h1, h2, h7, k_len hk, ia, hr, hg, Option.bind_some]
        refine ret_keep (by simp) ⟨?_, rfl⟩
        rw [gE_hit hlt hS (by rw [hga]; decide), hga]
        simp only [e_upd, e_putS, e_putN, e_t, e_c, Nat.reduceEqDiff, ↓reduceIte, reduceCtorEq, Nat.reduceAdd]
    · rw [if_neg (by omega)] at hga
      simp (disch := omega) only [sN, ↓reduceIte, Nat.reduceEqDiff, Nat.reduceAdd, Nat.reduceMul, Nat.reduceSub, reduceCtorEq, e_none, e_some, e_bindS, h0, h1, h2, h7, k_len hk, ia, hr, hg, Option.bind_some]
      refine ret_keep (by simp) ⟨?_, rfl⟩
      rw [gE_hit hlt hS (by rw [hga]; decide), hga]
      simp only [e_upd, e_putS, e_putN, e_t, e_c, Nat.reduceEqDiff, ↓reduceIte, reduceCtorEq, Nat.reduceAdd]
  · obtain rfl : i = n := by omega
    rw [gE_zero hS]
    simp (disch := omega) only [sN, ↓reduceIte, Nat.reduceEqDiff, Nat.reduceAdd, Nat.reduceMul, Nat.reduceSub, reduceCtorEq, e_none, e_some, e_bindS, h0, h1, h2, h7, k_len hk]
    refine ret_keep (by simp) ⟨?_, rfl⟩
    simp only [e_upd, e_putS, e_putN, e_t, e_c, Nat.reduceEqDiff, ↓reduceIte, reduceCtorEq, Nat.reduceAdd]

end Go.Proofs.Ythbhljolpnbdlaa

