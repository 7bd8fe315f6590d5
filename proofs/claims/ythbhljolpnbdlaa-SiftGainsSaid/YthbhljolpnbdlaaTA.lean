/- Contracts of stage 4: clicks are checked. -/
import Derived.Test.YthbhljolpnbdlaaVX
import Derived.Test.YthbhljolpnbdlaaSIr2
import Derived.Test.YthbhljolpnbdlaaVb
set_option linter.unusedSimpArgs false
set_option linter.unusedVariables false
-- NEWSET
namespace Go.Proofs.Ythbhljolpnbdlaa
open Go Go.Vh

/-- a click is one -/
def okC (b k : Int) : Bool := decide ((b = 0 ∨ b = 1) ∧ 0 ≤ k ∧ k ≤ 3)
def okCs (l : List Int) (n : Nat) : Bool := (List.range n).all fun i => okC (cb l i) (ck l i)
def cE (l : List Int) (n : Nat) : Int := if n ≤ 4096 then (if okCs l n then 0 else 2) else 5
theorem okCs_true {l : List Int} {n : Nat} (h : ∀ i, i < n → okC (cb l i) (ck l i) = true) : okCs l n = true := by
  simp only [okCs, List.all_eq_true, List.mem_range]; exact h
theorem okCs_false {l : List Int} {n i : Nat} (hi : i < n) (h : okC (cb l i) (ck l i) = false) : okCs l n = false := by
  simp only [okCs, List.all_eq_false, List.mem_range]; exact ⟨i, hi, by simp [h]⟩

theorem isBasis_calls (H0 : AHeap) (b : Int) : ACalls Try.prog 127 [.int .i64 b] H0 (List.range H0.length) fun v H => v = .bool (decide (b = 0 ∨ b = 1)) ∧ H = H0 := by
  refine ACalls.body Try.func127 ent_isBasis ir_isBasis_ok rs_isBasis_ok Try.ntmps127 (by simp) rfl ?_
  unfold ir_isBasis
  have e0 : s0 [.int .i64 b] 0 = .int .i64 b := rfl
  by_cases h0 : b = 0
  · subst h0
    simp (disch := omega) only [sN, ↓reduceIte, Nat.reduceEqDiff, Nat.reduceAdd, Nat.reduceMul, Nat.reduceSub, reduceCtorEq, e_none, e_some, e_bindS, e0]
    refine ret_keep (by simp) ⟨?_, rfl⟩
    simp only [e_upd, e_putS, e_putN, e_t, e_c, Nat.reduceEqDiff, ↓reduceIte, reduceCtorEq, Nat.reduceAdd]; rfl
  · by_cases h1 : b = 1
    · subst h1
      simp (disch := omega) only [sN, ↓reduceIte, Nat.reduceEqDiff, Nat.reduceAdd, Nat.reduceMul, Nat.reduceSub, reduceCtorEq, e_none, e_some, e_bindS, e0]
      refine ret_keep (by simp) ⟨?_, rfl⟩
      simp only [e_upd, e_putS, e_putN, e_t, e_c, Nat.reduceEqDiff, ↓reduceIte, reduceCtorEq, Nat.reduceAdd]; rfl
    · simp (disch := omega) only [sN, ↓reduceIte, Nat.reduceEqDiff, Nat.reduceAdd, Nat.reduceMul, Nat.reduceSub, reduceCtorEq, e_none, e_some, e_bindS, e0]
      refine ret_keep (by simp) ⟨?_, rfl⟩
      simp only [e_upd, e_putS, e_putN, e_t, e_c, Nat.reduceEqDiff, ↓reduceIte, reduceCtorEq, Nat.reduceAdd]; try simp [h0, h1]

theorem isClick_calls (H0 : AHeap) (b k : Int) : ACalls Try.prog 87 [.agg [.int .i64 b, .int .i64 k]] H0 (List.range H0.length) fun v H => v = .bool (okC b k) ∧ Base H0 H := by
  refine ACalls.body Try.func87 ent_isClick ir_isClick_ok rs_isClick_ok Try.ntmps87 (by simp) rfl ?_
  unfold ir_isClick
  have e0 : s0 [.agg [.int .i64 b, .int .i64 k]] 0 = .agg [.int .i64 b, .int .i64 k] := rfl
  simp (disch := omega) only [sN, ↓reduceIte, Nat.reduceEqDiff, Nat.reduceAdd, Nat.reduceMul, Nat.reduceSub, reduceCtorEq, e_none, e_some, e_bindS, e0]
  rw [x_boxN (l := [.int .i64 b, .int .i64 k]) (by simp only [e_upd, e_putS, e_putN, e_t, e_c, Nat.reduceEqDiff, ↓reduceIte, reduceCtorEq, Nat.reduceAdd, e0]) (by rfl)]
  have hr : Vh.rowAt (H0 ++ [rw_ [.int .i64 b, .int .i64 k]]) H0.length = some ⟨true, false, [.int .i64 b, .int .i64 k]⟩ := by simp [Vh.rowAt, rw_]
  simp (disch := omega) only [sN, ↓reduceIte, Nat.reduceEqDiff, Nat.reduceAdd, Nat.reduceMul, Nat.reduceSub, reduceCtorEq, e_none, e_some, e_bindS, p_fieldAddr, Nat.zero_add, hr, Option.bind_some, Option.map_some, List.getElem?_cons_zero, List.getElem?_cons_succ, List.map_cons, List.map_nil]
  refine ⟨_, (isBasis_calls _ b).g.mono ?_⟩
  rintro v H ⟨rfl, rfl⟩
  by_cases hb : b = 0 ∨ b = 1
  · by_cases h0 : 0 ≤ k
    · by_cases h3 : k ≤ 3
      · simp (disch := omega) only [sN, ↓reduceIte, Nat.reduceEqDiff, Nat.reduceAdd, Nat.reduceMul, Nat.reduceSub, reduceCtorEq, e_none, e_some, e_bindS, p_fieldAddr, Nat.zero_add, hr, Option.bind_some, Option.map_some, List.getElem?_cons_zero, List.getElem?_cons_succ, hb, decide_true]
        refine ret_keep (by simp) ⟨?_, Base.one⟩
        simp only [e_upd, e_putS, e_putN, e_t, e_c, Nat.reduceEqDiff, ↓reduceIte, reduceCtorEq, Nat.reduceAdd]
        simp [okC, hb, h0, h3]
      · simp (disch := omega) only [sN, ↓reduceIte, Nat.reduceEqDiff, Nat.reduceAdd, Nat.reduceMul, Nat.reduceSub, reduceCtorEq, e_none, e_some, e_bindS, p_fieldAddr, Nat.zero_add, hr, Option.bind_some, Option.map_some, List.getElem?_cons_zero, List.getElem?_cons_succ, hb, decide_true]
        refine ret_keep (by simp) ⟨?_, Base.one⟩
        simp only [e_upd, e_putS, e_putN, e_t, e_c, Nat.reduceEqDiff, ↓reduceIte, reduceCtorEq, Nat.reduceAdd]
        simp [okC, hb, h0, h3]
    · simp (disch := omega) only [sN, ↓reduceIte, Nat.reduceEqDiff, Nat.reduceAdd, Nat.reduceMul, Nat.reduceSub, reduceCtorEq, e_none, e_some, e_bindS, p_fieldAddr, Nat.zero_add, hr, Option.bind_some, Option.map_some, List.getElem?_cons_zero, List.getElem?_cons_succ, hb, decide_true]
      refine ret_keep (by simp) ⟨?_, Base.one⟩
      simp only [e_upd, e_putS, e_putN, e_t, e_c, Nat.reduceEqDiff, ↓reduceIte, reduceCtorEq, Nat.reduceAdd]
      simp [okC, hb, h0]
  · simp (disch := omega) only [sN, ↓reduceIte, Nat.reduceEqDiff, Nat.reduceAdd, Nat.reduceMul, Nat.reduceSub, reduceCtorEq, e_none, e_some, e_bindS, p_fieldAddr, Nat.zero_add, hr, Option.bind_some, Option.map_some, List.getElem?_cons_zero, List.getElem?_cons_succ, hb, decide_false]
    refine ret_keep (by simp) ⟨?_, Base.one⟩
    simp only [e_upd, e_putS, e_putN, e_t, e_c, Nat.reduceEqDiff, ↓reduceIte, reduceCtorEq, Nat.reduceAdd]
    simp [okC, hb]

set_option maxHeartbeats 1000000 in
theorem allC_calls (H0 : AHeap) {κ : SK} {n r : Nat} {l : List Int} {row : ARow} (hk : okS κ n) (hl : l.length = n * 2) (hn : n ≤ 4096) (hr : Vh.rowAt H0 r = some row) (hc : row.cells = ints .i64 l) :
    ACalls Try.prog 86 [mkS κ r 0 n, .func 87 []] H0 (List.range H0.length) fun v H => v = .bool (okCs l n) ∧ Base H0 H := by
  refine ACalls.body Try.func86 ent_allC ir_allC_ok rs_allC_ok Try.ntmps86 (by simp) rfl ?_
  unfold ir_allC
  have e0 : s0 [mkS κ r 0 n, .func 87 []] 0 = mkS κ r 0 n := rfl
  have e1 : s0 [mkS κ r 0 n, .func 87 []] 1 = .func 87 [] := rfl
  have hz : [AV.int .i64 0, AV.int .i64 0].all AV.cell = true := rfl
  simp (disch := omega) only [sN, ↓reduceIte, Nat.reduceEqDiff, Nat.reduceAdd, Nat.reduceMul, Nat.reduceSub, reduceCtorEq, e_none, e_some, e_bindS, e0, e1, k_len hk]
  refine ⟨fun t s H => ∃ i : Nat, t = n - i ∧ i ≤ n ∧ (∀ j, j < i → okC (cb l j) (ck l j) = true) ∧ Base H0 H ∧ s 1 = .func 87 [] ∧ s 7 = mkS κ r 0 n ∧ s 8 = .int .i64 n ∧ s 9 = .int .i64 (i : Int), n, ⟨0, rfl, by omega, fun j h => by omega, Base.refl, ?_, ?_, ?_, ?_⟩, ?_⟩
  · simp only [e_upd, e_putS, e_putN, e_t, e_c, Nat.reduceEqDiff, ↓reduceIte, reduceCtorEq, Nat.reduceAdd, e1]
  · simp only [e_upd, e_putS, e_putN, e_t, e_c, Nat.reduceEqDiff, ↓reduceIte, reduceCtorEq, Nat.reduceAdd]
  · simp only [e_upd, e_putS, e_putN, e_t, e_c, Nat.reduceEqDiff, ↓reduceIte, reduceCtorEq, Nat.reduceAdd]
  · simp only [e_upd, e_putS, e_putN, e_t, e_c, Nat.reduceEqDiff, ↓reduceIte, reduceCtorEq, Nat.reduceAdd]; rfl
  rintro t s H ⟨i, rfl, hi, hS, hB, h1, h7, h8, h9⟩
  by_cases hlt : i < n
  · obtain ⟨c1, c2⟩ := pair_at hl hlt
    have hrH := hB.row hr
    have ia : aindexAddr 2 (mkS κ r 0 n) (.int .i64 (i : Int)) = some (.ptr r (i * 2)) := by
      rw [k_idx2 hk (Nat.le_refl n) (by omega) (by omega)]; simp
    simp (disch := omega) only [sN, ↓reduceIte, Nat.reduceEqDiff, Nat.reduceAdd, Nat.reduceMul, Nat.reduceSub, reduceCtorEq, e_none, e_some, e_bindS, h1, h7, h8, h9, ia]
    rw [x_loadNO (n := 2) (r := r) (off := i * 2) (l := [.int .i64 (cb l i), .int .i64 (ck l i)]) (by simp only [e_upd, e_putS, e_putN, e_t, e_c, Nat.reduceEqDiff, ↓reduceIte, reduceCtorEq, Nat.reduceAdd]) hrH (by rw [hc]; exact c1) (by rw [hc]; exact c2)]
    simp (disch := omega) only [sN, ↓reduceIte, Nat.reduceEqDiff, Nat.reduceAdd, Nat.reduceMul, Nat.reduceSub, reduceCtorEq, e_none, e_some, e_bindS, h1, h7, h8, h9]
    rw [x_allocA hz]
    simp (disch := omega) only [sN, ↓reduceIte, Nat.reduceEqDiff, Nat.reduceAdd, Nat.reduceMul, Nat.reduceSub, reduceCtorEq, e_none, e_some, e_bindS, h1, h7, h8, h9]
    rw [x_storeNA (n := 2) (r := H.length) (l := [.int .i64 0, .int .i64 0]) (l' := [.int .i64 (cb l i), .int .i64 (ck l i)]) (by simp only [e_upd, e_putS, e_putN, e_t, e_c, Nat.reduceEqDiff, ↓reduceIte, reduceCtorEq, Nat.reduceAdd]) (by simp only [e_upd, e_putS, e_putN, e_t, e_c, Nat.reduceEqDiff, ↓reduceIte, reduceCtorEq, Nat.reduceAdd]) (by rfl) (by simp [Vh.rowAt, rw_]) rfl rfl]
    rw [set_last]
    have hb : Vh.rowAt (H ++ [rw_ [.int .i64 (cb l i), .int .i64 (ck l i)]]) H.length = some ⟨true, false, [.int .i64 (cb l i), .int .i64 (ck l i)]⟩ := by simp [Vh.rowAt, rw_]
    simp (disch := omega) only [sN, ↓reduceIte, Nat.reduceEqDiff, Nat.reduceAdd, Nat.reduceMul, Nat.reduceSub, reduceCtorEq, e_none, e_some, e_bindS, h1, h7, h8, h9]
    rw [x_loadNA (n := 2) (r := H.length) (l := [.int .i64 (cb l i), .int .i64 (ck l i)]) (by simp only [e_upd, e_putS, e_putN, e_t, e_c, Nat.reduceEqDiff, ↓reduceIte, reduceCtorEq, Nat.reduceAdd]) hb rfl rfl]
    simp (disch := omega) only [sN, ↓reduceIte, Nat.reduceEqDiff, Nat.reduceAdd, Nat.reduceMul, Nat.reduceSub, reduceCtorEq, e_none, e_some, e_bindS, h1, h7, h8, h9, List.map_cons, List.map_nil]
    refine ⟨_, (isClick_calls _ (cb l i) (ck l i)).g.mono ?_⟩
    rintro v H' ⟨rfl, hB'⟩
    have hB2 := hB.app.trans hB'
    cases hok : okC (cb l i) (ck l i)
    · simp (disch := omega) only [sN, ↓reduceIte, Nat.reduceEqDiff, Nat.reduceAdd, Nat.reduceMul, Nat.reduceSub, reduceCtorEq, e_none, e_some, e_bindS, h1, h7, h8, h9]
      refine ret_keep hB2.1 ⟨?_, hB2⟩
      simp only [e_upd, e_putS, e_putN, e_t, e_c, Nat.reduceEqDiff, ↓reduceIte, reduceCtorEq, Nat.reduceAdd, okCs_false hlt hok]
    · simp (disch := omega) only [sN, ↓reduceIte, Nat.reduceEqDiff, Nat.reduceAdd, Nat.reduceMul, Nat.reduceSub, reduceCtorEq, e_none, e_some, e_bindS, h1, h7, h8, h9]
      refine loop_keep (m := n - (i + 1)) (by omega) ⟨i + 1, rfl, by omega, fun j hj => ?_, hB2, ?_, ?_, ?_, ?_⟩
      · rcases Nat.lt_or_ge j i with h | h
        · exact hS j h
        · obtain rfl : j = i := by omega
          exact hok
      · simp only [e_upd, e_putS, e_putN, e_t, e_c, Nat.reduceEqDiff, ↓reduceIte, reduceCtorEq, Nat.reduceAdd, h1]
      · simp only [e_upd, e_putS, e_putN, e_t, e_c, Nat.reduceEqDiff, ↓reduceIte, reduceCtorEq, Nat.reduceAdd, h7]
      · simp only [e_upd, e_putS, e_putN, e_t, e_c, Nat.reduceEqDiff, ↓reduceIte, reduceCtorEq, Nat.reduceAdd, h8]
      · simp only [e_upd, e_putS, e_putN, e_t, e_c, Nat.reduceEqDiff, ↓reduceIte, reduceCtorEq, Nat.reduceAdd]; first | done | rfl
  · obtain rfl : i = n := by omega
    simp (disch := omega) only [sN, ↓reduceIte, Nat.reduceEqDiff, Nat.reduceAdd, Nat.reduceMul, Nat.reduceSub, reduceCtorEq, e_none, e_some, e_bindS, h1, h7, h8, h9]
    refine ret_keep hB.1 ⟨?_, hB⟩
    simp only [e_upd, e_putS, e_putN, e_t, e_c, Nat.reduceEqDiff, ↓reduceIte, reduceCtorEq, Nat.reduceAdd, okCs_true hS]

theorem allP_calls (H0 : AHeap) : ACalls Try.prog 84 [.nilslice, .func 85 []] H0 (List.range H0.length) fun v H => v = .bool true ∧ Base H0 H := by
  refine ACalls.body Try.func84 ent_allP ir_allP_ok rs_allP_ok Try.ntmps84 (by simp) rfl ?_
  unfold ir_allP
  have e0 : s0 [.nilslice, .func 85 []] 0 = .nilslice := rfl
  simp (disch := omega) only [sN, ↓reduceIte, Nat.reduceEqDiff, Nat.reduceAdd, Nat.reduceMul, Nat.reduceSub, reduceCtorEq, e_none, e_some, e_bindS, e0]
  refine ⟨fun t s H => Base H0 H ∧ s 8 = .int .i64 0 ∧ s 9 = .int .i64 0, 0, ⟨Base.refl, ?_, ?_⟩, ?_⟩
  · simp only [e_upd, e_putS, e_putN, e_t, e_c, Nat.reduceEqDiff, ↓reduceIte, reduceCtorEq, Nat.reduceAdd]; try rfl
  · simp only [e_upd, e_putS, e_putN, e_t, e_c, Nat.reduceEqDiff, ↓reduceIte, reduceCtorEq, Nat.reduceAdd]
  rintro t s H ⟨hB, h8, h9⟩
  simp (disch := omega) only [sN, ↓reduceIte, Nat.reduceEqDiff, Nat.reduceAdd, Nat.reduceMul, Nat.reduceSub, reduceCtorEq, e_none, e_some, e_bindS, h8, h9]
  refine ret_keep hB.1 ⟨?_, hB⟩
  simp only [e_upd, e_putS, e_putN, e_t, e_c, Nat.reduceEqDiff, ↓reduceIte, reduceCtorEq, Nat.reduceAdd]
end Go.Proofs.Ythbhljolpnbdlaa


/- Contracts of stage 4: errors. -/
-- NEWSET
namespace Go.Proofs.Ythbhljolpnbdlaa
open Go Go.Vh

theorem isShift_calls (H0 : AHeap) (n : Int) : ACalls Try.prog 83 [.int .i64 n] H0 (List.range H0.length) fun v H => v = .bool (decide (-16 ≤ n ∧ n ≤ 16)) ∧ H = H0 := by
  refine ACalls.body Try.func83 ent_isShift ir_isShift_ok rs_isShift_ok Try.ntmps83 (by simp) rfl ?_
  unfold ir_isShift
  have e0 : s0 [.int .i64 n] 0 = .int .i64 n := rfl
  by_cases h0 : -16 ≤ n
  · by_cases h1 : n ≤ 16
    · simp (disch := omega) only [sN, ↓reduceIte, Nat.reduceEqDiff, Nat.reduceAdd, Nat.reduceMul, Nat.reduceSub, reduceCtorEq, e_none, e_some, e_bindS, e0]
      refine ret_keep (by simp) ⟨?_, rfl⟩
      simp only [e_upd, e_putS, e_putN, e_t, e_c, Nat.reduceEqDiff, ↓reduceIte, reduceCtorEq, Nat.reduceAdd]; try simp [h0, h1]
    · simp (disch := omega) only [sN, ↓reduceIte, Nat.reduceEqDiff, Nat.reduceAdd, Nat.reduceMul, Nat.reduceSub, reduceCtorEq, e_none, e_some, e_bindS, e0]
      refine ret_keep (by simp) ⟨?_, rfl⟩
      simp only [e_upd, e_putS, e_putN, e_t, e_c, Nat.reduceEqDiff, ↓reduceIte, reduceCtorEq, Nat.reduceAdd]; try simp [h0, h1]
  · simp (disch := omega) only [sN, ↓reduceIte, Nat.reduceEqDiff, Nat.reduceAdd, Nat.reduceMul, Nat.reduceSub, reduceCtorEq, e_none, e_some, e_bindS, e0]
    refine ret_keep (by simp) ⟨?_, rfl⟩
    simp only [e_upd, e_putS, e_putN, e_t, e_c, Nat.reduceEqDiff, ↓reduceIte, reduceCtorEq, Nat.reduceAdd]; try simp [h0]

set_option maxHeartbeats 1000000 in
theorem agreeF_calls (H0 : AHeap) {κ : SK} {n r : Nat} {l : List Int} {row : ARow} (hk : okS κ n) (hl : l.length = n * 2) (hn : n ≤ maxLen) (hr : Vh.rowAt H0 r = some row) (hc : row.cells = ints .i64 l) :
    ACalls Try.prog 47 [.nilslice, mkS κ r 0 n, .int .i64 0] H0 (List.range H0.length) fun v H => (∃ a b, v = .tuple [a, b, .int .i64 (cE l n)]) ∧ Base H0 H := by
  refine ACalls.body Try.func47 ent_agreeF ir_agreeF_ok rs_agreeF_ok Try.ntmps47 (by simp) rfl ?_
  unfold ir_agreeF
  have e0 : s0 [.nilslice, mkS κ r 0 n, .int .i64 0] 0 = .nilslice := rfl
  have e1 : s0 [.nilslice, mkS κ r 0 n, .int .i64 0] 1 = mkS κ r 0 n := rfl
  have e2 : s0 [.nilslice, mkS κ r 0 n, .int .i64 0] 2 = .int .i64 0 := rfl
  have hn' : (n : Int) ≤ 9223372036854775807 := by unfold maxLen at hn; omega
  simp (disch := omega) only [sN, ↓reduceIte, Nat.reduceEqDiff, Nat.reduceAdd, Nat.reduceMul, Nat.reduceSub, reduceCtorEq, e_none, e_some, e_bindS, e0, e1, e2, List.map_cons, List.map_nil]
  refine ⟨_, (isShift_calls _ 0).g.mono ?_⟩
  rintro v H ⟨rfl, hH⟩
  rw [hH]
  rw [show decide ((-16 : Int) ≤ 0 ∧ (0 : Int) ≤ 16) = true from rfl]
  by_cases hb : n ≤ 4096
  · simp (disch := omega) only [sN, ↓reduceIte, Nat.reduceEqDiff, Nat.reduceAdd, Nat.reduceMul, Nat.reduceSub, reduceCtorEq, e_none, e_some, e_bindS, e0, e1, e2, k_len hk, List.map_cons, List.map_nil]
    refine ⟨_, (allP_calls _).g.mono ?_⟩
    rintro v H1 ⟨rfl, hB1⟩
    simp (disch := omega) only [sN, ↓reduceIte, Nat.reduceEqDiff, Nat.reduceAdd, Nat.reduceMul, Nat.reduceSub, reduceCtorEq, e_none, e_some, e_bindS, e0, e1, e2, k_len hk, List.map_cons, List.map_nil]
    refine ⟨_, (allC_calls H1 hk hl hb (hB1.row hr) hc).g.mono ?_⟩
    rintro v H2 ⟨rfl, hB2⟩
    have hB := hB1.trans hB2
    cases hok : okCs l n
    · have hce : cE l n = 2 := by simp [cE, hb, hok]
      rw [hce]
      simp (disch := omega) only [sN, ↓reduceIte, Nat.reduceEqDiff, Nat.reduceAdd, Nat.reduceMul, Nat.reduceSub, reduceCtorEq, e_none, e_some, e_bindS, e0, e1, e2]
      refine ret_keep hB.1 ?_
      rw [show rs_agreeF = [.tmp 6, .tmp 7, .tmp 8] from rfl]
      refine ⟨⟨.nilslice, .nilslice, ?_⟩, hB⟩
      show AV.tuple [_, _, _] = _
      simp only [e_upd, e_putS, e_putN, e_t, e_c, Nat.reduceEqDiff, ↓reduceIte, reduceCtorEq, Nat.reduceAdd]
    · have hce : cE l n = 0 := by simp [cE, hb, hok]
      rw [hce]
      simp (disch := omega) only [sN, ↓reduceIte, Nat.reduceEqDiff, Nat.reduceAdd, Nat.reduceMul, Nat.reduceSub, reduceCtorEq, e_none, e_some, e_bindS, e0, e1, e2]
      refine ⟨fun t s H => Base H0 H ∧ s 37 = .int .i64 0 ∧ s 38 = .int .i64 0, 0, ⟨hB, ?_, ?_⟩, ?_⟩
      · simp only [e_upd, e_putS, e_putN, e_t, e_c, Nat.reduceEqDiff, ↓reduceIte, reduceCtorEq, Nat.reduceAdd]; try rfl
      · simp only [e_upd, e_putS, e_putN, e_t, e_c, Nat.reduceEqDiff, ↓reduceIte, reduceCtorEq, Nat.reduceAdd]
      rintro t s H ⟨hB, h8, h9⟩
      simp (disch := omega) only [sN, ↓reduceIte, Nat.reduceEqDiff, Nat.reduceAdd, Nat.reduceMul, Nat.reduceSub, reduceCtorEq, e_none, e_some, e_bindS, h8, h9]
      refine ret_keep hB.1 ?_
      rw [show rs_agreeF = [.tmp 6, .tmp 7, .tmp 8] from rfl]
      refine ⟨⟨s 9, s 10, ?_⟩, hB⟩
      show AV.tuple [_, _, _] = _
      simp only [e_upd, e_putS, e_putN, e_t, e_c, Nat.reduceEqDiff, ↓reduceIte, reduceCtorEq, Nat.reduceAdd]
  · have hce : cE l n = 5 := by simp [cE, hb]
    rw [hce]
    simp (disch := omega) only [sN, ↓reduceIte, Nat.reduceEqDiff, Nat.reduceAdd, Nat.reduceMul, Nat.reduceSub, reduceCtorEq, e_none, e_some, e_bindS, e0, e1, e2, k_len hk]
    refine ret_keep (by simp) ?_
    rw [show rs_agreeF = [.tmp 6, .tmp 7, .tmp 8] from rfl]
    refine ⟨⟨.nilslice, .nilslice, ?_⟩, Base.refl⟩
    show AV.tuple [_, _, _] = _
    simp only [e_upd, e_putS, e_putN, e_t, e_c, Nat.reduceEqDiff, ↓reduceIte, reduceCtorEq, Nat.reduceAdd]

theorem checkClicks_calls (H0 : AHeap) {κ : SK} {n r : Nat} {l : List Int} {row : ARow} (hk : okS κ n) (hl : l.length = n * 2) (hn : n ≤ maxLen) (hr : Vh.rowAt H0 r = some row) (hc : row.cells = ints .i64 l) :
    ACalls Try.prog 46 [mkS κ r 0 n] H0 (List.range H0.length) fun v H => v = .int .i64 (cE l n) ∧ Base H0 H := by
  refine ACalls.body Try.func46 ent_checkClicks ir_checkClicks_ok rs_checkClicks_ok Try.ntmps46 (by simp) rfl ?_
  unfold ir_checkClicks
  have e0 : s0 [mkS κ r 0 n] 0 = mkS κ r 0 n := rfl
  simp (disch := omega) only [sN, ↓reduceIte, Nat.reduceEqDiff, Nat.reduceAdd, Nat.reduceMul, Nat.reduceSub, reduceCtorEq, e_none, e_some, e_bindS, e0, List.map_cons, List.map_nil]
  refine ⟨_, (agreeF_calls H0 hk hl hn hr hc).g.mono ?_⟩
  rintro v H ⟨⟨a, b, rfl⟩, hB⟩
  simp (disch := omega) only [sN, ↓reduceIte, Nat.reduceEqDiff, Nat.reduceAdd, Nat.reduceMul, Nat.reduceSub, reduceCtorEq, e_none, e_some, e_bindS, e0, List.getElem?_cons_zero, List.getElem?_cons_succ]
  refine ret_keep hB.1 ⟨?_, hB⟩
  simp only [e_upd, e_putS, e_putN, e_t, e_c, Nat.reduceEqDiff, ↓reduceIte, reduceCtorEq, Nat.reduceAdd]

theorem checkCount_calls (H0 : AHeap) (n m : Int) : ACalls Try.prog 51 [.int .i64 n, .int .i64 m] H0 (List.range H0.length) fun v H => v = .int .i64 (if 0 ≤ n ∧ n ≤ m then 0 else 3) ∧ H = H0 := by
  refine ACalls.body Try.func51 ent_checkCount ir_checkCount_ok rs_checkCount_ok Try.ntmps51 (by simp) rfl ?_
  unfold ir_checkCount
  have e0 : s0 [.int .i64 n, .int .i64 m] 0 = .int .i64 n := rfl
  have e1 : s0 [.int .i64 n, .int .i64 m] 1 = .int .i64 m := rfl
  by_cases h0 : 0 ≤ n
  · by_cases h1 : n ≤ m
    · simp (disch := omega) only [sN, ↓reduceIte, Nat.reduceEqDiff, Nat.reduceAdd, Nat.reduceMul, Nat.reduceSub, reduceCtorEq, e_none, e_some, e_bindS, e0, e1]
      refine ret_keep (by simp) ⟨?_, rfl⟩
      simp only [e_upd, e_putS, e_putN, e_t, e_c, Nat.reduceEqDiff, ↓reduceIte, reduceCtorEq, Nat.reduceAdd]; try simp [h0, h1]
    · simp (disch := omega) only [sN, ↓reduceIte, Nat.reduceEqDiff, Nat.reduceAdd, Nat.reduceMul, Nat.reduceSub, reduceCtorEq, e_none, e_some, e_bindS, e0, e1]
      refine ret_keep (by simp) ⟨?_, rfl⟩
      simp only [e_upd, e_putS, e_putN, e_t, e_c, Nat.reduceEqDiff, ↓reduceIte, reduceCtorEq, Nat.reduceAdd]; try simp [h0, h1]
  · simp (disch := omega) only [sN, ↓reduceIte, Nat.reduceEqDiff, Nat.reduceAdd, Nat.reduceMul, Nat.reduceSub, reduceCtorEq, e_none, e_some, e_bindS, e0, e1]
    refine ret_keep (by simp) ⟨?_, rfl⟩
    simp only [e_upd, e_putS, e_putN, e_t, e_c, Nat.reduceEqDiff, ↓reduceIte, reduceCtorEq, Nat.reduceAdd]; try simp [h0]

/-- the first that is not 0 -/
def fst0 : List Int → Int
  | [] => 0
  | e :: l => if e = 0 then fst0 l else e
theorem fst0_drop {l : List Int} {i : Nat} (h : ∀ j, j < i → l.getD j 0 = 0) : fst0 l = fst0 (l.drop i) := by
  induction i generalizing l with
  | zero => rfl
  | succ i ih =>
    cases l with
    | nil => rfl
    | cons e l =>
      have := h 0 (by omega)
      simp at this; subst this
      simp only [fst0, if_true, List.drop_succ_cons]
      exact ih fun j hj => by simpa using h (j + 1) (by omega)

theorem firstError_calls (H0 : AHeap) {n r : Nat} {l : List Int} {row : ARow} (hl : l.length = n) (hn : n ≤ 100) (hr : Vh.rowAt H0 r = some row) (hc : row.cells = ints .i64 l) :
    ACalls Try.prog 44 [.slice r 0 n n] H0 (List.range H0.length) fun v H => v = .int .i64 (fst0 l) ∧ Base H0 H := by
  refine ACalls.body Try.func44 ent_firstError ir_firstError_ok rs_firstError_ok Try.ntmps44 (by simp) rfl ?_
  unfold ir_firstError
  have e0 : s0 [.slice r 0 n n] 0 = .slice r 0 n n := rfl
  simp (disch := omega) only [sN, ↓reduceIte, Nat.reduceEqDiff, Nat.reduceAdd, Nat.reduceMul, Nat.reduceSub, reduceCtorEq, e_none, e_some, e_bindS, e0]
  refine ⟨fun t s H => ∃ i : Nat, t = n - i ∧ i ≤ n ∧ (∀ j, j < i → l.getD j 0 = 0) ∧ Base H0 H ∧ s 5 = .slice r 0 n n ∧ s 6 = .int .i64 n ∧ s 7 = .int .i64 (i : Int), n, ⟨0, rfl, by omega, fun j h => by omega, Base.refl, ?_, ?_, ?_⟩, ?_⟩
  · simp only [e_upd, e_putS, e_putN, e_t, e_c, Nat.reduceEqDiff, ↓reduceIte, reduceCtorEq, Nat.reduceAdd]
  · simp only [e_upd, e_putS, e_putN, e_t, e_c, Nat.reduceEqDiff, ↓reduceIte, reduceCtorEq, Nat.reduceAdd]
  · simp only [e_upd, e_putS, e_putN, e_t, e_c, Nat.reduceEqDiff, ↓reduceIte, reduceCtorEq, Nat.reduceAdd]; rfl
  rintro t s H ⟨i, rfl, hi, hS, hB, h5, h6, h7⟩
  by_cases hlt : i < n
  · have hrH := hB.row hr
    have ia : aindexAddr 1 (.slice r 0 n n) (.int .i64 (i : Int)) = some (.ptr r i) := by
      rw [a_idx (by omega) (by omega)]; simp
    have hce : row.cells[i]? = some (.int .i64 (l.getD i 0)) := by rw [hc]; exact ints_get (by omega)
    have hd : fst0 l = fst0 (l.drop i) := fst0_drop hS
    rw [List.drop_eq_getElem_cons (by omega)] at hd
    have hg : l.getD i 0 = l[i]'(by omega) := by simp [List.getD_eq_getElem?_getD, show i < l.length by omega]
    simp only [fst0, ← hg] at hd
    obtain ⟨e, he⟩ : ∃ e, e = l.getD i 0 := ⟨_, rfl⟩
    rw [← he] at hce hd
    by_cases hz : e = 0
    · simp (disch := omega) only [sN, ↓reduceIte, Nat.reduceEqDiff, Nat.reduceAdd, Nat.reduceMul, Nat.reduceSub, reduceCtorEq, e_none, e_some, e_bindS, h5, h6, h7, ia, hrH, hce]
      refine loop_keep (m := n - (i + 1)) (by omega) ⟨i + 1, rfl, by omega, fun j hj => ?_, hB, ?_, ?_, ?_⟩
      · rcases Nat.lt_or_ge j i with h | h
        · exact hS j h
        · obtain rfl : j = i := by omega
          rw [← he]; exact hz
      · simp only [e_upd, e_putS, e_putN, e_t, e_c, Nat.reduceEqDiff, ↓reduceIte, reduceCtorEq, Nat.reduceAdd, h5]
      · simp only [e_upd, e_putS, e_putN, e_t, e_c, Nat.reduceEqDiff, ↓reduceIte, reduceCtorEq, Nat.reduceAdd, h6]
      · simp only [e_upd, e_putS, e_putN, e_t, e_c, Nat.reduceEqDiff, ↓reduceIte, reduceCtorEq, Nat.reduceAdd]; first | done | rfl
    · simp (disch := omega) only [sN, ↓reduceIte, Nat.reduceEqDiff, Nat.reduceAdd, Nat.reduceMul, Nat.reduceSub, reduceCtorEq, e_none, e_some, e_bindS, h5, h6, h7, ia, hrH, hce]
      refine ret_keep hB.1 ⟨?_, hB⟩
      rw [if_neg hz] at hd
      simp only [e_upd, e_putS, e_putN, e_t, e_c, Nat.reduceEqDiff, ↓reduceIte, reduceCtorEq, Nat.reduceAdd, hd]
  · obtain rfl : i = n := by omega
    simp (disch := omega) only [sN, ↓reduceIte, Nat.reduceEqDiff, Nat.reduceAdd, Nat.reduceMul, Nat.reduceSub, reduceCtorEq, e_none, e_some, e_bindS, h5, h6, h7]
    refine ret_keep hB.1 ⟨?_, hB⟩
    have hd : fst0 l = fst0 (l.drop i) := fst0_drop hS
    rw [List.drop_eq_nil_of_le (by omega)] at hd
    simp only [e_upd, e_putS, e_putN, e_t, e_c, Nat.reduceEqDiff, ↓reduceIte, reduceCtorEq, Nat.reduceAdd, hd, fst0]

end Go.Proofs.Ythbhljolpnbdlaa

