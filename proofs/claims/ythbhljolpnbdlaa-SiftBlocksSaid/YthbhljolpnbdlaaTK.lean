/- Contracts of stage 4: notes; a list of integers wherever it lies; what is known. -/
import Derived.Test.YthbhljolpnbdlaaVX
import Derived.Test.YthbhljolpnbdlaaTJ
import Derived.Test.YthbhljolpnbdlaaSIr6
set_option linter.unusedSimpArgs false
set_option linter.unusedVariables false
-- NEWSET
namespace Go.Proofs.Ythbhljolpnbdlaa
open Go Go.Vh

structure Not where
  sl : Int
  how : Int
  ba : Int
  bit : Bool
  deriving Inhabited
/-- the error of a note; m slots -/
def nA (m : Nat) (x : Not) : Int := if (1 ≤ x.how ∧ x.how ≤ 3) ∧ (x.ba = 0 ∨ x.ba = 1) then (if 0 ≤ x.sl ∧ x.sl < m then 0 else 3) else 2
/-- the indexes that are true -/
def trL (f : Nat → Bool) : Nat → List Int
  | 0 => []
  | i + 1 => trL f i ++ (if f i then [(i : Int)] else [])
theorem trL_len {f : Nat → Bool} : ∀ n, (trL f n).length ≤ n
  | 0 => by simp [trL]
  | n + 1 => by
    have := trL_len (f := f) n
    simp only [trL, List.length_append]
    split <;> simp <;> omega
theorem incr_get {l : List Int} (h : l.Pairwise (· < ·)) {i j : Nat} (hij : i < j) (hj : j < l.length) : l.getD i 0 < l.getD j 0 := by
  have := List.pairwise_iff_getElem.1 h i j (by omega) hj hij
  simpa [List.getD_eq_getElem?_getD, show i < l.length by omega, hj] using this

/-- a list of integers, wherever it lies -/
def Vi (H : AHeap) (v : AV) (l : List Int) : Prop := ∃ κ q, okS κ l.length ∧ v = mkS κ q 0 l.length ∧ (0 < l.length → ∃ row, Vh.rowAt H q = some row ∧ row.cells = ints .i64 l)
theorem Vi.base {H H' : AHeap} {v : AV} {l : List Int} (h : Vi H v l) (hb : Base H H') : Vi H' v l := by
  obtain ⟨κ, q, h1, h2, h3⟩ := h
  exact ⟨κ, q, h1, h2, fun hi => by obtain ⟨row, k1, k2⟩ := h3 hi; exact ⟨row, hb.row k1, k2⟩⟩
theorem Gs.vi {H0 H : AHeap} {v : AV} {l : List Int} (h : Gs H0 H v l) : Vi H v l := by
  rcases h with ⟨rfl, rfl⟩ | ⟨q, h1, rfl, _, h4⟩
  · exact ⟨.nil, 0, rfl, rfl, fun h => by simp at h⟩
  · exact ⟨.u, q, trivial, rfl, fun _ => ⟨_, h4, rfl⟩⟩
end Go.Proofs.Ythbhljolpnbdlaa


/- Contracts of stage 4: comparison, the binary search, pulses and notes are checked. -/
-- NEWSET
namespace Go.Proofs.Ythbhljolpnbdlaa
open Go Go.Vh

theorem isNaN_calls (H0 : AHeap) (b : Int) : ACalls Try.prog 100 [.int .i64 b] H0 (List.range H0.length) fun v H => v = .bool false ∧ H = H0 := by
  refine ACalls.body Try.func100 ent_isNaN ir_isNaN_ok rs_isNaN_ok Try.ntmps100 (by simp) rfl ?_
  unfold ir_isNaN
  have e0 : s0 [.int .i64 b] 0 = .int .i64 b := rfl
  simp (disch := omega) only [sN, ↓reduceIte, Nat.reduceEqDiff, Nat.reduceAdd, Nat.reduceMul, Nat.reduceSub, reduceCtorEq, e_none, e_some, e_bindS, e0]
  refine ret_keep (by simp) ⟨?_, rfl⟩
  simp only [e_upd, e_putS, e_putN, e_t, e_c, Nat.reduceEqDiff, ↓reduceIte, reduceCtorEq, Nat.reduceAdd]
theorem isNaN2_calls (H0 : AHeap) (b : Int) : ACalls Try.prog 129 [.int .i64 b] H0 (List.range H0.length) fun v H => v = .bool false ∧ H = H0 := by
  refine ACalls.body Try.func129 ent_isNaN2 ir_isNaN2_ok rs_isNaN2_ok Try.ntmps129 (by simp) rfl ?_
  unfold ir_isNaN2
  have e0 : s0 [.int .i64 b] 0 = .int .i64 b := rfl
  simp (disch := omega) only [sN, ↓reduceIte, Nat.reduceEqDiff, Nat.reduceAdd, Nat.reduceMul, Nat.reduceSub, reduceCtorEq, e_none, e_some, e_bindS, e0]
  refine ret_keep (by simp) ⟨?_, rfl⟩
  simp only [e_upd, e_putS, e_putN, e_t, e_c, Nat.reduceEqDiff, ↓reduceIte, reduceCtorEq, Nat.reduceAdd]
theorem cmpLess_calls (H0 : AHeap) (a b : Int) : ACalls Try.prog 99 [.int .i64 a, .int .i64 b] H0 (List.range H0.length) fun v H => v = .bool (decide (a < b)) ∧ H = H0 := by
  refine ACalls.body Try.func99 ent_cmpLess ir_cmpLess_ok rs_cmpLess_ok Try.ntmps99 (by simp) rfl ?_
  unfold ir_cmpLess
  have e0 : s0 [.int .i64 a, .int .i64 b] 0 = .int .i64 a := rfl
  have e1 : s0 [.int .i64 a, .int .i64 b] 1 = .int .i64 b := rfl
  simp (disch := omega) only [sN, ↓reduceIte, Nat.reduceEqDiff, Nat.reduceAdd, Nat.reduceMul, Nat.reduceSub, reduceCtorEq, e_none, e_some, e_bindS, e0, e1, List.map_cons, List.map_nil]
  refine ⟨_, (isNaN2_calls H0 a).g.mono ?_⟩
  rintro v H ⟨rfl, hH⟩
  rw [hH]
  by_cases h : a < b
  · simp (disch := omega) only [sN, ↓reduceIte, Nat.reduceEqDiff, Nat.reduceAdd, Nat.reduceMul, Nat.reduceSub, reduceCtorEq, e_none, e_some, e_bindS, e0, e1]
    refine ret_keep (by simp) ⟨?_, rfl⟩
    simp only [e_upd, e_putS, e_putN, e_t, e_c, Nat.reduceEqDiff, ↓reduceIte, reduceCtorEq, Nat.reduceAdd]; try simp [h]
  · simp (disch := omega) only [sN, ↓reduceIte, Nat.reduceEqDiff, Nat.reduceAdd, Nat.reduceMul, Nat.reduceSub, reduceCtorEq, e_none, e_some, e_bindS, e0, e1]
    refine ret_keep (by simp) ⟨?_, rfl⟩
    simp only [e_upd, e_putS, e_putN, e_t, e_c, Nat.reduceEqDiff, ↓reduceIte, reduceCtorEq, Nat.reduceAdd]; try simp [h]

end Go.Proofs.Ythbhljolpnbdlaa


/- Contracts of stage 4: the binary search. -/
-- NEWSET
namespace Go.Proofs.Ythbhljolpnbdlaa
open Go Go.Vh

theorem bs_in {l : List Int} {x : Int} {i n : Nat} (hp : l.Pairwise (· < ·)) (hn : l.length = n) (hi : i ≤ n) (hlo : ∀ k, k < i → l.getD k 0 < x) (hhi : ∀ k, i ≤ k → k < n → x ≤ l.getD k 0) : x ∈ l ↔ i < n ∧ l.getD i 0 = x := by
  constructor
  · intro h
    obtain ⟨k, hk, e⟩ := List.getElem_of_mem h
    have ek : l.getD k 0 = x := by simp [List.getD_eq_getElem?_getD, hk, e]
    have h1 : i ≤ k := by
      rcases Nat.lt_or_ge k i with h | h
      · have := hlo k h; omega
      · exact h
    rcases Nat.eq_or_lt_of_le h1 with h2 | h2
    · subst h2; exact ⟨by omega, ek⟩
    · have := incr_get hp h2 hk
      have := hhi i (Nat.le_refl i) (by omega)
      omega
  · rintro ⟨h1, h2⟩
    rw [← h2]
    have : l.getD i 0 = l[i]'(by omega) := by simp [List.getD_eq_getElem?_getD, show i < l.length by omega]
    rw [this]
    exact List.getElem_mem _

theorem b_half {a : Int} : abin .shr (.int .u64 a) (.int .u64 1) = some (.int .u64 (a / 2)) := by
  have := b_shr (k := .u64) (k' := .u64) (a := a) (n := 1) (by decide)
  exact this

set_option maxHeartbeats 1000000 in
theorem bsearch_calls (H0 : AHeap) {v : AV} {l : List Int} {x : Int} (hv : Vi H0 v l) (hp : l.Pairwise (· < ·)) (hlen : l.length ≤ 100000) :
    ACalls Try.prog 67 [v, .int .i64 x] H0 (List.range H0.length) fun w H => (∃ i : Int, w = .tuple [.int .i64 i, .bool (decide (x ∈ l))]) ∧ H = H0 := by
  refine ACalls.body Try.func67 ent_bsearch ir_bsearch_ok rs_bsearch_ok Try.ntmps67 (by simp) rfl ?_
  unfold ir_bsearch
  obtain ⟨κ, q, hk, rfl, hrow⟩ := hv
  obtain ⟨n, hn⟩ : ∃ n, l.length = n := ⟨_, rfl⟩
  rw [hn] at hk hlen hrow ⊢
  have e0 : s0 [mkS κ q 0 n, .int .i64 x] 0 = mkS κ q 0 n := rfl
  have e1 : s0 [mkS κ q 0 n, .int .i64 x] 1 = .int .i64 x := rfl
  simp (disch := omega) only [sN, ↓reduceIte, Nat.reduceEqDiff, Nat.reduceAdd, Nat.reduceMul, Nat.reduceSub, reduceCtorEq, e_none, e_some, e_bindS, e0, e1, k_len hk]
  refine ⟨fun t s H => ∃ i j : Nat, t = j - i ∧ i ≤ j ∧ j ≤ n ∧ (∀ k, k < i → l.getD k 0 < x) ∧ (∀ k, j ≤ k → k < n → x ≤ l.getD k 0) ∧ H = H0 ∧ s 0 = mkS κ q 0 n ∧ s 1 = .int .i64 x ∧ s 6 = .int .i64 n ∧ s 7 = .int .i64 (i : Int) ∧ s 8 = .int .i64 (j : Int), n, ⟨0, n, rfl, by omega, by omega, fun k h => by omega, fun k h h' => by omega, rfl, ?_, ?_, ?_, ?_, ?_⟩, ?_⟩
  · simp only [e_upd, e_putS, e_putN, e_t, e_c, Nat.reduceEqDiff, ↓reduceIte, reduceCtorEq, Nat.reduceAdd, e0]
  · simp only [e_upd, e_putS, e_putN, e_t, e_c, Nat.reduceEqDiff, ↓reduceIte, reduceCtorEq, Nat.reduceAdd, e1]
  · simp only [e_upd, e_putS, e_putN, e_t, e_c, Nat.reduceEqDiff, ↓reduceIte, reduceCtorEq, Nat.reduceAdd]
  · simp only [e_upd, e_putS, e_putN, e_t, e_c, Nat.reduceEqDiff, ↓reduceIte, reduceCtorEq, Nat.reduceAdd]; rfl
  · simp only [e_upd, e_putS, e_putN, e_t, e_c, Nat.reduceEqDiff, ↓reduceIte, reduceCtorEq, Nat.reduceAdd]
  rintro t s H ⟨i, j, rfl, hij, hj, hlo, hhi, hH, h0, h1, h6, h7, h8⟩
  rw [hH]
  by_cases hlt : i < j
  · obtain ⟨row, hr, hc⟩ := hrow (by omega)
    obtain ⟨h, hh⟩ : ∃ h : Nat, h = (i + j) / 2 := ⟨_, rfl⟩
    have hg : row.cells[h]? = some (.int .i64 (l.getD h 0)) := by rw [hc]; exact ints_get (by omega)
    have ia : aindexAddr 1 (mkS κ q 0 n) (.int .i64 (h : Int)) = some (.ptr q h) := by
      rw [k_idx hk (Nat.le_refl n) (by omega) (by omega)]; simp
    have hsh : ((i : Int) + j) / 2 = (h : Int) := by omega
    obtain ⟨y, hy⟩ : ∃ y, y = l.getD h 0 := ⟨_, rfl⟩
    rw [← hy] at hg
    simp (disch := omega) only [sN, ↓reduceIte, Nat.reduceEqDiff, Nat.reduceAdd, Nat.reduceMul, Nat.reduceSub, reduceCtorEq, e_none, e_some, e_bindS, h0, h1, h6, h7, h8, b_half, hsh, ia, hr, hg, Option.bind_some, List.map_cons, List.map_nil]
    refine ⟨_, (cmpLess_calls H0 y x).g.mono ?_⟩
    rintro w H2 ⟨rfl, hH2⟩
    rw [hH2]
    by_cases hc2 : y < x
    · rw [decide_eq_true hc2]
      simp (disch := omega) only [sN, ↓reduceIte, Nat.reduceEqDiff, Nat.reduceAdd, Nat.reduceMul, Nat.reduceSub, reduceCtorEq, e_none, e_some, e_bindS, h0, h1, h6, h7, h8]
      refine loop_keep (m := j - (h + 1)) (by omega) ⟨h + 1, j, rfl, by omega, hj, fun k hk2 => ?_, hhi, rfl, ?_, ?_, ?_, ?_, ?_⟩
      · rcases Nat.lt_or_ge k h with h' | h'
        · have := incr_get hp h' (by omega); omega
        · obtain rfl : k = h := by omega
          omega
      · simp only [e_upd, e_putS, e_putN, e_t, e_c, Nat.reduceEqDiff, ↓reduceIte, reduceCtorEq, Nat.reduceAdd, h0]
      · simp only [e_upd, e_putS, e_putN, e_t, e_c, Nat.reduceEqDiff, ↓reduceIte, reduceCtorEq, Nat.reduceAdd, h1]
      · simp only [e_upd, e_putS, e_putN, e_t, e_c, Nat.reduceEqDiff, ↓reduceIte, reduceCtorEq, Nat.reduceAdd, h6]
      · simp only [e_upd, e_putS, e_putN, e_t, e_c, Nat.reduceEqDiff, ↓reduceIte, reduceCtorEq, Nat.reduceAdd]; first | done | rfl
      · simp only [e_upd, e_putS, e_putN, e_t, e_c, Nat.reduceEqDiff, ↓reduceIte, reduceCtorEq, Nat.reduceAdd, h8]
    · rw [decide_eq_false hc2]
      simp (disch := omega) only [sN, ↓reduceIte, Nat.reduceEqDiff, Nat.reduceAdd, Nat.reduceMul, Nat.reduceSub, reduceCtorEq, e_none, e_some, e_bindS, h0, h1, h6, h7, h8]
      refine loop_keep (m := h - i) (by omega) ⟨i, h, rfl, by omega, by omega, hlo, fun k hk2 hkn => ?_, rfl, ?_, ?_, ?_, ?_, ?_⟩
      · rcases Nat.lt_or_ge h k with h' | h'
        · have := incr_get hp h' (by omega); omega
        · obtain rfl : k = h := by omega
          omega
      · simp only [e_upd, e_putS, e_putN, e_t, e_c, Nat.reduceEqDiff, ↓reduceIte, reduceCtorEq, Nat.reduceAdd, h0]
      · simp only [e_upd, e_putS, e_putN, e_t, e_c, Nat.reduceEqDiff, ↓reduceIte, reduceCtorEq, Nat.reduceAdd, h1]
      · simp only [e_upd, e_putS, e_putN, e_t, e_c, Nat.reduceEqDiff, ↓reduceIte, reduceCtorEq, Nat.reduceAdd, h6]
      · simp only [e_upd, e_putS, e_putN, e_t, e_c, Nat.reduceEqDiff, ↓reduceIte, reduceCtorEq, Nat.reduceAdd, h7]
      · simp only [e_upd, e_putS, e_putN, e_t, e_c, Nat.reduceEqDiff, ↓reduceIte, reduceCtorEq, Nat.reduceAdd]
  · obtain rfl : i = j := by omega
    have hin := bs_in hp hn hj hlo hhi
    by_cases hin2 : i < n
    · obtain ⟨row, hr, hc⟩ := hrow (by omega)
      have hg : row.cells[i]? = some (.int .i64 (l.getD i 0)) := by rw [hc]; exact ints_get (by omega)
      have ia : aindexAddr 1 (mkS κ q 0 n) (.int .i64 (i : Int)) = some (.ptr q i) := by
        rw [k_idx hk (Nat.le_refl n) (by omega) (by omega)]; simp
      obtain ⟨y, hy⟩ : ∃ y, y = l.getD i 0 := ⟨_, rfl⟩
      rw [← hy] at hg hin
      by_cases hyx : y = x
      · have hm : decide (x ∈ l) = true := decide_eq_true (hin.2 ⟨hin2, hyx⟩)
        simp (disch := omega) only [sN, ↓reduceIte, Nat.reduceEqDiff, Nat.reduceAdd, Nat.reduceMul, Nat.reduceSub, reduceCtorEq, e_none, e_some, e_bindS, h0, h1, h6, h7, h8, ia, hr, hg, Option.bind_some, List.map_cons, List.map_nil]
        refine ret_keep (by simp) ?_
        rw [show rs_bsearch = [.tmp 4, .tmp 5] from rfl, q_tmp2, q_then]
        refine ⟨⟨i, ?_⟩, rfl⟩
        rw [hm]
        simp only [e_upd, e_putS, e_putN, e_t, e_c, Nat.reduceEqDiff, ↓reduceIte, reduceCtorEq, Nat.reduceAdd]
      · have hm : decide (x ∈ l) = false := decide_eq_false fun h => hyx (hin.1 h).2
        simp (disch := omega) only [sN, ↓reduceIte, Nat.reduceEqDiff, Nat.reduceAdd, Nat.reduceMul, Nat.reduceSub, reduceCtorEq, e_none, e_some, e_bindS, h0, h1, h6, h7, h8, ia, hr, hg, Option.bind_some, List.map_cons, List.map_nil]
        refine ⟨_, (isNaN_calls H0 y).g.mono ?_⟩
        rintro w H2 ⟨rfl, hH2⟩
        rw [hH2]
        simp (disch := omega) only [sN, ↓reduceIte, Nat.reduceEqDiff, Nat.reduceAdd, Nat.reduceMul, Nat.reduceSub, reduceCtorEq, e_none, e_some, e_bindS, h0, h1, h6, h7, h8]
        refine ret_keep (by simp) ?_
        rw [show rs_bsearch = [.tmp 4, .tmp 5] from rfl, q_tmp2, q_then]
        refine ⟨⟨i, ?_⟩, rfl⟩
        rw [hm]
        simp only [e_upd, e_putS, e_putN, e_t, e_c, Nat.reduceEqDiff, ↓reduceIte, reduceCtorEq, Nat.reduceAdd]
    · have hm : decide (x ∈ l) = false := decide_eq_false fun h => hin2 (hin.1 h).1
      simp (disch := omega) only [sN, ↓reduceIte, Nat.reduceEqDiff, Nat.reduceAdd, Nat.reduceMul, Nat.reduceSub, reduceCtorEq, e_none, e_some, e_bindS, h0, h1, h6, h7, h8]
      refine ret_keep (by simp) ?_
      rw [show rs_bsearch = [.tmp 4, .tmp 5] from rfl, q_tmp2, q_then]
      refine ⟨⟨i, ?_⟩, rfl⟩
      rw [hm]
      simp only [e_upd, e_putS, e_putN, e_t, e_c, Nat.reduceEqDiff, ↓reduceIte, reduceCtorEq, Nat.reduceAdd]
end Go.Proofs.Ythbhljolpnbdlaa

