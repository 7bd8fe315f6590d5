/- The law SiftAnnounces. -/
import Derived.Test.YthbhljolpnbdlaaVX
import Derived.Test.YthbhljolpnbdlaaTB
set_option linter.unusedSimpArgs false
set_option linter.unusedVariables false
-- NEWSET
namespace Go.Proofs.Ythbhljolpnbdlaa
open Go Go.Vh

section
variable {K : St → AHeap → Prop} {d : Option Nat} {s : St} {H : AHeap}
theorem call_true {f : FuncId} {W : List Nat} (h : ACalls Try.prog f [] [] W fun v _ => v = .bool true) (hK : ∀ H', K (putI d s (.bool true)) (H ++ H')) : thenC Try.prog K d s H [] (.func f []) := by
  refine call_do h [] rfl rfl rfl rfl trivial ?_
  rintro v0 H0' rfl
  rw [n_bool, m_merge, m_nil]
  exact hK _
end

set_option maxHeartbeats 2000000 in
theorem lawAnn_calls {Ww : List Nat} (hw : ACalls Try.prog 11 [] [] Ww fun v _ => v = .bool true) (κ : SK) (n : Nat) (l : List Int) (sh a b : Int) (hk : okS κ n) (hl : l.length = n * 2) (hn : n ≤ maxLen) :
    ACalls Try.prog 4 [mkS κ 0 0 n, .agg [.int .i64 sh, .int .i64 a, .int .i64 b]] [ro (ints .i64 l)] (List.range 1) fun v _ => v = .bool true := by
  refine ACalls.body Try.func4 ent_lawAnn ir_lawAnn_ok rs_lawAnn_ok Try.ntmps4 (by simp) rfl ?_
  unfold ir_lawAnn
  have e0 : s0 [mkS κ 0 0 n, .agg [.int .i64 sh, .int .i64 a, .int .i64 b]] 0 = mkS κ 0 0 n := rfl
  have e1 : s0 [mkS κ 0 0 n, .agg [.int .i64 sh, .int .i64 a, .int .i64 b]] 1 = .agg [.int .i64 sh, .int .i64 a, .int .i64 b] := rfl
  have hn' : (n : Int) ≤ 9223372036854775807 := by unfold maxLen at hn; omega
  simp (disch := omega) only [sN, ↓reduceIte, Nat.reduceEqDiff, Nat.reduceAdd, Nat.reduceMul, Nat.reduceSub, reduceCtorEq, e_none, e_some, e_bindS, e0, e1]
  rw [x_boxN (l := [.int .i64 sh, .int .i64 a, .int .i64 b]) (by simp only [e_upd, e_putS, e_putN, e_t, e_c, Nat.reduceEqDiff, ↓reduceIte, reduceCtorEq, Nat.reduceAdd, e1]) (by rfl)]
  obtain ⟨H1, hH1⟩ : ∃ h, h = [ro (ints .i64 l)] ++ [rw_ [.int .i64 sh, .int .i64 a, .int .i64 b]] := ⟨_, rfl⟩
  have r0 : Vh.rowAt H1 0 = some ⟨false, false, ints .i64 l⟩ := by rw [hH1]; simp [Vh.rowAt, ro]
  have r1 : Vh.rowAt H1 1 = some ⟨true, false, [.int .i64 sh, .int .i64 a, .int .i64 b]⟩ := by rw [hH1]; simp [Vh.rowAt, rw_, ro]
  have hlen : 2 ≤ H1.length := by rw [hH1]; simp
  rw [← hH1]
  simp (disch := omega) only [sN, ↓reduceIte, Nat.reduceEqDiff, Nat.reduceAdd, Nat.reduceMul, Nat.reduceSub, reduceCtorEq, e_none, e_some, e_bindS, e0, e1, k_len hk, List.length_cons, List.length_nil]
  by_cases hb : n ≤ 400
  · simp (disch := omega) only [sN, ↓reduceIte, Nat.reduceEqDiff, Nat.reduceAdd, Nat.reduceMul, Nat.reduceSub, reduceCtorEq, e_none, e_some, e_bindS, e0, e1, k_len hk, p_fieldAddr, Nat.zero_add, r1, Option.bind_some, Option.map_some, List.getElem?_cons_zero, List.getElem?_cons_succ, List.map_cons, List.map_nil]
    refine ⟨_, (announce_calls H1 hk hl hn r0 rfl).g.mono ?_⟩
    rintro v H2 ⟨w, rfl, hB2, hg2⟩
    have q0 := hB2.row r0
    have q1 := hB2.row r1
    simp (disch := omega) only [sN, ↓reduceIte, Nat.reduceEqDiff, Nat.reduceAdd, Nat.reduceMul, Nat.reduceSub, reduceCtorEq, e_none, e_some, e_bindS, e0, e1, p_fieldAddr, Nat.zero_add, q1, Option.bind_some, Option.map_some, List.getElem?_cons_zero, List.getElem?_cons_succ, List.map_cons, List.map_nil]
    refine ⟨_, (rAnnounce_calls H2 hk hl hn q0 rfl).g.mono ?_⟩
    rintro v H3 ⟨w', rfl, hB3, hg3⟩
    have hg2' := hg2.base hB3
    have hll : (anL l n sh a b).length ≤ 100000 := by
      unfold anL
      split
      · rename_i h
        obtain ⟨_, _, h3, h4⟩ := eA_zero h
        have := ann_len (l := l) (n := n) (sh := sh) (a := a) (b - a).toNat
        omega
      · simp
    obtain ⟨E, hE⟩ : ∃ e, e = eA l n sh a b := ⟨_, rfl⟩
    rw [← hE]
    simp (disch := omega) only [sN, ↓reduceIte, Nat.reduceEqDiff, Nat.reduceAdd, Nat.reduceMul, Nat.reduceSub, reduceCtorEq, e_none, e_some, e_bindS, e0, e1, List.getElem?_cons_zero, List.getElem?_cons_succ, List.map_cons, List.map_nil]
    refine ⟨_, (sameHeard_calls H3 hg2' hg3 hll).g.mono ?_⟩
    rintro v H4 ⟨rfl, hH⟩
    rw [hH]
    simp (disch := omega) only [sN, ↓reduceIte, Nat.reduceEqDiff, Nat.reduceAdd, Nat.reduceMul, Nat.reduceSub, reduceCtorEq, e_none, e_some, e_bindS, e0, e1]
    refine call_true hw fun H' => ?_
    simp (disch := omega) only [sN, ↓reduceIte, Nat.reduceEqDiff, Nat.reduceAdd, Nat.reduceMul, Nat.reduceSub, reduceCtorEq, e_none, e_some, e_bindS, e0, e1]
    have hL2 := hB2.1
    have hL3 := hB3.1
    refine ret_keep (by rw [List.length_append]; omega) ?_
    simp only [q_tmp, q_then, rs_lawAnn, e_upd, e_putS, e_putN, e_t, e_c, Nat.reduceEqDiff, ↓reduceIte, reduceCtorEq, Nat.reduceAdd]
  · simp (disch := omega) only [sN, ↓reduceIte, Nat.reduceEqDiff, Nat.reduceAdd, Nat.reduceMul, Nat.reduceSub, reduceCtorEq, e_none, e_some, e_bindS, e0, e1, k_len hk]
    refine call_true hw fun H' => ?_
    simp (disch := omega) only [sN, ↓reduceIte, Nat.reduceEqDiff, Nat.reduceAdd, Nat.reduceMul, Nat.reduceSub, reduceCtorEq, e_none, e_some, e_bindS, e0, e1]
    refine ret_keep (by rw [List.length_append]; omega) ?_
    simp only [q_tmp, q_then, rs_lawAnn, e_upd, e_putS, e_putN, e_t, e_c, Nat.reduceEqDiff, ↓reduceIte, reduceCtorEq, Nat.reduceAdd]
end Go.Proofs.Ythbhljolpnbdlaa

