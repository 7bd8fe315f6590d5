/- Contracts of stage 4: two lists of truths compared. -/
import Derived.Test.YthbhljolpnbdlaaVX
import Derived.Test.YthbhljolpnbdlaaSIr5
import Derived.Test.YthbhljolpnbdlaaTI
set_option linter.unusedSimpArgs false
set_option linter.unusedVariables false
-- NEWSET
namespace Go.Proofs.Ythbhljolpnbdlaa
open Go Go.Vh

/-- a list of n truths, wherever it lies -/
def Vw (H : AHeap) (v : AV) (n : Nat) (f : Nat → Bool) : Prop := ∃ κ q, okS κ n ∧ v = mkS κ q 0 n ∧ ∀ i, i < n → ∃ row, Vh.rowAt H q = some row ∧ row.cells[i]? = some (.bool (f i))
theorem Vw.base {H H' : AHeap} {v : AV} {n : Nat} {f : Nat → Bool} (h : Vw H v n f) (hb : Base H H') : Vw H' v n f := by
  obtain ⟨κ, q, h1, h2, h3⟩ := h
  exact ⟨κ, q, h1, h2, fun i hi => by obtain ⟨row, k1, k2⟩ := h3 i hi; exact ⟨row, hb.row k1, k2⟩⟩
theorem Vw.nil {H : AHeap} {f : Nat → Bool} : Vw H .nilslice 0 f := ⟨.nil, 0, rfl, rfl, fun i hi => by omega⟩
theorem Mb.vw {H0 H : AHeap} {v : AV} {n : Nat} {f : Nat → Bool} (h : Mb H0 H v n f) : Vw H v n f := by
  obtain ⟨q, rfl, _, h2⟩ := h
  exact ⟨.cap n, q, Nat.le_refl n, rfl, fun i hi => ⟨_, h2, bt_get hi⟩⟩
theorem Gb.vw {H0 H : AHeap} {v : AV} {n : Nat} {xs : List Bool} {f : Nat → Bool} (h : Gb H0 H v xs) (hn : xs.length = n) (hf : bools xs = bt n f) : Vw H v n f := by
  rcases h with ⟨rfl, rfl⟩ | ⟨q, h1, rfl, _, h4⟩
  · obtain rfl : n = 0 := hn.symm
    exact Vw.nil
  · rw [hn]
    exact ⟨.u, q, trivial, rfl, fun i hi => ⟨_, h4, by show (bools xs)[i]? = _; rw [hf]; exact bt_get hi⟩⟩
theorem bools_false {n : Nat} : bools (List.replicate n false) = bt n fun _ => false := by
  apply List.ext_getElem?
  intro i
  rcases Nat.lt_or_ge i n with h | h
  · rw [bt_get h]; simp [bools, h]
  · rw [List.getElem?_eq_none (by simp [bools]; exact h), List.getElem?_eq_none (by rw [bt_length]; exact h)]

set_option maxHeartbeats 2000000 in
theorem xorR_calls (H0 : AHeap) {v v' : AV} {n : Nat} {f : Nat → Bool} (hn : n ≤ 400) (h : Vw H0 v n f) (h' : Vw H0 v' n f) :
    ACalls Try.prog 65 [v, v'] H0 (List.range H0.length) fun w H => Base H0 H ∧ Vw H w n fun _ => false := by
  obtain ⟨κ, q, hk, rfl, hr⟩ := h
  obtain ⟨κ', q', hk', rfl, hr'⟩ := h'
  refine ACalls.body Try.func65 ent_xorR ir_xorR_ok rs_xorR_ok Try.ntmps65 (by simp) rfl ?_
  unfold ir_xorR
  have e0 : s0 [mkS κ q 0 n, mkS κ' q' 0 n] 0 = mkS κ q 0 n := rfl
  have e1 : s0 [mkS κ q 0 n, mkS κ' q' 0 n] 1 = mkS κ' q' 0 n := rfl
  simp (disch := omega) only [sN, ↓reduceIte, Nat.reduceEqDiff, Nat.reduceAdd, Nat.reduceMul, Nat.reduceSub, reduceCtorEq, e_none, e_some, e_bindS, e0, e1]
  refine ⟨fun t s H => ∃ i : Nat, t = n - i ∧ i ≤ n ∧ Base H0 H ∧ Gb H0 H (s 5) (List.replicate i false) ∧ s 0 = mkS κ q 0 n ∧ s 1 = mkS κ' q' 0 n ∧ s 6 = .int .i64 (i : Int), n, ⟨0, rfl, by omega, Base.refl, .inl ⟨rfl, ?_⟩, ?_, ?_, ?_⟩, ?_⟩
  · simp only [e_upd, e_putS, e_putN, e_t, e_c, Nat.reduceEqDiff, ↓reduceIte, reduceCtorEq, Nat.reduceAdd]
  · simp only [e_upd, e_putS, e_putN, e_t, e_c, Nat.reduceEqDiff, ↓reduceIte, reduceCtorEq, Nat.reduceAdd, e0]
  · simp only [e_upd, e_putS, e_putN, e_t, e_c, Nat.reduceEqDiff, ↓reduceIte, reduceCtorEq, Nat.reduceAdd, e1]
  · simp only [e_upd, e_putS, e_putN, e_t, e_c, Nat.reduceEqDiff, ↓reduceIte, reduceCtorEq, Nat.reduceAdd]; rfl
  rintro t s H ⟨i, rfl, hi, hB, hg, h0, h1, h6⟩
  by_cases hlt : i < n
  · obtain ⟨row, k1, k2⟩ := hr i hlt
    obtain ⟨row', k1', k2'⟩ := hr' i hlt
    have k3 := hB.row k1
    have k3' := hB.row k1'
    obtain ⟨y, hy⟩ : ∃ y, y = f i := ⟨_, rfl⟩
    rw [← hy] at k2 k2'
    have ia : aindexAddr 1 (mkS κ q 0 n) (.int .i64 (i : Int)) = some (.ptr q i) := by
      rw [k_idx hk (Nat.le_refl n) (by omega) (by omega)]; simp
    have ib : aindexAddr 1 (mkS κ' q' 0 n) (.int .i64 (i : Int)) = some (.ptr q' i) := by
      rw [k_idx hk' (Nat.le_refl n) (by omega) (by omega)]; simp
    obtain ⟨v', H'', ea, eg, eb⟩ := x_appGb (H0 := H0) (H := H ++ [rw_ [.bool false]]) (v := s 5) (a := false) (r := H.length) (c := 1) (row := ⟨true, false, [.bool false]⟩) (hg.base Base.one) (by simp [Vh.rowAt, rw_]) rfl (by simp; omega) hB.app
    simp (disch := omega) only [sN, ↓reduceIte, Nat.reduceEqDiff, Nat.reduceAdd, Nat.reduceMul, Nat.reduceSub, reduceCtorEq, e_none, e_some, e_bindS, h0, h1, h6, k_len hk, ia, ib, k3, k3', k2, k2', Option.bind_some]
    rw [p_binB]
    simp (disch := omega) only [sN, ↓reduceIte, Nat.reduceEqDiff, Nat.reduceAdd, Nat.reduceMul, Nat.reduceSub, reduceCtorEq, e_none, e_some, e_bindS, h0, h1, h6]
    rw [show (!(y == y)) = false by simp]
    rw [x_bs1 (v := .bool false) (by simp only [e_upd, e_putS, e_putN, e_t, e_c, Nat.reduceEqDiff, ↓reduceIte, reduceCtorEq, Nat.reduceAdd]) rfl]
    simp (disch := omega) only [sN, ↓reduceIte, Nat.reduceEqDiff, Nat.reduceAdd, Nat.reduceMul, Nat.reduceSub, reduceCtorEq, e_none, e_some, e_bindS, h0, h1, h6]
    rw [ea _ _ _ (by simp only [e_upd, e_putS, e_putN, e_t, e_c, Nat.reduceEqDiff, ↓reduceIte, reduceCtorEq, Nat.reduceAdd]) (by simp only [e_upd, e_putS, e_putN, e_t, e_c, Nat.reduceEqDiff, ↓reduceIte, reduceCtorEq, Nat.reduceAdd])]
    simp (disch := omega) only [sN, ↓reduceIte, Nat.reduceEqDiff, Nat.reduceAdd, Nat.reduceMul, Nat.reduceSub, reduceCtorEq, e_none, e_some, e_bindS, h0, h1, h6]
    refine loop_keep (m := n - (i + 1)) (by omega) ⟨i + 1, rfl, by omega, eb, ?_, ?_, ?_, ?_⟩
    · rw [List.replicate_succ']; simp only [e_upd, e_putS, e_putN, e_t, e_c, Nat.reduceEqDiff, ↓reduceIte, reduceCtorEq, Nat.reduceAdd]; exact eg
    · simp only [e_upd, e_putS, e_putN, e_t, e_c, Nat.reduceEqDiff, ↓reduceIte, reduceCtorEq, Nat.reduceAdd, h0]
    · simp only [e_upd, e_putS, e_putN, e_t, e_c, Nat.reduceEqDiff, ↓reduceIte, reduceCtorEq, Nat.reduceAdd, h1]
    · simp only [e_upd, e_putS, e_putN, e_t, e_c, Nat.reduceEqDiff, ↓reduceIte, reduceCtorEq, Nat.reduceAdd]; first | done | rfl
  · obtain rfl : i = n := by omega
    simp (disch := omega) only [sN, ↓reduceIte, Nat.reduceEqDiff, Nat.reduceAdd, Nat.reduceMul, Nat.reduceSub, reduceCtorEq, e_none, e_some, e_bindS, h0, h1, h6, k_len hk]
    refine ret_keep hB.1 ?_
    simp only [rs_xorR, q_tmp, q_then, e_upd, e_putS, e_putN, e_t, e_c, Nat.reduceEqDiff, ↓reduceIte, reduceCtorEq, Nat.reduceAdd]
    exact ⟨hB, hg.vw (by simp) bools_false⟩

set_option maxHeartbeats 2000000 in
theorem countR_calls (H0 : AHeap) {v : AV} {n : Nat} (hn : n ≤ 400) (h : Vw H0 v n fun _ => false) :
    ACalls Try.prog 64 [v] H0 (List.range H0.length) fun w H => w = .int .i64 0 ∧ H = H0 := by
  obtain ⟨κ, q, hk, rfl, hr⟩ := h
  refine ACalls.body Try.func64 ent_countR ir_countR_ok rs_countR_ok Try.ntmps64 (by simp) rfl ?_
  unfold ir_countR
  have e0 : s0 [mkS κ q 0 n] 0 = mkS κ q 0 n := rfl
  simp (disch := omega) only [sN, ↓reduceIte, Nat.reduceEqDiff, Nat.reduceAdd, Nat.reduceMul, Nat.reduceSub, reduceCtorEq, e_none, e_some, e_bindS, e0]
  refine ⟨fun t s H => ∃ i : Nat, t = n - i ∧ i ≤ n ∧ H = H0 ∧ s 0 = mkS κ q 0 n ∧ s 3 = .int .i64 0 ∧ s 4 = .int .i64 (i : Int), n, ⟨0, rfl, by omega, rfl, ?_, ?_, ?_⟩, ?_⟩
  · simp only [e_upd, e_putS, e_putN, e_t, e_c, Nat.reduceEqDiff, ↓reduceIte, reduceCtorEq, Nat.reduceAdd, e0]
  · simp only [e_upd, e_putS, e_putN, e_t, e_c, Nat.reduceEqDiff, ↓reduceIte, reduceCtorEq, Nat.reduceAdd]
  · simp only [e_upd, e_putS, e_putN, e_t, e_c, Nat.reduceEqDiff, ↓reduceIte, reduceCtorEq, Nat.reduceAdd]; rfl
  rintro t s H ⟨i, rfl, hi, hH, h0, h3, h4⟩
  rw [hH]
  by_cases hlt : i < n
  · obtain ⟨row, k1, k2⟩ := hr i hlt
    have ia : aindexAddr 1 (mkS κ q 0 n) (.int .i64 (i : Int)) = some (.ptr q i) := by
      rw [k_idx hk (Nat.le_refl n) (by omega) (by omega)]; simp
    simp (disch := omega) only [sN, ↓reduceIte, Nat.reduceEqDiff, Nat.reduceAdd, Nat.reduceMul, Nat.reduceSub, reduceCtorEq, e_none, e_some, e_bindS, h0, h3, h4, k_len hk, ia, k1, k2, Option.bind_some]
    refine loop_keep (m := n - (i + 1)) (by omega) ⟨i + 1, rfl, by omega, rfl, ?_, ?_, ?_⟩
    · simp only [e_upd, e_putS, e_putN, e_t, e_c, Nat.reduceEqDiff, ↓reduceIte, reduceCtorEq, Nat.reduceAdd, h0]
    · simp only [e_upd, e_putS, e_putN, e_t, e_c, Nat.reduceEqDiff, ↓reduceIte, reduceCtorEq, Nat.reduceAdd, h3]
    · simp only [e_upd, e_putS, e_putN, e_t, e_c, Nat.reduceEqDiff, ↓reduceIte, reduceCtorEq, Nat.reduceAdd]; first | done | rfl
  · obtain rfl : i = n := by omega
    simp (disch := omega) only [sN, ↓reduceIte, Nat.reduceEqDiff, Nat.reduceAdd, Nat.reduceMul, Nat.reduceSub, reduceCtorEq, e_none, e_some, e_bindS, h0, h3, h4, k_len hk]
    refine ret_keep (by simp) ⟨?_, rfl⟩
    simp only [e_upd, e_putS, e_putN, e_t, e_c, Nat.reduceEqDiff, ↓reduceIte, reduceCtorEq, Nat.reduceAdd]

theorem same_calls (H0 : AHeap) {v v' : AV} {n : Nat} {f : Nat → Bool} (hn : n ≤ 400) (h : Vw H0 v n f) (h' : Vw H0 v' n f) :
    ACalls Try.prog 30 [v, v'] H0 (List.range H0.length) fun w H => w = .bool true ∧ Base H0 H := by
  have hx := xorR_calls H0 hn h h'
  obtain ⟨κ, q, hk, rfl, hr⟩ := h
  obtain ⟨κ', q', hk', rfl, hr'⟩ := h'
  refine ACalls.body Try.func30 ent_same ir_same_ok rs_same_ok Try.ntmps30 (by simp) rfl ?_
  unfold ir_same
  have e0 : s0 [mkS κ q 0 n, mkS κ' q' 0 n] 0 = mkS κ q 0 n := rfl
  have e1 : s0 [mkS κ q 0 n, mkS κ' q' 0 n] 1 = mkS κ' q' 0 n := rfl
  simp (disch := omega) only [sN, ↓reduceIte, Nat.reduceEqDiff, Nat.reduceAdd, Nat.reduceMul, Nat.reduceSub, reduceCtorEq, e_none, e_some, e_bindS, e0, e1, k_len hk, k_len hk', List.map_cons, List.map_nil]
  refine ⟨_, hx.g.mono ?_⟩
  rintro w H1 ⟨hB1, hw⟩
  simp (disch := omega) only [sN, ↓reduceIte, Nat.reduceEqDiff, Nat.reduceAdd, Nat.reduceMul, Nat.reduceSub, reduceCtorEq, e_none, e_some, e_bindS, e0, e1, List.map_cons, List.map_nil]
  refine ⟨_, (countR_calls H1 hn hw).g.mono ?_⟩
  rintro w' H2 ⟨rfl, hH⟩
  rw [hH]
  simp (disch := omega) only [sN, ↓reduceIte, Nat.reduceEqDiff, Nat.reduceAdd, Nat.reduceMul, Nat.reduceSub, reduceCtorEq, e_none, e_some, e_bindS, e0, e1]
  refine ret_keep hB1.1 ?_
  simp only [rs_same, q_tmp, q_then, e_upd, e_putS, e_putN, e_t, e_c, Nat.reduceEqDiff, ↓reduceIte, reduceCtorEq, Nat.reduceAdd]
  exact ⟨trivial, hB1⟩
end Go.Proofs.Ythbhljolpnbdlaa


/- The law SiftSlots. -/
-- NEWSET
namespace Go.Proofs.Ythbhljolpnbdlaa
open Go Go.Vh

section
variable {K : St → AHeap → Prop} {d : Option Nat} {s : St} {H : AHeap}
theorem call_true6 {f : FuncId} {W : List Nat} (h : ACalls Try.prog f [] [] W fun v _ => v = .bool true) (hK : ∀ H', K (putI d s (.bool true)) (H ++ H')) : thenC Try.prog K d s H [] (.func f []) := by
  refine call_do h [] rfl rfl rfl rfl trivial ?_
  rintro v0 H0' rfl
  rw [n_bool, m_merge, m_nil]
  exact hK _
end

set_option maxHeartbeats 4000000 in
theorem lawSlots_calls {Ww : List Nat} (hw : ACalls Try.prog 11 [] [] Ww fun v _ => v = .bool true) (κ κ' κ2 : SK) (m p n : Nat) (L : List Pul) (l S : List Int) (c sh : Int) (hk : okS κ m) (hl : L.length = m) (hm : m ≤ maxLen) (hk' : okS κ' p) (hl' : l.length = p * 2) (hp : p ≤ maxLen) (hk2 : okS κ2 n) (hS : S.length = n) (hn : n ≤ maxLen) :
    ACalls Try.prog 6 [.agg [mkS κ 0 0 m, mkS κ' 1 0 p, mkS κ2 2 0 n, .int .i64 c, .int .i64 sh]] [ro (pcells L), ro (ints .i64 l), ro (ints .i64 S)] (List.range 3) fun v _ => v = .bool true := by
  refine ACalls.body Try.func6 ent_lawSlots ir_lawSlots_ok rs_lawSlots_ok Try.ntmps6 (by simp) rfl ?_
  unfold ir_lawSlots
  have e0 : s0 [.agg [mkS κ 0 0 m, mkS κ' 1 0 p, mkS κ2 2 0 n, .int .i64 c, .int .i64 sh]] 0 = .agg [mkS κ 0 0 m, mkS κ' 1 0 p, mkS κ2 2 0 n, .int .i64 c, .int .i64 sh] := rfl
  have hm' : (m : Int) ≤ 9223372036854775807 := by unfold maxLen at hm; omega
  have hp' : (p : Int) ≤ 9223372036854775807 := by unfold maxLen at hp; omega
  have hn' : (n : Int) ≤ 9223372036854775807 := by unfold maxLen at hn; omega
  simp (disch := omega) only [sN, ↓reduceIte, Nat.reduceEqDiff, Nat.reduceAdd, Nat.reduceMul, Nat.reduceSub, reduceCtorEq, e_none, e_some, e_bindS, e0]
  rw [x_boxN (l := [mkS κ 0 0 m, mkS κ' 1 0 p, mkS κ2 2 0 n, .int .i64 c, .int .i64 sh]) (by simp only [e_upd, e_putS, e_putN, e_t, e_c, Nat.reduceEqDiff, ↓reduceIte, reduceCtorEq, Nat.reduceAdd, e0]) (by simp only [List.all_cons, List.all_nil, c_mkS, Bool.true_and]; rfl)]
  obtain ⟨H1, hH1⟩ : ∃ h, h = [ro (pcells L), ro (ints .i64 l), ro (ints .i64 S)] ++ [rw_ [mkS κ 0 0 m, mkS κ' 1 0 p, mkS κ2 2 0 n, .int .i64 c, .int .i64 sh]] := ⟨_, rfl⟩
  have r0 : Vh.rowAt H1 0 = some ⟨false, false, pcells L⟩ := by rw [hH1]; simp [Vh.rowAt, ro]
  have r1 : Vh.rowAt H1 1 = some ⟨false, false, ints .i64 l⟩ := by rw [hH1]; simp [Vh.rowAt, ro]
  have r2 : Vh.rowAt H1 2 = some ⟨false, false, ints .i64 S⟩ := by rw [hH1]; simp [Vh.rowAt, ro]
  have r3 : Vh.rowAt H1 3 = some ⟨true, false, [mkS κ 0 0 m, mkS κ' 1 0 p, mkS κ2 2 0 n, .int .i64 c, .int .i64 sh]⟩ := by rw [hH1]; simp [Vh.rowAt, rw_, ro]
  have hlen : 3 ≤ H1.length := by rw [hH1]; simp
  rw [← hH1, show [ro (pcells L), ro (ints .i64 l), ro (ints .i64 S)].length = 3 from rfl]
  have big : ∀ {R : AV → AHeap → Prop}, (R = fun v _ => v = .bool true) → ∀ (s : St) (H : AHeap), 3 ≤ H.length → s 2 = .bool true → retPost 3 rs_lawSlots R .ret s H := fun hR s H h1 h2 => by
    subst hR
    refine ret_keep h1 ?_
    simp only [rs_lawSlots, q_tmp, q_then]
    exact h2
  by_cases hb : m ≤ 400
  · by_cases hb1 : p ≤ 400
    · by_cases hb2 : n ≤ 400
      · simp (disch := omega) only [sN, ↓reduceIte, Nat.reduceEqDiff, Nat.reduceAdd, Nat.reduceMul, Nat.reduceSub, reduceCtorEq, e_none, e_some, e_bindS, k_len hk, k_len hk', k_len hk2, p_fieldAddr, Nat.zero_add, r3, Option.bind_some, Option.map_some, List.getElem?_cons_zero, List.getElem?_cons_succ, List.map_cons, List.map_nil]
        refine ⟨_, (class_calls H1 hk hl hm r0 rfl hk2 hS hb2 r2 rfl).g.mono ?_⟩
        rintro v H2 ⟨w1, rfl, hB2, g1⟩
        have t3 := hB2.row r3
        simp (disch := omega) only [sN, ↓reduceIte, Nat.reduceEqDiff, Nat.reduceAdd, Nat.reduceMul, Nat.reduceSub, reduceCtorEq, e_none, e_some, e_bindS, p_fieldAddr, Nat.zero_add, t3, Option.bind_some, Option.map_some, List.getElem?_cons_zero, List.getElem?_cons_succ, List.map_cons, List.map_nil]
        refine ⟨_, (rClass_calls H2 hk hl hm (hB2.row r0) rfl hk2 hS hb2 (hB2.row r2) rfl).g.mono ?_⟩
        rintro v H3 ⟨w2, rfl, hB3, g2⟩
        have hB13 := hB2.trans hB3
        have t3 := hB13.row r3
        simp (disch := omega) only [sN, ↓reduceIte, Nat.reduceEqDiff, Nat.reduceAdd, Nat.reduceMul, Nat.reduceSub, reduceCtorEq, e_none, e_some, e_bindS, p_fieldAddr, Nat.zero_add, t3, Option.bind_some, Option.map_some, List.getElem?_cons_zero, List.getElem?_cons_succ, List.map_cons, List.map_nil]
        refine ⟨_, (sent_calls H3 hk hl hm (hB13.row r0) rfl hk2 hS hb2 (hB13.row r2) rfl).g.mono ?_⟩
        rintro v H4 ⟨w3, rfl, hB4, g3⟩
        have hB14 := hB13.trans hB4
        have t3 := hB14.row r3
        simp (disch := omega) only [sN, ↓reduceIte, Nat.reduceEqDiff, Nat.reduceAdd, Nat.reduceMul, Nat.reduceSub, reduceCtorEq, e_none, e_some, e_bindS, p_fieldAddr, Nat.zero_add, t3, Option.bind_some, Option.map_some, List.getElem?_cons_zero, List.getElem?_cons_succ, List.map_cons, List.map_nil]
        refine ⟨_, (rSent_calls H4 hk hl hm (hB14.row r0) rfl hk2 hS hb2 (hB14.row r2) rfl).g.mono ?_⟩
        rintro v H5 ⟨w4, rfl, hB5, g4⟩
        have hB15 := hB14.trans hB5
        have t3 := hB15.row r3
        simp (disch := omega) only [sN, ↓reduceIte, Nat.reduceEqDiff, Nat.reduceAdd, Nat.reduceMul, Nat.reduceSub, reduceCtorEq, e_none, e_some, e_bindS, p_fieldAddr, Nat.zero_add, t3, Option.bind_some, Option.map_some, List.getElem?_cons_zero, List.getElem?_cons_succ, List.map_cons, List.map_nil]
        refine ⟨_, (received_calls H5 hk' hl' hp (hB15.row r1) rfl hk2 hS hb2 (hB15.row r2) rfl).g.mono ?_⟩
        rintro v H6 ⟨w5, e5, rfl, he5, hB6, g5⟩
        have hB16 := hB15.trans hB6
        have t3 := hB16.row r3
        simp (disch := omega) only [sN, ↓reduceIte, Nat.reduceEqDiff, Nat.reduceAdd, Nat.reduceMul, Nat.reduceSub, reduceCtorEq, e_none, e_some, e_bindS, p_fieldAddr, Nat.zero_add, t3, Option.bind_some, Option.map_some, List.getElem?_cons_zero, List.getElem?_cons_succ, List.map_cons, List.map_nil]
        refine ⟨_, (rReceived_calls H6 hk' hl' hp (hB16.row r1) rfl hk2 hS hb2 (hB16.row r2) rfl).g.mono ?_⟩
        rintro v H7 ⟨w6, e6, rfl, he6, hB7, g6⟩
        rw [← he5] at he6
        subst he6
        have x1 : ∀ {H}, Base H7 H → ∃ k f, k ≤ 400 ∧ Vw H w3 k f ∧ Vw H w4 k f := fun {H} hB => by
          rcases g3 with ⟨hz, hM⟩ | ⟨hz, rfl⟩
          · refine ⟨n, sntF L S, hb2, (hM.vw.base (hB5.trans (hB6.trans hB7))).base hB, ((g4.vw (n := n) (f := sntF L S) ?_ ?_).base (hB6.trans hB7)).base hB⟩
            · unfold sL; rw [if_pos hz, sntL_len, hS]
            · unfold sL; rw [if_pos hz, hS]; exact sntL_bt n
          · refine ⟨0, fun _ => false, by omega, Vw.nil, ((g4.vw (n := 0) (f := fun _ => false) ?_ ?_).base (hB6.trans hB7)).base hB⟩
            · unfold sL; rw [if_neg hz]; rfl
            · unfold sL; rw [if_neg hz]; rfl
        have x2 : ∀ {H}, Base H7 H → ∃ k f, k ≤ 400 ∧ Vw H w5 k f ∧ Vw H w6 k f := fun {H} hB => by
          rcases g5 with ⟨hz, hM⟩ | ⟨hz, rfl⟩
          · refine ⟨n, rvF l S sh, hb2, (hM.vw.base hB7).base hB, (g6.vw (n := n) (f := rvF l S sh) ?_ ?_).base hB⟩
            · rw [if_pos hz, rvL_len]
            · rw [if_pos hz]; exact rvL_bt n
          · refine ⟨0, fun _ => false, by omega, Vw.nil, (g6.vw (n := 0) (f := fun _ => false) ?_ ?_).base hB⟩
            · rw [if_neg hz]; rfl
            · rw [if_neg hz]; rfl
        have hll : (cL4 L S c).length ≤ 100000 := by
          unfold cL4
          split
          · have := clsL_len (L := L) (l := S) (c := c) S.length
            omega
          · simp
        obtain ⟨E1, hE1⟩ : ∃ e, e = cE4 L S c := ⟨_, rfl⟩
        obtain ⟨E2, hE2⟩ : ∃ e, e = sE L S := ⟨_, rfl⟩
        rw [← hE1, ← hE2]
        simp (disch := omega) only [sN, ↓reduceIte, Nat.reduceEqDiff, Nat.reduceAdd, Nat.reduceMul, Nat.reduceSub, reduceCtorEq, e_none, e_some, e_bindS, List.getElem?_cons_zero, List.getElem?_cons_succ, List.map_cons, List.map_nil]
        refine ⟨_, (ints_calls H7 ((g1.base hB3).base ((hB4.trans hB5).trans (hB6.trans hB7))) (g2.base ((hB4.trans hB5).trans (hB6.trans hB7))) hll).g.mono ?_⟩
        rintro v H8 ⟨rfl, hH⟩
        rw [hH]
        obtain ⟨k1, f1, hk1, v1, v1'⟩ := x1 Base.refl
        simp (disch := omega) only [sN, ↓reduceIte, Nat.reduceEqDiff, Nat.reduceAdd, Nat.reduceMul, Nat.reduceSub, reduceCtorEq, e_none, e_some, e_bindS, List.map_cons, List.map_nil]
        refine ⟨_, (same_calls H7 hk1 v1 v1').g.mono ?_⟩
        rintro v H9 ⟨rfl, hB9⟩
        obtain ⟨k2, f2, hk2', v2, v2'⟩ := x2 hB9
        simp (disch := omega) only [sN, ↓reduceIte, Nat.reduceEqDiff, Nat.reduceAdd, Nat.reduceMul, Nat.reduceSub, reduceCtorEq, e_none, e_some, e_bindS, List.map_cons, List.map_nil]
        refine ⟨_, (same_calls H9 hk2' v2 v2').g.mono ?_⟩
        rintro v H10 ⟨rfl, hB10⟩
        have hall := ((hB16.trans hB7).trans hB9).trans hB10
        simp (disch := omega) only [sN, ↓reduceIte, Nat.reduceEqDiff, Nat.reduceAdd, Nat.reduceMul, Nat.reduceSub, reduceCtorEq, e_none, e_some, e_bindS, List.map_nil]
        refine call_true6 hw fun H' => ?_
        simp (disch := omega) only [sN, ↓reduceIte, Nat.reduceEqDiff, Nat.reduceAdd, Nat.reduceMul, Nat.reduceSub, reduceCtorEq, e_none, e_some, e_bindS]
        refine big rfl _ _ (by have := hall.1; rw [List.length_append]; omega) ?_
        simp only [e_upd, e_putS, e_putN, e_t, e_c, Nat.reduceEqDiff, ↓reduceIte, reduceCtorEq, Nat.reduceAdd]
      · simp (disch := omega) only [sN, ↓reduceIte, Nat.reduceEqDiff, Nat.reduceAdd, Nat.reduceMul, Nat.reduceSub, reduceCtorEq, e_none, e_some, e_bindS, k_len hk, k_len hk', k_len hk2, p_fieldAddr, Nat.zero_add, r3, Option.bind_some, Option.map_some, List.getElem?_cons_zero, List.getElem?_cons_succ, List.map_nil]
        refine call_true6 hw fun H' => ?_
        simp (disch := omega) only [sN, ↓reduceIte, Nat.reduceEqDiff, Nat.reduceAdd, Nat.reduceMul, Nat.reduceSub, reduceCtorEq, e_none, e_some, e_bindS]
        refine big rfl _ _ (by rw [List.length_append]; omega) ?_
        simp only [e_upd, e_putS, e_putN, e_t, e_c, Nat.reduceEqDiff, ↓reduceIte, reduceCtorEq, Nat.reduceAdd]
    · simp (disch := omega) only [sN, ↓reduceIte, Nat.reduceEqDiff, Nat.reduceAdd, Nat.reduceMul, Nat.reduceSub, reduceCtorEq, e_none, e_some, e_bindS, k_len hk, k_len hk', k_len hk2, p_fieldAddr, Nat.zero_add, r3, Option.bind_some, Option.map_some, List.getElem?_cons_zero, List.getElem?_cons_succ, List.map_nil]
      refine call_true6 hw fun H' => ?_
      simp (disch := omega) only [sN, ↓reduceIte, Nat.reduceEqDiff, Nat.reduceAdd, Nat.reduceMul, Nat.reduceSub, reduceCtorEq, e_none, e_some, e_bindS]
      refine big rfl _ _ (by rw [List.length_append]; omega) ?_
      simp only [e_upd, e_putS, e_putN, e_t, e_c, Nat.reduceEqDiff, ↓reduceIte, reduceCtorEq, Nat.reduceAdd]
  · simp (disch := omega) only [sN, ↓reduceIte, Nat.reduceEqDiff, Nat.reduceAdd, Nat.reduceMul, Nat.reduceSub, reduceCtorEq, e_none, e_some, e_bindS, k_len hk, k_len hk', k_len hk2, p_fieldAddr, Nat.zero_add, r3, Option.bind_some, Option.map_some, List.getElem?_cons_zero, List.getElem?_cons_succ, List.map_nil]
    refine call_true6 hw fun H' => ?_
    simp (disch := omega) only [sN, ↓reduceIte, Nat.reduceEqDiff, Nat.reduceAdd, Nat.reduceMul, Nat.reduceSub, reduceCtorEq, e_none, e_some, e_bindS]
    refine big rfl _ _ (by rw [List.length_append]; omega) ?_
    simp only [e_upd, e_putS, e_putN, e_t, e_c, Nat.reduceEqDiff, ↓reduceIte, reduceCtorEq, Nat.reduceAdd]
end Go.Proofs.Ythbhljolpnbdlaa

