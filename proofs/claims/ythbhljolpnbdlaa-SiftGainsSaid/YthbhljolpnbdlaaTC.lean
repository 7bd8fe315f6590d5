/- Contracts of stage 4: pulses are checked. -/
import Derived.Test.YthbhljolpnbdlaaVX
import Derived.Test.YthbhljolpnbdlaaSIr3
import Derived.Test.YthbhljolpnbdlaaTB
set_option linter.unusedSimpArgs false
set_option linter.unusedVariables false
-- NEWSET
namespace Go.Proofs.Ythbhljolpnbdlaa
open Go Go.Vh

structure Pul where
  ba : Int
  bit : Bool
  cl : Int
  ph : Int
  seen : Bool
  deriving Inhabited
def pcell (p : Pul) : List AV := [.int .i64 p.ba, .bool p.bit, .int .i64 p.cl, .int .i64 p.ph, .bool p.seen]
def pcells (L : List Pul) : List AV := L.flatMap pcell
theorem pcell_len {p : Pul} : (pcell p).length = 5 := rfl
theorem pcell_cell {p : Pul} : (pcell p).all AV.cell = true := rfl
theorem pcells_len : ∀ {L : List Pul}, (pcells L).length = L.length * 5
  | [] => rfl
  | p :: L => by
    have := pcells_len (L := L)
    simp only [pcells, List.flatMap_cons, List.length_append, List.length_cons, pcell_len] at this ⊢
    omega
theorem pulse_at : ∀ {L : List Pul} {i : Nat}, i < L.length → ((pcells L).drop (i * 5)).take 5 = pcell (L.getD i default) ∧ i * 5 + 5 ≤ (pcells L).length
  | [], i, h => by simp at h
  | p :: L, 0, h => by
    refine ⟨?_, by rw [pcells_len, List.length_cons]; omega⟩
    simp only [pcells, List.flatMap_cons, Nat.zero_mul, List.drop_zero, List.getD_cons_zero]
    exact List.take_left' pcell_len
  | p :: L, i + 1, h => by
    have h' : i < L.length := by simpa using h
    obtain ⟨h1, h2⟩ := pulse_at h'
    refine ⟨?_, by rw [pcells_len] at *; simp; omega⟩
    rw [show (i + 1) * 5 = 5 + i * 5 by omega, ← List.drop_drop]
    simp only [pcells, List.flatMap_cons, List.getD_cons_succ]
    rw [List.drop_left' pcell_len]
    exact h1
theorem pulse_get {L : List Pul} {i j : Nat} (h : i < L.length) (hj : j < 5) : (pcells L)[i * 5 + j]? = (pcell (L.getD i default))[j]? := by
  rw [← (pulse_at h).1, List.getElem?_take, List.getElem?_drop, if_pos hj]

def okP (p : Pul) : Bool := decide ((p.ba = 0 ∨ p.ba = 1) ∧ (0 ≤ p.cl ∧ p.cl ≤ 2) ∧ 0 ≤ p.ph ∧ p.ph ≤ 3)
def pE (L : List Pul) : Int := if L.length ≤ 4096 then (if L.all okP then 0 else 2) else 5
theorem okPs_true {L : List Pul} (h : ∀ i, i < L.length → okP (L.getD i default) = true) : L.all okP = true := by
  rw [List.all_eq_true]
  intro p hp
  obtain ⟨i, hi, rfl⟩ := List.getElem_of_mem hp
  have := h i hi
  rwa [List.getD_eq_getElem?_getD, List.getElem?_eq_getElem hi, Option.getD_some] at this
theorem okPs_false {L : List Pul} {i : Nat} (hi : i < L.length) (h : okP (L.getD i default) = false) : L.all okP = false := by
  rw [List.all_eq_false]
  rw [List.getD_eq_getElem?_getD, List.getElem?_eq_getElem hi, Option.getD_some] at h
  exact ⟨_, List.getElem_mem hi, by simp [h]⟩

theorem arePhotons_calls (H0 : AHeap) (n : Int) : ACalls Try.prog 128 [.int .i64 n] H0 (List.range H0.length) fun v H => v = .bool (decide (0 ≤ n ∧ n ≤ 3)) ∧ H = H0 := by
  refine ACalls.body Try.func128 ent_arePhotons ir_arePhotons_ok rs_arePhotons_ok Try.ntmps128 (by simp) rfl ?_
  unfold ir_arePhotons
  have e0 : s0 [.int .i64 n] 0 = .int .i64 n := rfl
  by_cases h0 : 0 ≤ n
  · by_cases h1 : n ≤ 3
    · simp (disch := omega) only [sN, ↓reduceIte, Nat.reduceEqDiff, Nat.reduceAdd, Nat.reduceMul, Nat.reduceSub, reduceCtorEq, e_none, e_some, e_bindS, e0]
      refine ret_keep (by simp) ⟨?_, rfl⟩
      simp only [e_upd, e_putS, e_putN, e_t, e_c, Nat.reduceEqDiff, ↓reduceIte, reduceCtorEq, Nat.reduceAdd]; try simp [h0, h1]
    · simp (disch := omega) only [sN, ↓reduceIte, Nat.reduceEqDiff, Nat.reduceAdd, Nat.reduceMul, Nat.reduceSub, reduceCtorEq, e_none, e_some, e_bindS, e0]
      refine ret_keep (by simp) ⟨?_, rfl⟩
      simp only [e_upd, e_putS, e_putN, e_t, e_c, Nat.reduceEqDiff, ↓reduceIte, reduceCtorEq, Nat.reduceAdd]; try simp [h0, h1]
  · simp (disch := omega) only [sN, ↓reduceIte, Nat.reduceEqDiff, Nat.reduceAdd, Nat.reduceMul, Nat.reduceSub, reduceCtorEq, e_none, e_some, e_bindS, e0]
    refine ret_keep (by simp) ⟨?_, rfl⟩
    simp only [e_upd, e_putS, e_putN, e_t, e_c, Nat.reduceEqDiff, ↓reduceIte, reduceCtorEq, Nat.reduceAdd]; try simp [h0]

theorem isPulse_calls (H0 : AHeap) (p : Pul) : ACalls Try.prog 85 [.agg (pcell p)] H0 (List.range H0.length) fun v H => v = .bool (okP p) ∧ Base H0 H := by
  refine ACalls.body Try.func85 ent_isPulse ir_isPulse_ok rs_isPulse_ok Try.ntmps85 (by simp) rfl ?_
  unfold ir_isPulse
  have e0 : s0 [.agg (pcell p)] 0 = .agg (pcell p) := rfl
  simp (disch := omega) only [sN, ↓reduceIte, Nat.reduceEqDiff, Nat.reduceAdd, Nat.reduceMul, Nat.reduceSub, reduceCtorEq, e_none, e_some, e_bindS, e0]
  rw [x_boxN (l := pcell p) (by simp only [e_upd, e_putS, e_putN, e_t, e_c, Nat.reduceEqDiff, ↓reduceIte, reduceCtorEq, Nat.reduceAdd, e0]) pcell_cell]
  obtain ⟨b, bit, c, k, sn⟩ := p
  have hr : Vh.rowAt (H0 ++ [rw_ (pcell ⟨b, bit, c, k, sn⟩)]) H0.length = some ⟨true, false, [.int .i64 b, .bool bit, .int .i64 c, .int .i64 k, .bool sn]⟩ := by simp [Vh.rowAt, rw_, pcell]
  obtain ⟨H1, hH1⟩ : ∃ h, h = H0 ++ [rw_ (pcell ⟨b, bit, c, k, sn⟩)] := ⟨_, rfl⟩
  have hB : Base H0 H1 := by rw [hH1]; exact Base.one
  rw [← hH1] at hr ⊢
  simp (disch := omega) only [sN, ↓reduceIte, Nat.reduceEqDiff, Nat.reduceAdd, Nat.reduceMul, Nat.reduceSub, reduceCtorEq, e_none, e_some, e_bindS, p_fieldAddr, Nat.zero_add, hr, Option.bind_some, Option.map_some, List.getElem?_cons_zero, List.getElem?_cons_succ, List.map_cons, List.map_nil]
  refine ⟨_, (isBasis_calls _ b).g.mono ?_⟩
  rintro v H ⟨rfl, hH⟩
  rw [hH]
  have fin : ∀ x : Bool, okP ⟨b, bit, c, k, sn⟩ = x → (AV.bool x = .bool (okP ⟨b, bit, c, k, sn⟩) ∧ Base H0 H1) := fun x hx => ⟨by rw [hx], hB⟩
  by_cases hb : b = 0 ∨ b = 1
  · rw [decide_eq_true hb]
    by_cases h0 : 0 ≤ c
    · by_cases h3 : c ≤ 2
      · simp (disch := omega) only [sN, ↓reduceIte, Nat.reduceEqDiff, Nat.reduceAdd, Nat.reduceMul, Nat.reduceSub, reduceCtorEq, e_none, e_some, e_bindS, p_fieldAddr, Nat.zero_add, hr, Option.bind_some, Option.map_some, List.getElem?_cons_zero, List.getElem?_cons_succ, List.map_cons, List.map_nil]
        refine ⟨_, (arePhotons_calls _ k).g.mono ?_⟩
        rintro v H ⟨rfl, hH⟩
        rw [hH]
        simp (disch := omega) only [sN, ↓reduceIte, Nat.reduceEqDiff, Nat.reduceAdd, Nat.reduceMul, Nat.reduceSub, reduceCtorEq, e_none, e_some, e_bindS]
        refine ret_keep hB.1 ?_
        simp only [rs_isPulse, q_tmp, q_then, e_upd, e_putS, e_putN, e_t, e_c, Nat.reduceEqDiff, ↓reduceIte, reduceCtorEq, Nat.reduceAdd]
        exact fin _ (by simp [okP, hb, h0, h3])
      · simp (disch := omega) only [sN, ↓reduceIte, Nat.reduceEqDiff, Nat.reduceAdd, Nat.reduceMul, Nat.reduceSub, reduceCtorEq, e_none, e_some, e_bindS, p_fieldAddr, Nat.zero_add, hr, Option.bind_some, Option.map_some, List.getElem?_cons_zero, List.getElem?_cons_succ]
        refine ret_keep hB.1 ?_
        simp only [rs_isPulse, q_tmp, q_then, e_upd, e_putS, e_putN, e_t, e_c, Nat.reduceEqDiff, ↓reduceIte, reduceCtorEq, Nat.reduceAdd]
        exact fin _ (by simp [okP, hb, h0, h3])
    · simp (disch := omega) only [sN, ↓reduceIte, Nat.reduceEqDiff, Nat.reduceAdd, Nat.reduceMul, Nat.reduceSub, reduceCtorEq, e_none, e_some, e_bindS, p_fieldAddr, Nat.zero_add, hr, Option.bind_some, Option.map_some, List.getElem?_cons_zero, List.getElem?_cons_succ]
      refine ret_keep hB.1 ?_
      simp only [rs_isPulse, q_tmp, q_then, e_upd, e_putS, e_putN, e_t, e_c, Nat.reduceEqDiff, ↓reduceIte, reduceCtorEq, Nat.reduceAdd]
      exact fin _ (by simp [okP, hb, h0])
  · rw [decide_eq_false hb]
    simp (disch := omega) only [sN, ↓reduceIte, Nat.reduceEqDiff, Nat.reduceAdd, Nat.reduceMul, Nat.reduceSub, reduceCtorEq, e_none, e_some, e_bindS, p_fieldAddr, Nat.zero_add, hr, Option.bind_some, Option.map_some, List.getElem?_cons_zero, List.getElem?_cons_succ]
    refine ret_keep hB.1 ?_
    simp only [rs_isPulse, q_tmp, q_then, e_upd, e_putS, e_putN, e_t, e_c, Nat.reduceEqDiff, ↓reduceIte, reduceCtorEq, Nat.reduceAdd]
    exact fin _ (by simp [okP, hb])
end Go.Proofs.Ythbhljolpnbdlaa


/- Contracts of stage 4: lists of pulses are checked. -/
-- NEWSET
namespace Go.Proofs.Ythbhljolpnbdlaa
open Go Go.Vh

theorem k_idx5 {κ : SK} {N n r off : Nat} {k : IntKind} {x : Int} (hk : okS κ N) (h : n ≤ N) (h0 : 0 ≤ x) (h1 : x < n) : aindexAddr 5 (mkS κ r off n) (.int k x) = some (.ptr r (off + x.toNat * 5)) := by
  cases κ with
  | nil => simp only [okS] at hk; omega
  | cap c => simp [mkS, aindexAddr, h0, h1]
  | u => simp [mkS, aindexAddr, h0, h1]

set_option maxHeartbeats 1000000 in
theorem allPs_calls (H0 : AHeap) {κ : SK} {n r : Nat} {L : List Pul} {row : ARow} (hk : okS κ n) (hl : L.length = n) (hn : n ≤ 4096) (hr : Vh.rowAt H0 r = some row) (hc : row.cells = pcells L) :
    ACalls Try.prog 84 [mkS κ r 0 n, .func 85 []] H0 (List.range H0.length) fun v H => v = .bool (L.all okP) ∧ Base H0 H := by
  refine ACalls.body Try.func84 ent_allP ir_allP_ok rs_allP_ok Try.ntmps84 (by simp) rfl ?_
  unfold ir_allP
  have e0 : s0 [mkS κ r 0 n, .func 85 []] 0 = mkS κ r 0 n := rfl
  have e1 : s0 [mkS κ r 0 n, .func 85 []] 1 = .func 85 [] := rfl
  have hz : [AV.int .i64 0, AV.bool false, AV.int .i64 0, AV.int .i64 0, AV.bool false].all AV.cell = true := rfl
  simp (disch := omega) only [sN, ↓reduceIte, Nat.reduceEqDiff, Nat.reduceAdd, Nat.reduceMul, Nat.reduceSub, reduceCtorEq, e_none, e_some, e_bindS, e0, e1, k_len hk]
  refine ⟨fun t s H => ∃ i : Nat, t = n - i ∧ i ≤ n ∧ (∀ j, j < i → okP (L.getD j default) = true) ∧ Base H0 H ∧ s 1 = .func 85 [] ∧ s 7 = mkS κ r 0 n ∧ s 8 = .int .i64 n ∧ s 9 = .int .i64 (i : Int), n, ⟨0, rfl, by omega, fun j h => by omega, Base.refl, ?_, ?_, ?_, ?_⟩, ?_⟩
  · simp only [e_upd, e_putS, e_putN, e_t, e_c, Nat.reduceEqDiff, ↓reduceIte, reduceCtorEq, Nat.reduceAdd, e1]
  · simp only [e_upd, e_putS, e_putN, e_t, e_c, Nat.reduceEqDiff, ↓reduceIte, reduceCtorEq, Nat.reduceAdd]
  · simp only [e_upd, e_putS, e_putN, e_t, e_c, Nat.reduceEqDiff, ↓reduceIte, reduceCtorEq, Nat.reduceAdd]
  · simp only [e_upd, e_putS, e_putN, e_t, e_c, Nat.reduceEqDiff, ↓reduceIte, reduceCtorEq, Nat.reduceAdd]; rfl
  rintro t s H ⟨i, rfl, hi, hS, hB, h1, h7, h8, h9⟩
  by_cases hlt : i < n
  · obtain ⟨c1, c2⟩ := pulse_at (L := L) (i := i) (by omega)
    obtain ⟨p, hp⟩ : ∃ p, p = L.getD i default := ⟨_, rfl⟩
    rw [← hp] at c1
    have hrH := hB.row hr
    have ia : aindexAddr 5 (mkS κ r 0 n) (.int .i64 (i : Int)) = some (.ptr r (i * 5)) := by
      rw [k_idx5 hk (Nat.le_refl n) (by omega) (by omega)]; simp
    simp (disch := omega) only [sN, ↓reduceIte, Nat.reduceEqDiff, Nat.reduceAdd, Nat.reduceMul, Nat.reduceSub, reduceCtorEq, e_none, e_some, e_bindS, h1, h7, h8, h9, ia]
    rw [x_loadNO (n := 5) (r := r) (off := i * 5) (l := pcell p) (by simp only [e_upd, e_putS, e_putN, e_t, e_c, Nat.reduceEqDiff, ↓reduceIte, reduceCtorEq, Nat.reduceAdd]) hrH (by rw [hc]; exact c1) (by rw [hc]; exact c2)]
    simp (disch := omega) only [sN, ↓reduceIte, Nat.reduceEqDiff, Nat.reduceAdd, Nat.reduceMul, Nat.reduceSub, reduceCtorEq, e_none, e_some, e_bindS, h1, h7, h8, h9]
    rw [x_allocA hz]
    simp (disch := omega) only [sN, ↓reduceIte, Nat.reduceEqDiff, Nat.reduceAdd, Nat.reduceMul, Nat.reduceSub, reduceCtorEq, e_none, e_some, e_bindS, h1, h7, h8, h9]
    rw [x_storeNA (n := 5) (r := H.length) (l := [.int .i64 0, .bool false, .int .i64 0, .int .i64 0, .bool false]) (l' := pcell p) (by simp only [e_upd, e_putS, e_putN, e_t, e_c, Nat.reduceEqDiff, ↓reduceIte, reduceCtorEq, Nat.reduceAdd]) (by simp only [e_upd, e_putS, e_putN, e_t, e_c, Nat.reduceEqDiff, ↓reduceIte, reduceCtorEq, Nat.reduceAdd]) pcell_cell (by simp [Vh.rowAt, rw_]) rfl rfl]
    rw [set_last]
    have hb : Vh.rowAt (H ++ [rw_ (pcell p)]) H.length = some ⟨true, false, pcell p⟩ := by simp [Vh.rowAt, rw_]
    simp (disch := omega) only [sN, ↓reduceIte, Nat.reduceEqDiff, Nat.reduceAdd, Nat.reduceMul, Nat.reduceSub, reduceCtorEq, e_none, e_some, e_bindS, h1, h7, h8, h9]
    rw [x_loadNA (n := 5) (r := H.length) (l := pcell p) (by simp only [e_upd, e_putS, e_putN, e_t, e_c, Nat.reduceEqDiff, ↓reduceIte, reduceCtorEq, Nat.reduceAdd]) hb rfl rfl]
    simp (disch := omega) only [sN, ↓reduceIte, Nat.reduceEqDiff, Nat.reduceAdd, Nat.reduceMul, Nat.reduceSub, reduceCtorEq, e_none, e_some, e_bindS, h1, h7, h8, h9, List.map_cons, List.map_nil]
    refine ⟨_, (isPulse_calls _ p).g.mono ?_⟩
    rintro v H' ⟨rfl, hB'⟩
    have hB2 := hB.app.trans hB'
    cases hok : okP p
    · simp (disch := omega) only [sN, ↓reduceIte, Nat.reduceEqDiff, Nat.reduceAdd, Nat.reduceMul, Nat.reduceSub, reduceCtorEq, e_none, e_some, e_bindS, h1, h7, h8, h9]
      refine ret_keep hB2.1 ⟨?_, hB2⟩
      simp only [e_upd, e_putS, e_putN, e_t, e_c, Nat.reduceEqDiff, ↓reduceIte, reduceCtorEq, Nat.reduceAdd, okPs_false (show i < L.length by omega) (by rw [← hp]; exact hok)]
    · simp (disch := omega) only [sN, ↓reduceIte, Nat.reduceEqDiff, Nat.reduceAdd, Nat.reduceMul, Nat.reduceSub, reduceCtorEq, e_none, e_some, e_bindS, h1, h7, h8, h9]
      refine loop_keep (m := n - (i + 1)) (by omega) ⟨i + 1, rfl, by omega, fun j hj => ?_, hB2, ?_, ?_, ?_, ?_⟩
      · rcases Nat.lt_or_ge j i with h | h
        · exact hS j h
        · obtain rfl : j = i := by omega
          rw [← hp]; exact hok
      · simp only [e_upd, e_putS, e_putN, e_t, e_c, Nat.reduceEqDiff, ↓reduceIte, reduceCtorEq, Nat.reduceAdd, h1]
      · simp only [e_upd, e_putS, e_putN, e_t, e_c, Nat.reduceEqDiff, ↓reduceIte, reduceCtorEq, Nat.reduceAdd, h7]
      · simp only [e_upd, e_putS, e_putN, e_t, e_c, Nat.reduceEqDiff, ↓reduceIte, reduceCtorEq, Nat.reduceAdd, h8]
      · simp only [e_upd, e_putS, e_putN, e_t, e_c, Nat.reduceEqDiff, ↓reduceIte, reduceCtorEq, Nat.reduceAdd]; first | done | rfl
  · obtain rfl : i = n := by omega
    simp (disch := omega) only [sN, ↓reduceIte, Nat.reduceEqDiff, Nat.reduceAdd, Nat.reduceMul, Nat.reduceSub, reduceCtorEq, e_none, e_some, e_bindS, h1, h7, h8, h9]
    refine ret_keep hB.1 ⟨?_, hB⟩
    simp only [e_upd, e_putS, e_putN, e_t, e_c, Nat.reduceEqDiff, ↓reduceIte, reduceCtorEq, Nat.reduceAdd, okPs_true (fun j hj => hS j (by omega))]

theorem allC0_calls (H0 : AHeap) : ACalls Try.prog 86 [.nilslice, .func 87 []] H0 (List.range H0.length) fun v H => v = .bool true ∧ Base H0 H := by
  refine ACalls.body Try.func86 ent_allC ir_allC_ok rs_allC_ok Try.ntmps86 (by simp) rfl ?_
  unfold ir_allC
  have e0 : s0 [.nilslice, .func 87 []] 0 = .nilslice := rfl
  simp (disch := omega) only [sN, ↓reduceIte, Nat.reduceEqDiff, Nat.reduceAdd, Nat.reduceMul, Nat.reduceSub, reduceCtorEq, e_none, e_some, e_bindS, e0]
  refine ⟨fun t s H => Base H0 H ∧ s 8 = .int .i64 0 ∧ s 9 = .int .i64 0, 0, ⟨Base.refl, ?_, ?_⟩, ?_⟩
  · simp only [e_upd, e_putS, e_putN, e_t, e_c, Nat.reduceEqDiff, ↓reduceIte, reduceCtorEq, Nat.reduceAdd]; try rfl
  · simp only [e_upd, e_putS, e_putN, e_t, e_c, Nat.reduceEqDiff, ↓reduceIte, reduceCtorEq, Nat.reduceAdd]
  rintro t s H ⟨hB, h8, h9⟩
  simp (disch := omega) only [sN, ↓reduceIte, Nat.reduceEqDiff, Nat.reduceAdd, Nat.reduceMul, Nat.reduceSub, reduceCtorEq, e_none, e_some, e_bindS, h8, h9]
  refine ret_keep hB.1 ⟨?_, hB⟩
  simp only [e_upd, e_putS, e_putN, e_t, e_c, Nat.reduceEqDiff, ↓reduceIte, reduceCtorEq, Nat.reduceAdd]

set_option maxHeartbeats 1000000 in
theorem agreeP_calls (H0 : AHeap) {κ : SK} {n r : Nat} {L : List Pul} {row : ARow} (hk : okS κ n) (hl : L.length = n) (hn : n ≤ maxLen) (hr : Vh.rowAt H0 r = some row) (hc : row.cells = pcells L) :
    ACalls Try.prog 47 [mkS κ r 0 n, .nilslice, .int .i64 0] H0 (List.range H0.length) fun v H => (∃ a b, v = .tuple [a, b, .int .i64 (pE L)]) ∧ Base H0 H := by
  refine ACalls.body Try.func47 ent_agreeF ir_agreeF_ok rs_agreeF_ok Try.ntmps47 (by simp) rfl ?_
  unfold ir_agreeF
  have e0 : s0 [mkS κ r 0 n, .nilslice, .int .i64 0] 0 = mkS κ r 0 n := rfl
  have e1 : s0 [mkS κ r 0 n, .nilslice, .int .i64 0] 1 = .nilslice := rfl
  have e2 : s0 [mkS κ r 0 n, .nilslice, .int .i64 0] 2 = .int .i64 0 := rfl
  have hz : [AV.int .i64 0, AV.bool false, AV.int .i64 0, AV.int .i64 0, AV.bool false].all AV.cell = true := rfl
  have hn' : (n : Int) ≤ 9223372036854775807 := by unfold maxLen at hn; omega
  simp (disch := omega) only [sN, ↓reduceIte, Nat.reduceEqDiff, Nat.reduceAdd, Nat.reduceMul, Nat.reduceSub, reduceCtorEq, e_none, e_some, e_bindS, e0, e1, e2, List.map_cons, List.map_nil]
  refine ⟨_, (isShift_calls _ 0).g.mono ?_⟩
  rintro v H ⟨rfl, hH⟩
  rw [hH]
  rw [show decide ((-16 : Int) ≤ 0 ∧ (0 : Int) ≤ 16) = true from rfl]
  by_cases hb : n ≤ 4096
  · simp (disch := omega) only [sN, ↓reduceIte, Nat.reduceEqDiff, Nat.reduceAdd, Nat.reduceMul, Nat.reduceSub, reduceCtorEq, e_none, e_some, e_bindS, e0, e1, e2, k_len hk, List.map_cons, List.map_nil]
    refine ⟨_, (allPs_calls H0 hk hl hb hr hc).g.mono ?_⟩
    rintro v H1 ⟨rfl, hB1⟩
    cases hok : L.all okP
    · have hce : pE L = 2 := by simp [pE, hl, hb, hok]
      rw [hce]
      simp (disch := omega) only [sN, ↓reduceIte, Nat.reduceEqDiff, Nat.reduceAdd, Nat.reduceMul, Nat.reduceSub, reduceCtorEq, e_none, e_some, e_bindS, e0, e1, e2]
      refine ret_keep hB1.1 ?_
      rw [show rs_agreeF = [.tmp 6, .tmp 7, .tmp 8] from rfl]
      refine ⟨⟨.nilslice, .nilslice, ?_⟩, hB1⟩
      show AV.tuple [_, _, _] = _
      simp only [e_upd, e_putS, e_putN, e_t, e_c, Nat.reduceEqDiff, ↓reduceIte, reduceCtorEq, Nat.reduceAdd]
    · have hce : pE L = 0 := by simp [pE, hl, hb, hok]
      rw [hce]
      simp (disch := omega) only [sN, ↓reduceIte, Nat.reduceEqDiff, Nat.reduceAdd, Nat.reduceMul, Nat.reduceSub, reduceCtorEq, e_none, e_some, e_bindS, e0, e1, e2, List.map_cons, List.map_nil]
      refine ⟨_, (allC0_calls H1).g.mono ?_⟩
      rintro v H2 ⟨rfl, hB2⟩
      have hB := hB1.trans hB2
      simp (disch := omega) only [sN, ↓reduceIte, Nat.reduceEqDiff, Nat.reduceAdd, Nat.reduceMul, Nat.reduceSub, reduceCtorEq, e_none, e_some, e_bindS, e0, e1, e2, k_len hk]
      refine ⟨fun t s H => ∃ i : Nat, t = n - i ∧ i ≤ n ∧ Base H0 H ∧ s 1 = .nilslice ∧ s 2 = .int .i64 0 ∧ s 36 = mkS κ r 0 n ∧ s 37 = .int .i64 n ∧ s 38 = .int .i64 (i : Int), n, ⟨0, rfl, by omega, hB, ?_, ?_, ?_, ?_, ?_⟩, ?_⟩
      · simp only [e_upd, e_putS, e_putN, e_t, e_c, Nat.reduceEqDiff, ↓reduceIte, reduceCtorEq, Nat.reduceAdd, e1]
      · simp only [e_upd, e_putS, e_putN, e_t, e_c, Nat.reduceEqDiff, ↓reduceIte, reduceCtorEq, Nat.reduceAdd, e2]
      · simp only [e_upd, e_putS, e_putN, e_t, e_c, Nat.reduceEqDiff, ↓reduceIte, reduceCtorEq, Nat.reduceAdd]
      · simp only [e_upd, e_putS, e_putN, e_t, e_c, Nat.reduceEqDiff, ↓reduceIte, reduceCtorEq, Nat.reduceAdd]
      · simp only [e_upd, e_putS, e_putN, e_t, e_c, Nat.reduceEqDiff, ↓reduceIte, reduceCtorEq, Nat.reduceAdd]; rfl
      rintro t s H ⟨i, rfl, hi, hB, h1, h2, h36, h37, h38⟩
      by_cases hlt : i < n
      · obtain ⟨c1, c2⟩ := pulse_at (L := L) (i := i) (by omega)
        obtain ⟨p, hp⟩ : ∃ p, p = L.getD i default := ⟨_, rfl⟩
        rw [← hp] at c1
        have hrH := hB.row hr
        have ia : aindexAddr 5 (mkS κ r 0 n) (.int .i64 (i : Int)) = some (.ptr r (i * 5)) := by
          rw [k_idx5 hk (Nat.le_refl n) (by omega) (by omega)]; simp
        simp (disch := omega) only [sN, ↓reduceIte, Nat.reduceEqDiff, Nat.reduceAdd, Nat.reduceMul, Nat.reduceSub, reduceCtorEq, e_none, e_some, e_bindS, h1, h2, h36, h37, h38, ia]
        rw [x_loadNO (n := 5) (r := r) (off := i * 5) (l := pcell p) (by simp only [e_upd, e_putS, e_putN, e_t, e_c, Nat.reduceEqDiff, ↓reduceIte, reduceCtorEq, Nat.reduceAdd]) hrH (by rw [hc]; exact c1) (by rw [hc]; exact c2)]
        simp (disch := omega) only [sN, ↓reduceIte, Nat.reduceEqDiff, Nat.reduceAdd, Nat.reduceMul, Nat.reduceSub, reduceCtorEq, e_none, e_some, e_bindS, h1, h2, h36, h37, h38]
        rw [x_allocA hz]
        simp (disch := omega) only [sN, ↓reduceIte, Nat.reduceEqDiff, Nat.reduceAdd, Nat.reduceMul, Nat.reduceSub, reduceCtorEq, e_none, e_some, e_bindS, h1, h2, h36, h37, h38]
        rw [x_storeNA (n := 5) (r := H.length) (l := [.int .i64 0, .bool false, .int .i64 0, .int .i64 0, .bool false]) (l' := pcell p) (by simp only [e_upd, e_putS, e_putN, e_t, e_c, Nat.reduceEqDiff, ↓reduceIte, reduceCtorEq, Nat.reduceAdd]) (by simp only [e_upd, e_putS, e_putN, e_t, e_c, Nat.reduceEqDiff, ↓reduceIte, reduceCtorEq, Nat.reduceAdd]) pcell_cell (by simp [Vh.rowAt, rw_]) rfl rfl]
        rw [set_last]
        simp (disch := omega) only [sN, ↓reduceIte, Nat.reduceEqDiff, Nat.reduceAdd, Nat.reduceMul, Nat.reduceSub, reduceCtorEq, e_none, e_some, e_bindS, h1, h2, h36, h37, h38]
        refine loop_keep (m := n - (i + 1)) (by omega) ⟨i + 1, rfl, by omega, hB.app, ?_, ?_, ?_, ?_, ?_⟩
        · simp only [e_upd, e_putS, e_putN, e_t, e_c, Nat.reduceEqDiff, ↓reduceIte, reduceCtorEq, Nat.reduceAdd, h1]
        · simp only [e_upd, e_putS, e_putN, e_t, e_c, Nat.reduceEqDiff, ↓reduceIte, reduceCtorEq, Nat.reduceAdd, h2]
        · simp only [e_upd, e_putS, e_putN, e_t, e_c, Nat.reduceEqDiff, ↓reduceIte, reduceCtorEq, Nat.reduceAdd, h36]
        · simp only [e_upd, e_putS, e_putN, e_t, e_c, Nat.reduceEqDiff, ↓reduceIte, reduceCtorEq, Nat.reduceAdd, h37]
        · simp only [e_upd, e_putS, e_putN, e_t, e_c, Nat.reduceEqDiff, ↓reduceIte, reduceCtorEq, Nat.reduceAdd]; first | done | rfl
      · obtain rfl : i = n := by omega
        simp (disch := omega) only [sN, ↓reduceIte, Nat.reduceEqDiff, Nat.reduceAdd, Nat.reduceMul, Nat.reduceSub, reduceCtorEq, e_none, e_some, e_bindS, h36, h37, h38]
        refine ret_keep hB.1 ?_
        rw [show rs_agreeF = [.tmp 6, .tmp 7, .tmp 8] from rfl]
        refine ⟨⟨s 9, s 10, ?_⟩, hB⟩
        show AV.tuple [_, _, _] = _
        simp only [e_upd, e_putS, e_putN, e_t, e_c, Nat.reduceEqDiff, ↓reduceIte, reduceCtorEq, Nat.reduceAdd]
  · have hce : pE L = 5 := by simp [pE, hl, hb]
    rw [hce]
    simp (disch := omega) only [sN, ↓reduceIte, Nat.reduceEqDiff, Nat.reduceAdd, Nat.reduceMul, Nat.reduceSub, reduceCtorEq, e_none, e_some, e_bindS, e0, e1, e2, k_len hk]
    refine ret_keep (by simp) ?_
    rw [show rs_agreeF = [.tmp 6, .tmp 7, .tmp 8] from rfl]
    refine ⟨⟨.nilslice, .nilslice, ?_⟩, Base.refl⟩
    show AV.tuple [_, _, _] = _
    simp only [e_upd, e_putS, e_putN, e_t, e_c, Nat.reduceEqDiff, ↓reduceIte, reduceCtorEq, Nat.reduceAdd]

theorem checkPulses_calls (H0 : AHeap) {κ : SK} {n r : Nat} {L : List Pul} {row : ARow} (hk : okS κ n) (hl : L.length = n) (hn : n ≤ maxLen) (hr : Vh.rowAt H0 r = some row) (hc : row.cells = pcells L) :
    ACalls Try.prog 45 [mkS κ r 0 n] H0 (List.range H0.length) fun v H => v = .int .i64 (pE L) ∧ Base H0 H := by
  refine ACalls.body Try.func45 ent_checkPulses ir_checkPulses_ok rs_checkPulses_ok Try.ntmps45 (by simp) rfl ?_
  unfold ir_checkPulses
  have e0 : s0 [mkS κ r 0 n] 0 = mkS κ r 0 n := rfl
  simp (disch := omega) only [sN, ↓reduceIte, Nat.reduceEqDiff, Nat.reduceAdd, Nat.reduceMul, Nat.reduceSub, reduceCtorEq, e_none, e_some, e_bindS, e0, List.map_cons, List.map_nil]
  refine ⟨_, (agreeP_calls H0 hk hl hn hr hc).g.mono ?_⟩
  rintro v H ⟨⟨a, b, rfl⟩, hB⟩
  simp (disch := omega) only [sN, ↓reduceIte, Nat.reduceEqDiff, Nat.reduceAdd, Nat.reduceMul, Nat.reduceSub, reduceCtorEq, e_none, e_some, e_bindS, e0, List.getElem?_cons_zero, List.getElem?_cons_succ]
  refine ret_keep hB.1 ⟨?_, hB⟩
  simp only [e_upd, e_putS, e_putN, e_t, e_c, Nat.reduceEqDiff, ↓reduceIte, reduceCtorEq, Nat.reduceAdd]
end Go.Proofs.Ythbhljolpnbdlaa

