/- Contracts of stage 4: the receiver's bits. -/
import Derived.Test.YthbhljolpnbdlaaVX
import Derived.Test.YthbhljolpnbdlaaTH
set_option linter.unusedSimpArgs false
set_option linter.unusedVariables false
-- NEWSET
namespace Go.Proofs.Ythbhljolpnbdlaa
open Go Go.Vh

theorem p_negv4 {s : St} {x : Opd} {a : Int} (h1 : evo s x = .int .i64 a) (h2 : -9223372036854775808 ≤ -a ∧ -a ≤ 9223372036854775807) : ipure (.neg x) s = some (.int .i64 (-a)) := by
  have h3 : (IntKind.i64).wrap (0 - a) = -a := by
    simp [IntKind.wrap, IntKind.signed, IntKind.bits]
    omega
  simp only [ipure, h1, h3]
  try simp [h3]
def lo0 (sh : Int) : Int := if -sh > 0 then -sh else 0
/-- the kind of the click of the i-th slot -/
def rvK (l S : List Int) (sh : Int) (i : Nat) : Int := ck l (S.getD i 0 + sh).toNat
def okK (k : Int) : Bool := decide (k = 1 ∨ k = 2)
def bE (l : List Int) (m : Nat) (S : List Int) (sh : Int) : Int := fst0 [cE l m, if -16 ≤ sh ∧ sh ≤ 16 then 0 else 3, gE S (lo0 sh) (m - sh) S.length]
def rvE (l : List Int) (m : Nat) (S : List Int) (sh : Int) : Int := if bE l m S sh = 0 then (if (List.range S.length).all (fun i => okK (rvK l S sh i)) then 0 else 9) else bE l m S sh
def rvF (l S : List Int) (sh : Int) (i : Nat) : Bool := decide (rvK l S sh i = 2)
theorem rv_all {l S : List Int} {sh : Int} {n : Nat} (h : ∀ j, j < n → okK (rvK l S sh j) = true) : (List.range n).all (fun i => okK (rvK l S sh i)) = true := by
  simp only [List.all_eq_true, List.mem_range]; exact h
theorem rv_not {l S : List Int} {sh : Int} {n i : Nat} (hi : i < n) (h : okK (rvK l S sh i) = false) : (List.range n).all (fun i => okK (rvK l S sh i)) = false := by
  simp only [List.all_eq_false, List.mem_range]; exact ⟨i, hi, by simp [h]⟩
theorem cE_zero {l : List Int} {m : Nat} (h : cE l m = 0) : m ≤ 4096 := by
  unfold cE at h
  split at h
  · omega
  · omega

set_option maxHeartbeats 4000000 in
theorem received_calls (H0 : AHeap) {κ κ' : SK} {n m r r' : Nat} {l S : List Int} {row row' : ARow} {sh : Int} (hk : okS κ m) (hl : l.length = m * 2) (hm : m ≤ maxLen) (hr : Vh.rowAt H0 r = some row) (hc : row.cells = ints .i64 l)
    (hk' : okS κ' n) (hS : S.length = n) (hn : n ≤ 400) (hr' : Vh.rowAt H0 r' = some row') (hc' : row'.cells = ints .i64 S) :
    ACalls Try.prog 28 [mkS κ r 0 m, .int .i64 sh, mkS κ' r' 0 n] H0 (List.range H0.length) fun v H => ∃ w e, v = .tuple [w, .int .i64 e] ∧ e = rvE l m S sh ∧ Base H0 H ∧ ((e = 0 ∧ Mb H0 H w n (rvF l S sh)) ∨ (e ≠ 0 ∧ w = .nilslice)) := by
  refine ACalls.body Try.func28 ent_received ir_received_ok rs_received_ok Try.ntmps28 (by simp) rfl ?_
  unfold ir_received
  have e0 : s0 [mkS κ r 0 m, .int .i64 sh, mkS κ' r' 0 n] 0 = mkS κ r 0 m := rfl
  have e1 : s0 [mkS κ r 0 m, .int .i64 sh, mkS κ' r' 0 n] 1 = .int .i64 sh := rfl
  have e2 : s0 [mkS κ r 0 m, .int .i64 sh, mkS κ' r' 0 n] 2 = mkS κ' r' 0 n := rfl
  have hz2 : [AV.int .i64 0, AV.int .i64 0].all AV.cell = true := rfl
  simp (disch := omega) only [sN, ↓reduceIte, Nat.reduceEqDiff, Nat.reduceAdd, Nat.reduceMul, Nat.reduceSub, reduceCtorEq, e_none, e_some, e_bindS, e0, e1, e2, List.map_cons, List.map_nil]
  refine ⟨_, (checkClicks_calls H0 hk hl hm hr hc).g.mono ?_⟩
  rintro v H1 ⟨rfl, hB1⟩
  simp (disch := omega) only [sN, ↓reduceIte, Nat.reduceEqDiff, Nat.reduceAdd, Nat.reduceMul, Nat.reduceSub, reduceCtorEq, e_none, e_some, e_bindS, e0, e1, e2, List.map_cons, List.map_nil]
  refine ⟨_, (checkShift_calls H1 sh).g.mono ?_⟩
  rintro v H2 ⟨rfl, hH⟩
  rw [hH]
  obtain ⟨E1, hE1⟩ : ∃ e, e = cE l m := ⟨_, rfl⟩
  obtain ⟨E2, hE2⟩ : ∃ e : Int, e = if -16 ≤ sh ∧ sh ≤ 16 then 0 else 3 := ⟨_, rfl⟩
  have hbe : bE l m S sh = fst0 [E1, E2, gE S (lo0 sh) (m - sh) n] := by unfold bE; rw [hE1, hE2, hS]
  rw [← hE1, ← hE2]
  simp (disch := omega) only [sN, ↓reduceIte, Nat.reduceEqDiff, Nat.reduceAdd, Nat.reduceMul, Nat.reduceSub, reduceCtorEq, e_none, e_some, e_bindS, e0, e1, e2]
  rw [x_bs2 (v := .int .i64 E1) (u := .int .i64 E2) (by simp only [e_upd, e_putS, e_putN, e_t, e_c, Nat.reduceEqDiff, ↓reduceIte, reduceCtorEq, Nat.reduceAdd]) (by simp only [e_upd, e_putS, e_putN, e_t, e_c, Nat.reduceEqDiff, ↓reduceIte, reduceCtorEq, Nat.reduceAdd]) rfl rfl rfl]
  simp (disch := omega) only [sN, ↓reduceIte, Nat.reduceEqDiff, Nat.reduceAdd, Nat.reduceMul, Nat.reduceSub, reduceCtorEq, e_none, e_some, e_bindS, e0, e1, e2, List.map_cons, List.map_nil]
  refine ⟨_, (firstError_calls (H1 ++ [rw_ [.int .i64 E1, .int .i64 E2]]) (n := 2) (r := H1.length) (l := [E1, E2]) (row := ⟨true, false, [.int .i64 E1, .int .i64 E2]⟩) rfl (by omega) (by simp [Vh.rowAt, rw_]) rfl).g.mono ?_⟩
  rintro v H3 ⟨rfl, hB3⟩
  have hB := hB1.app.trans hB3
  clear hB1 hB3 hH
  obtain ⟨E, hEE⟩ : ∃ e, e = fst0 [E1, E2] := ⟨_, rfl⟩
  rw [← hEE]
  have fin : ∀ (E : Int) (H : AHeap), Base H0 H → E ≠ 0 → rvE l m S sh = E → ∃ w e, AV.tuple [.nilslice, .int .i64 E] = .tuple [w, .int .i64 e] ∧ e = rvE l m S sh ∧ Base H0 H ∧ ((e = 0 ∧ Mb H0 H w n (rvF l S sh)) ∨ (e ≠ 0 ∧ w = .nilslice)) := fun E H hB hE he =>
    ⟨.nilslice, E, rfl, he.symm, hB, .inr ⟨hE, rfl⟩⟩
  by_cases hz : E = 0
  · have hz1 : E1 = 0 := by
      by_cases h1 : E1 = 0
      · exact h1
      · rw [hz] at hEE; simp [fst0, h1] at hEE; omega
    have hz2' : E2 = 0 := by
      by_cases h2 : E2 = 0
      · exact h2
      · rw [hz] at hEE; simp [fst0, hz1, h2] at hEE; omega
    have hsh : -16 ≤ sh ∧ sh ≤ 16 := by
      rw [hz2'] at hE2
      by_cases h : -16 ≤ sh ∧ sh ≤ 16
      · exact h
      · rw [if_neg h] at hE2; omega
    have hm4 : m ≤ 4096 := cE_zero (by rw [← hE1]; exact hz1)
    have hbe' : bE l m S sh = gE S (lo0 sh) (m - sh) n := by
      rw [hbe, hz1, hz2']; simp [fst0]
      intro h; exact h.symm
    rw [hz]
    simp (disch := omega) only [sN, ↓reduceIte, Nat.reduceEqDiff, Nat.reduceAdd, Nat.reduceMul, Nat.reduceSub, reduceCtorEq, e_none, e_some, e_bindS, e0, e1, e2]
    rw [p_negv4 (a := sh) (by simp only [e_upd, e_putS, e_putN, e_t, e_c, Nat.reduceEqDiff, ↓reduceIte, reduceCtorEq, Nat.reduceAdd]) (by omega)]
    simp (disch := omega) only [sN, ↓reduceIte, Nat.reduceEqDiff, Nat.reduceAdd, Nat.reduceMul, Nat.reduceSub, reduceCtorEq, e_none, e_some, e_bindS, e0, e1, e2]
    rw [p_minmax (k := .i64) (k' := .i64) (a := 0) (b := -sh) (by simp only [e_upd, e_putS, e_putN, e_t, e_c, Nat.reduceEqDiff, ↓reduceIte, reduceCtorEq, Nat.reduceAdd]) (by simp only [e_upd, e_putS, e_putN, e_t, e_c, Nat.reduceEqDiff, ↓reduceIte, reduceCtorEq, Nat.reduceAdd])]
    simp (disch := omega) only [sN, ↓reduceIte, Nat.reduceEqDiff, Nat.reduceAdd, Nat.reduceMul, Nat.reduceSub, reduceCtorEq, e_none, e_some, e_bindS, e0, e1, e2, k_len hk]
    rw [show (if -sh > 0 then -sh else 0) = lo0 sh from rfl]
    simp (disch := omega) only [sN, ↓reduceIte, Nat.reduceEqDiff, Nat.reduceAdd, Nat.reduceMul, Nat.reduceSub, reduceCtorEq, e_none, e_some, e_bindS, e0, e1, e2, List.map_cons, List.map_nil]
    refine ⟨_, (between_calls H3 (lo0 sh) ((m : Int) - sh)).g.mono ?_⟩
    rintro v H4 ⟨rfl, hH4⟩
    have hB4 : Base H3 H4 := by rw [hH4]; exact Base.one.app
    have rp : Vh.rowAt H4 H3.length = some ⟨true, false, [.int .i64 (lo0 sh)]⟩ := by rw [hH4, rowAt_append_left (by simp)]; simp [Vh.rowAt, rw_]
    have rq : Vh.rowAt H4 (H3.length + 1) = some ⟨true, false, [.int .i64 ((m : Int) - sh)]⟩ := by
      rw [hH4, show H3.length + 1 = (H3 ++ [rw_ [AV.int .i64 (lo0 sh)]]).length by simp]; simp [Vh.rowAt, rw_]
    have hB34 := hB.trans hB4
    clear hH4
    simp (disch := omega) only [sN, ↓reduceIte, Nat.reduceEqDiff, Nat.reduceAdd, Nat.reduceMul, Nat.reduceSub, reduceCtorEq, e_none, e_some, e_bindS, e0, e1, e2, List.map_cons, List.map_nil]
    refine ⟨_, (checkSlots_calls H4 hk' hS (by unfold maxLen; omega) (hB34.row hr') hc' rp rfl rq rfl).g.mono ?_⟩
    rintro v H5 ⟨rfl, hB5⟩
    have hB6 := hB34.trans hB5
    clear rp rq hB hB4 hB34 hB5
    obtain ⟨G, hG⟩ : ∃ e, e = gE S (lo0 sh) (m - sh) n := ⟨_, rfl⟩
    rw [← hG] at hbe' ⊢
    by_cases hg0 : G = 0
    · have hfz : gE S (lo0 sh) (m - sh) n = 0 := by rw [← hG]; exact hg0
      have hrv : rvE l m S sh = if (List.range n).all (fun i => okK (rvK l S sh i)) then 0 else 9 := by
        unfold rvE; rw [hbe', if_pos hg0, hS]
      rw [hg0]
      simp (disch := omega) only [sN, ↓reduceIte, Nat.reduceEqDiff, Nat.reduceAdd, Nat.reduceMul, Nat.reduceSub, reduceCtorEq, e_none, e_some, e_bindS, e0, e1, e2, k_len hk']
      rw [x_makeB (n := n) (by simp only [e_upd, e_putS, e_putN, e_t, e_c, Nat.reduceEqDiff, ↓reduceIte, reduceCtorEq, Nat.reduceAdd]) (by omega) (by omega)]
      simp (disch := omega) only [sN, ↓reduceIte, Nat.reduceEqDiff, Nat.reduceAdd, Nat.reduceMul, Nat.reduceSub, reduceCtorEq, e_none, e_some, e_bindS, e0, e1, e2, k_len hk']
      obtain ⟨q, hq⟩ : ∃ q, q = H5.length := ⟨_, rfl⟩
      have hq0 : H0.length ≤ q := by rw [hq]; exact hB6.1
      refine ⟨fun t s H => ∃ (i : Nat) (f : Nat → Bool), t = n - i ∧ i ≤ n ∧ Base H0 H ∧ (∀ j, j < i → okK (rvK l S sh j) = true ∧ f j = rvF l S sh j) ∧ Vh.rowAt H q = some ⟨true, false, bt n f⟩ ∧ s 0 = mkS κ r 0 m ∧ s 1 = .int .i64 sh ∧ s 10 = .slice q 0 n n ∧ s 39 = mkS κ' r' 0 n ∧ s 40 = .int .i64 n ∧ s 41 = .int .i64 (i : Int), n, ⟨0, fun _ => false, rfl, by omega, hB6.app, fun j h => by omega, by rw [hq]; simp [Vh.rowAt, rw_], ?_, ?_, ?_, ?_, ?_, ?_⟩, ?_⟩
      · simp only [e_upd, e_putS, e_putN, e_t, e_c, Nat.reduceEqDiff, ↓reduceIte, reduceCtorEq, Nat.reduceAdd, e0]
      · simp only [e_upd, e_putS, e_putN, e_t, e_c, Nat.reduceEqDiff, ↓reduceIte, reduceCtorEq, Nat.reduceAdd, e1]
      · simp only [e_upd, e_putS, e_putN, e_t, e_c, Nat.reduceEqDiff, ↓reduceIte, reduceCtorEq, Nat.reduceAdd, hq]
      · simp only [e_upd, e_putS, e_putN, e_t, e_c, Nat.reduceEqDiff, ↓reduceIte, reduceCtorEq, Nat.reduceAdd]
      · simp only [e_upd, e_putS, e_putN, e_t, e_c, Nat.reduceEqDiff, ↓reduceIte, reduceCtorEq, Nat.reduceAdd]
      · simp only [e_upd, e_putS, e_putN, e_t, e_c, Nat.reduceEqDiff, ↓reduceIte, reduceCtorEq, Nat.reduceAdd]; rfl
      clear hB6
      rintro t s H ⟨i, f, rfl, hi, hB, hf, hrq, h0, h1, h10, h39, h40, h41⟩
      by_cases hlt : i < n
      · have hin := gE_ok hfz hlt
        have hgx : row'.cells[i]? = some (.int .i64 (S.getD i 0)) := by rw [hc']; exact ints_get (by omega)
        have hlo : -sh ≤ lo0 sh ∧ 0 ≤ lo0 sh := by unfold lo0; split <;> omega
        obtain ⟨x, hx⟩ : ∃ x, x = S.getD i 0 := ⟨_, rfl⟩
        rw [← hx] at hin hgx
        obtain ⟨j, hj⟩ : ∃ j : Nat, (j : Int) = x + sh := ⟨(x + sh).toNat, by omega⟩
        have hjm : j < m := by omega
        have hrk : rvK l S sh i = ck l j := by unfold rvK; rw [← hx, show (x + sh).toNat = j by omega]
        obtain ⟨d1, d2⟩ := pair_at hl hjm
        have hrH := hB.row hr
        have hrH' := hB.row hr'
        obtain ⟨b, hb⟩ : ∃ b, b = cb l j := ⟨_, rfl⟩
        obtain ⟨k, hkk⟩ : ∃ b, b = ck l j := ⟨_, rfl⟩
        rw [← hb, ← hkk] at d1
        rw [← hkk] at hrk
        have ia : aindexAddr 1 (mkS κ' r' 0 n) (.int .i64 (i : Int)) = some (.ptr r' i) := by
          rw [k_idx hk' (Nat.le_refl n) (by omega) (by omega)]; simp
        have ib : aindexAddr 2 (mkS κ r 0 m) (.int .i64 (x + sh)) = some (.ptr r (j * 2)) := by
          rw [← hj, k_idx2 hk (Nat.le_refl m) (by omega) (by omega)]; simp
        have ic : aindexAddr 1 (.slice q 0 n n) (.int .i64 (i : Int)) = some (.ptr q i) := by
          rw [a_idx (by omega) (by omega)]; simp
        simp (disch := omega) only [sN, ↓reduceIte, Nat.reduceEqDiff, Nat.reduceAdd, Nat.reduceMul, Nat.reduceSub, reduceCtorEq, e_none, e_some, e_bindS, h0, h1, h10, h39, h40, h41, ia, ib, hrH', hgx, Option.bind_some]
        rw [x_loadNO (n := 2) (r := r) (off := j * 2) (l := [.int .i64 b, .int .i64 k]) (by simp only [e_upd, e_putS, e_putN, e_t, e_c, Nat.reduceEqDiff, ↓reduceIte, reduceCtorEq, Nat.reduceAdd]) hrH (by rw [hc]; exact d1) (by rw [hc]; exact d2)]
        simp (disch := omega) only [sN, ↓reduceIte, Nat.reduceEqDiff, Nat.reduceAdd, Nat.reduceMul, Nat.reduceSub, reduceCtorEq, e_none, e_some, e_bindS, h0, h1, h10, h39, h40, h41]
        rw [x_allocA hz2]
        simp (disch := omega) only [sN, ↓reduceIte, Nat.reduceEqDiff, Nat.reduceAdd, Nat.reduceMul, Nat.reduceSub, reduceCtorEq, e_none, e_some, e_bindS, h0, h1, h10, h39, h40, h41]
        rw [x_storeNA (n := 2) (r := H.length) (l := [.int .i64 0, .int .i64 0]) (l' := [.int .i64 b, .int .i64 k]) (by simp only [e_upd, e_putS, e_putN, e_t, e_c, Nat.reduceEqDiff, ↓reduceIte, reduceCtorEq, Nat.reduceAdd]) (by simp only [e_upd, e_putS, e_putN, e_t, e_c, Nat.reduceEqDiff, ↓reduceIte, reduceCtorEq, Nat.reduceAdd]) (by rfl) (by simp [Vh.rowAt, rw_]) rfl rfl]
        rw [set_last]
        have hb2 : Vh.rowAt (H ++ [rw_ [.int .i64 b, .int .i64 k]]) H.length = some ⟨true, false, [.int .i64 b, .int .i64 k]⟩ := by simp [Vh.rowAt, rw_]
        simp (disch := omega) only [sN, ↓reduceIte, Nat.reduceEqDiff, Nat.reduceAdd, Nat.reduceMul, Nat.reduceSub, reduceCtorEq, e_none, e_some, e_bindS, h0, h1, h10, h39, h40, h41]
        rw [x_loadNA (n := 2) (r := H.length) (l := [.int .i64 b, .int .i64 k]) (by simp only [e_upd, e_putS, e_putN, e_t, e_c, Nat.reduceEqDiff, ↓reduceIte, reduceCtorEq, Nat.reduceAdd]) hb2 rfl rfl]
        simp (disch := omega) only [sN, ↓reduceIte, Nat.reduceEqDiff, Nat.reduceAdd, Nat.reduceMul, Nat.reduceSub, reduceCtorEq, e_none, e_some, e_bindS, h0, h1, h10, h39, h40, h41, List.map_cons, List.map_nil]
        refine ⟨_, (isHeard_calls _ b k).g.mono ?_⟩
        rintro v H7 ⟨rfl, hB7⟩
        have hB8 := hB.app.trans hB7
        have hb3 := hB7.row hb2
        have hrq3 := hB7.row ((Base.one (R := [rw_ [.int .i64 b, .int .i64 k]])).row hrq)
        by_cases hk2 : k = 1 ∨ k = 2
        · rw [decide_eq_true hk2]
          have put : ∀ y : Bool, y = decide (k = 2) → ∀ j, j < i + 1 → okK (rvK l S sh j) = true ∧ (if j = i then y else f j) = rvF l S sh j := fun y hy j hj => by
            by_cases hji : j = i
            · rw [if_pos hji, hji]
              exact ⟨by rw [hrk]; unfold okK; exact decide_eq_true hk2, by unfold rvF; rw [hrk]; exact hy⟩
            · rw [if_neg hji]; exact hf j (by omega)
          by_cases hk3 : k = 2
          · simp (disch := omega) only [sN, ↓reduceIte, Nat.reduceEqDiff, Nat.reduceAdd, Nat.reduceMul, Nat.reduceSub, reduceCtorEq, e_none, e_some, e_bindS, h0, h1, h10, h39, h40, h41, ic, p_fieldAddr, Nat.zero_add, hb3, Option.bind_some, Option.map_some, List.getElem?_cons_zero, List.getElem?_cons_succ]
            rw [x_putB (r := q) (off := i) (b := true) (n := n) (f := f) (by simp only [e_upd, e_putS, e_putN, e_t, e_c, Nat.reduceEqDiff, ↓reduceIte, reduceCtorEq, Nat.reduceAdd]) (by simp only [e_upd, e_putS, e_putN, e_t, e_c, Nat.reduceEqDiff, ↓reduceIte, reduceCtorEq, Nat.reduceAdd]) hrq3 hlt]
            simp (disch := omega) only [sN, ↓reduceIte, Nat.reduceEqDiff, Nat.reduceAdd, Nat.reduceMul, Nat.reduceSub, reduceCtorEq, e_none, e_some, e_bindS, h0, h1, h10, h39, h40, h41]
            refine loop_keep (m := n - (i + 1)) (by omega) ⟨i + 1, fun j => if j = i then true else f j, rfl, by omega, hB8.set hq0, put true (by simp [hk3]), ?_, ?_, ?_, ?_, ?_, ?_, ?_⟩
            · rw [row_set0 (rowAt_lt hrq3)]; rfl
            · simp only [e_upd, e_putS, e_putN, e_t, e_c, Nat.reduceEqDiff, ↓reduceIte, reduceCtorEq, Nat.reduceAdd, h0]
            · simp only [e_upd, e_putS, e_putN, e_t, e_c, Nat.reduceEqDiff, ↓reduceIte, reduceCtorEq, Nat.reduceAdd, h1]
            · simp only [e_upd, e_putS, e_putN, e_t, e_c, Nat.reduceEqDiff, ↓reduceIte, reduceCtorEq, Nat.reduceAdd, h10]
            · simp only [e_upd, e_putS, e_putN, e_t, e_c, Nat.reduceEqDiff, ↓reduceIte, reduceCtorEq, Nat.reduceAdd, h39]
            · simp only [e_upd, e_putS, e_putN, e_t, e_c, Nat.reduceEqDiff, ↓reduceIte, reduceCtorEq, Nat.reduceAdd, h40]
            · simp only [e_upd, e_putS, e_putN, e_t, e_c, Nat.reduceEqDiff, ↓reduceIte, reduceCtorEq, Nat.reduceAdd]; first | done | rfl
          · simp (disch := omega) only [sN, ↓reduceIte, Nat.reduceEqDiff, Nat.reduceAdd, Nat.reduceMul, Nat.reduceSub, reduceCtorEq, e_none, e_some, e_bindS, h0, h1, h10, h39, h40, h41, ic, p_fieldAddr, Nat.zero_add, hb3, Option.bind_some, Option.map_some, List.getElem?_cons_zero, List.getElem?_cons_succ]
            rw [x_putB (r := q) (off := i) (b := false) (n := n) (f := f) (by simp only [e_upd, e_putS, e_putN, e_t, e_c, Nat.reduceEqDiff, ↓reduceIte, reduceCtorEq, Nat.reduceAdd]) (by simp only [e_upd, e_putS, e_putN, e_t, e_c, Nat.reduceEqDiff, ↓reduceIte, reduceCtorEq, Nat.reduceAdd]) hrq3 hlt]
            simp (disch := omega) only [sN, ↓reduceIte, Nat.reduceEqDiff, Nat.reduceAdd, Nat.reduceMul, Nat.reduceSub, reduceCtorEq, e_none, e_some, e_bindS, h0, h1, h10, h39, h40, h41]
            refine loop_keep (m := n - (i + 1)) (by omega) ⟨i + 1, fun j => if j = i then false else f j, rfl, by omega, hB8.set hq0, put false (by simp [hk3]), ?_, ?_, ?_, ?_, ?_, ?_, ?_⟩
            · rw [row_set0 (rowAt_lt hrq3)]; rfl
            · simp only [e_upd, e_putS, e_putN, e_t, e_c, Nat.reduceEqDiff, ↓reduceIte, reduceCtorEq, Nat.reduceAdd, h0]
            · simp only [e_upd, e_putS, e_putN, e_t, e_c, Nat.reduceEqDiff, ↓reduceIte, reduceCtorEq, Nat.reduceAdd, h1]
            · simp only [e_upd, e_putS, e_putN, e_t, e_c, Nat.reduceEqDiff, ↓reduceIte, reduceCtorEq, Nat.reduceAdd, h10]
            · simp only [e_upd, e_putS, e_putN, e_t, e_c, Nat.reduceEqDiff, ↓reduceIte, reduceCtorEq, Nat.reduceAdd, h39]
            · simp only [e_upd, e_putS, e_putN, e_t, e_c, Nat.reduceEqDiff, ↓reduceIte, reduceCtorEq, Nat.reduceAdd, h40]
            · simp only [e_upd, e_putS, e_putN, e_t, e_c, Nat.reduceEqDiff, ↓reduceIte, reduceCtorEq, Nat.reduceAdd]; first | done | rfl
        · rw [decide_eq_false hk2]
          simp (disch := omega) only [sN, ↓reduceIte, Nat.reduceEqDiff, Nat.reduceAdd, Nat.reduceMul, Nat.reduceSub, reduceCtorEq, e_none, e_some, e_bindS, h0, h1, h10, h39, h40, h41]
          refine ret_keep hB8.1 ?_
          rw [show rs_received = [.tmp 6, .tmp 7] from rfl, q_tmp2, q_then]
          simp only [e_upd, e_putS, e_putN, e_t, e_c, Nat.reduceEqDiff, ↓reduceIte, reduceCtorEq, Nat.reduceAdd]
          exact fin 9 _ hB8 (by decide) (by rw [hrv, rv_not hlt (by rw [hrk]; unfold okK; exact decide_eq_false hk2)]; rfl)
      · obtain rfl : i = n := by omega
        simp (disch := omega) only [sN, ↓reduceIte, Nat.reduceEqDiff, Nat.reduceAdd, Nat.reduceMul, Nat.reduceSub, reduceCtorEq, e_none, e_some, e_bindS, h10, h40, h41]
        refine ret_keep hB.1 ?_
        rw [show rs_received = [.tmp 6, .tmp 7] from rfl, q_tmp2, q_then]
        refine ⟨.slice q 0 i i, 0, ?_, ?_, hB, .inl ⟨rfl, q, rfl, hq0, ?_⟩⟩
        · simp only [e_upd, e_putS, e_putN, e_t, e_c, Nat.reduceEqDiff, ↓reduceIte, reduceCtorEq, Nat.reduceAdd]
        · rw [hrv, rv_all fun j hj => (hf j hj).1]; rfl
        · rw [hrq, bt_congr fun j hj => (hf j hj).2]
    · simp (disch := omega) only [sN, ↓reduceIte, Nat.reduceEqDiff, Nat.reduceAdd, Nat.reduceMul, Nat.reduceSub, reduceCtorEq, e_none, e_some, e_bindS, e0, e1, e2]
      refine ret_keep hB6.1 ?_
      rw [show rs_received = [.tmp 6, .tmp 7] from rfl, q_tmp2, q_then]
      simp only [e_upd, e_putS, e_putN, e_t, e_c, Nat.reduceEqDiff, ↓reduceIte, reduceCtorEq, Nat.reduceAdd]
      exact fin G _ hB6 hg0 (by unfold rvE; rw [hbe', if_neg hg0])
  · have hbe' : bE l m S sh = E := by
      rw [hbe, hEE]
      by_cases h1 : E1 = 0
      · by_cases h2 : E2 = 0
        · rw [hEE] at hz; simp [fst0, h1, h2] at hz
        · simp [fst0, h1, h2]
      · simp [fst0, h1]
    simp (disch := omega) only [sN, ↓reduceIte, Nat.reduceEqDiff, Nat.reduceAdd, Nat.reduceMul, Nat.reduceSub, reduceCtorEq, e_none, e_some, e_bindS, e0, e1, e2]
    refine ret_keep hB.1 ?_
    rw [show rs_received = [.tmp 6, .tmp 7] from rfl, q_tmp2, q_then]
    simp only [e_upd, e_putS, e_putN, e_t, e_c, Nat.reduceEqDiff, ↓reduceIte, reduceCtorEq, Nat.reduceAdd]
    exact fin E _ hB hz (by unfold rvE; rw [hbe', if_neg hz])
end Go.Proofs.Ythbhljolpnbdlaa


/- Contracts of stage 4: the reference's bits of the receiver. -/
-- NEWSET
namespace Go.Proofs.Ythbhljolpnbdlaa
open Go Go.Vh

def rvL (l S : List Int) (sh : Int) : Nat → List Bool
  | 0 => []
  | i + 1 => rvL l S sh i ++ [rvF l S sh i]
theorem rvL_len {l S : List Int} {sh : Int} : ∀ n, (rvL l S sh n).length = n
  | 0 => rfl
  | n + 1 => by simp [rvL, rvL_len n]
theorem rvL_bt {l S : List Int} {sh : Int} : ∀ n, bools (rvL l S sh n) = bt n (rvF l S sh)
  | 0 => rfl
  | n + 1 => by
    have := rvL_bt (l := l) (S := S) (sh := sh) n
    simp only [rvL, bools, List.map_append, bt, List.range_succ] at this ⊢
    rw [this]; rfl

set_option maxHeartbeats 4000000 in
theorem rReceived_calls (H0 : AHeap) {κ κ' : SK} {n m r r' : Nat} {l S : List Int} {row row' : ARow} {sh : Int} (hk : okS κ m) (hl : l.length = m * 2) (hm : m ≤ maxLen) (hr : Vh.rowAt H0 r = some row) (hc : row.cells = ints .i64 l)
    (hk' : okS κ' n) (hS : S.length = n) (hn : n ≤ 400) (hr' : Vh.rowAt H0 r' = some row') (hc' : row'.cells = ints .i64 S) :
    ACalls Try.prog 29 [mkS κ r 0 m, .int .i64 sh, mkS κ' r' 0 n] H0 (List.range H0.length) fun v H => ∃ w e, v = .tuple [w, .int .i64 e] ∧ e = rvE l m S sh ∧ Base H0 H ∧ Gb H0 H w (if e = 0 then rvL l S sh n else []) := by
  refine ACalls.body Try.func29 ent_rReceived ir_rReceived_ok rs_rReceived_ok Try.ntmps29 (by simp) rfl ?_
  unfold ir_rReceived
  have e0 : s0 [mkS κ r 0 m, .int .i64 sh, mkS κ' r' 0 n] 0 = mkS κ r 0 m := rfl
  have e1 : s0 [mkS κ r 0 m, .int .i64 sh, mkS κ' r' 0 n] 1 = .int .i64 sh := rfl
  have e2 : s0 [mkS κ r 0 m, .int .i64 sh, mkS κ' r' 0 n] 2 = mkS κ' r' 0 n := rfl
  have fin : ∀ (E : Int) (H : AHeap), Base H0 H → E ≠ 0 → rvE l m S sh = E → ∃ w e, AV.tuple [.nilslice, .int .i64 E] = .tuple [w, .int .i64 e] ∧ e = rvE l m S sh ∧ Base H0 H ∧ Gb H0 H w (if e = 0 then rvL l S sh n else []) := fun E H hB hE he =>
    ⟨.nilslice, E, rfl, he.symm, hB, .inl ⟨by rw [if_neg hE], rfl⟩⟩
  simp (disch := omega) only [sN, ↓reduceIte, Nat.reduceEqDiff, Nat.reduceAdd, Nat.reduceMul, Nat.reduceSub, reduceCtorEq, e_none, e_some, e_bindS, e0, e1, e2, List.map_cons, List.map_nil]
  refine ⟨_, (rClicks_calls H0 hk hl hm hr hc).g.mono ?_⟩
  rintro v H1 ⟨rfl, hH⟩
  rw [hH]
  obtain ⟨E1, hE1⟩ : ∃ e, e = cE l m := ⟨_, rfl⟩
  rw [← hE1]
  by_cases hz1 : E1 = 0
  · rw [hz1] at hE1 ⊢
    have hm4 : m ≤ 4096 := cE_zero hE1.symm
    simp (disch := omega) only [sN, ↓reduceIte, Nat.reduceEqDiff, Nat.reduceAdd, Nat.reduceMul, Nat.reduceSub, reduceCtorEq, e_none, e_some, e_bindS, e0, e1, e2, List.map_cons, List.map_nil]
    refine ⟨_, (rShiftable_calls H0 sh).g.mono ?_⟩
    rintro v H1 ⟨rfl, hH⟩
    rw [hH]
    by_cases hsh : -16 ≤ sh ∧ sh ≤ 16
    · rw [decide_eq_true hsh]
      have hbe' : bE l m S sh = gE S (lo0 sh) (m - sh) n := by
        unfold bE; rw [← hE1, if_pos hsh, hS]; simp [fst0]
        intro h; exact h.symm
      simp (disch := omega) only [sN, ↓reduceIte, Nat.reduceEqDiff, Nat.reduceAdd, Nat.reduceMul, Nat.reduceSub, reduceCtorEq, e_none, e_some, e_bindS, e0, e1, e2]
      rw [p_negv4 (a := sh) (by simp only [e_upd, e_putS, e_putN, e_t, e_c, Nat.reduceEqDiff, ↓reduceIte, reduceCtorEq, Nat.reduceAdd]) (by omega)]
      simp (disch := omega) only [sN, ↓reduceIte, Nat.reduceEqDiff, Nat.reduceAdd, Nat.reduceMul, Nat.reduceSub, reduceCtorEq, e_none, e_some, e_bindS, e0, e1, e2]
      rw [p_minmax (k := .i64) (k' := .i64) (a := 0) (b := -sh) (by simp only [e_upd, e_putS, e_putN, e_t, e_c, Nat.reduceEqDiff, ↓reduceIte, reduceCtorEq, Nat.reduceAdd]) (by simp only [e_upd, e_putS, e_putN, e_t, e_c, Nat.reduceEqDiff, ↓reduceIte, reduceCtorEq, Nat.reduceAdd])]
      simp (disch := omega) only [sN, ↓reduceIte, Nat.reduceEqDiff, Nat.reduceAdd, Nat.reduceMul, Nat.reduceSub, reduceCtorEq, e_none, e_some, e_bindS, e0, e1, e2, k_len hk]
      rw [show (if -sh > 0 then -sh else 0) = lo0 sh from rfl]
      simp (disch := omega) only [sN, ↓reduceIte, Nat.reduceEqDiff, Nat.reduceAdd, Nat.reduceMul, Nat.reduceSub, reduceCtorEq, e_none, e_some, e_bindS, e0, e1, e2, List.map_cons, List.map_nil]
      refine ⟨_, (rSlots_calls H0 (b := (m : Int) - sh) hk' hS (by unfold maxLen; omega) hr' hc' (by omega)).g.mono ?_⟩
      rintro v H1 ⟨rfl, hH⟩
      rw [hH]
      obtain ⟨G, hG⟩ : ∃ e, e = gE S (lo0 sh) (m - sh) n := ⟨_, rfl⟩
      rw [← hG] at hbe' ⊢
      by_cases hg0 : G = 0
      · have hfz : gE S (lo0 sh) (m - sh) n = 0 := by rw [← hG]; exact hg0
        have hrv : rvE l m S sh = if (List.range n).all (fun i => okK (rvK l S sh i)) then 0 else 9 := by
          unfold rvE; rw [hbe', if_pos hg0, hS]
        rw [hg0]
        simp (disch := omega) only [sN, ↓reduceIte, Nat.reduceEqDiff, Nat.reduceAdd, Nat.reduceMul, Nat.reduceSub, reduceCtorEq, e_none, e_some, e_bindS, e0, e1, e2]
        refine ⟨fun t s H => ∃ i : Nat, t = n - i ∧ i ≤ n ∧ Base H0 H ∧ (∀ j, j < i → okK (rvK l S sh j) = true) ∧ Gb H0 H (s 8) (rvL l S sh i) ∧ s 0 = mkS κ r 0 m ∧ s 1 = .int .i64 sh ∧ s 2 = mkS κ' r' 0 n ∧ s 9 = .int .i64 (i : Int), n, ⟨0, rfl, by omega, Base.refl, fun j h => by omega, .inl ⟨rfl, ?_⟩, ?_, ?_, ?_, ?_⟩, ?_⟩
        · simp only [e_upd, e_putS, e_putN, e_t, e_c, Nat.reduceEqDiff, ↓reduceIte, reduceCtorEq, Nat.reduceAdd]
        · simp only [e_upd, e_putS, e_putN, e_t, e_c, Nat.reduceEqDiff, ↓reduceIte, reduceCtorEq, Nat.reduceAdd, e0]
        · simp only [e_upd, e_putS, e_putN, e_t, e_c, Nat.reduceEqDiff, ↓reduceIte, reduceCtorEq, Nat.reduceAdd, e1]
        · simp only [e_upd, e_putS, e_putN, e_t, e_c, Nat.reduceEqDiff, ↓reduceIte, reduceCtorEq, Nat.reduceAdd, e2]
        · simp only [e_upd, e_putS, e_putN, e_t, e_c, Nat.reduceEqDiff, ↓reduceIte, reduceCtorEq, Nat.reduceAdd]; rfl
        rintro t s H ⟨i, rfl, hi, hB, hf, hg, h0, h1, h2, h9⟩
        by_cases hlt : i < n
        · have hin := gE_ok hfz hlt
          have hgx : row'.cells[i]? = some (.int .i64 (S.getD i 0)) := by rw [hc']; exact ints_get (by omega)
          have hlo : -sh ≤ lo0 sh ∧ 0 ≤ lo0 sh := by unfold lo0; split <;> omega
          obtain ⟨x, hx⟩ : ∃ x, x = S.getD i 0 := ⟨_, rfl⟩
          rw [← hx] at hin hgx
          obtain ⟨j, hj⟩ : ∃ j : Nat, (j : Int) = x + sh := ⟨(x + sh).toNat, by omega⟩
          have hjm : j < m := by omega
          have hrk : rvK l S sh i = ck l j := by unfold rvK; rw [← hx, show (x + sh).toNat = j by omega]
          have hck := pair_k hl hjm
          rw [← hc] at hck
          have hrH := hB.row hr
          have hrH' := hB.row hr'
          obtain ⟨k, hkk⟩ : ∃ b, b = ck l j := ⟨_, rfl⟩
          rw [← hkk] at hrk hck
          have ia : aindexAddr 1 (mkS κ' r' 0 n) (.int .i64 (i : Int)) = some (.ptr r' i) := by
            rw [k_idx hk' (Nat.le_refl n) (by omega) (by omega)]; simp
          have ib : aindexAddr 2 (mkS κ r 0 m) (.int .i64 (x + sh)) = some (.ptr r (j * 2)) := by
            rw [← hj, k_idx2 hk (Nat.le_refl m) (by omega) (by omega)]; simp
          have nx : ∀ y : Bool, y = decide (k = 2) → rvL l S sh (i + 1) = rvL l S sh i ++ [y] := fun y hy => by
            rw [rvL, hy]; unfold rvF; rw [hrk]
          have ap : ∀ y : Bool, ∃ v' H', (∀ (s : St) (a b : Opd), evo s a = _ → evo s b = .slice H.length 0 1 1 → ieff (.append 1 1 a b) s (H ++ [rw_ [.bool y]]) = some (v', H')) ∧ Gb H0 H' v' (rvL l S sh i ++ [y]) ∧ Base H0 H' := fun y =>
            x_appGb (H0 := H0) (H := H ++ [rw_ [.bool y]]) (v := s 8) (a := y) (r := H.length) (c := 1) (row := ⟨true, false, [.bool y]⟩) (hg.base Base.one) (by simp [Vh.rowAt, rw_]) rfl (by rw [rvL_len]; omega) hB.app
          have ok' : k = 1 ∨ k = 2 → ∀ j, j < i + 1 → okK (rvK l S sh j) = true := fun h j hj => by
            rcases Nat.lt_or_ge j i with h' | h'
            · exact hf j h'
            · obtain rfl : j = i := by omega
              rw [hrk]; unfold okK; exact decide_eq_true h
          by_cases hk1 : k = 1
          · obtain ⟨v', H'', ea, eg, eb⟩ := ap false
            simp (disch := omega) only [sN, ↓reduceIte, Nat.reduceEqDiff, Nat.reduceAdd, Nat.reduceMul, Nat.reduceSub, reduceCtorEq, e_none, e_some, e_bindS, h0, h1, h2, h9, k_len hk', ia, ib, hrH', hgx, hrH, hck, p_fieldAddr, Option.bind_some, Option.map_some]
            rw [x_bs1 (v := .bool false) (by simp only [e_upd, e_putS, e_putN, e_t, e_c, Nat.reduceEqDiff, ↓reduceIte, reduceCtorEq, Nat.reduceAdd]) rfl]
            simp (disch := omega) only [sN, ↓reduceIte, Nat.reduceEqDiff, Nat.reduceAdd, Nat.reduceMul, Nat.reduceSub, reduceCtorEq, e_none, e_some, e_bindS, h0, h1, h2, h9]
            rw [ea _ _ _ (by simp only [e_upd, e_putS, e_putN, e_t, e_c, Nat.reduceEqDiff, ↓reduceIte, reduceCtorEq, Nat.reduceAdd]) (by simp only [e_upd, e_putS, e_putN, e_t, e_c, Nat.reduceEqDiff, ↓reduceIte, reduceCtorEq, Nat.reduceAdd])]
            simp (disch := omega) only [sN, ↓reduceIte, Nat.reduceEqDiff, Nat.reduceAdd, Nat.reduceMul, Nat.reduceSub, reduceCtorEq, e_none, e_some, e_bindS, h0, h1, h2, h9]
            refine loop_keep (m := n - (i + 1)) (by omega) ⟨i + 1, rfl, by omega, eb, ok' (.inl hk1), ?_, ?_, ?_, ?_, ?_⟩
            · rw [nx false (by simp [hk1])]; simp only [e_upd, e_putS, e_putN, e_t, e_c, Nat.reduceEqDiff, ↓reduceIte, reduceCtorEq, Nat.reduceAdd]; exact eg
            · simp only [e_upd, e_putS, e_putN, e_t, e_c, Nat.reduceEqDiff, ↓reduceIte, reduceCtorEq, Nat.reduceAdd, h0]
            · simp only [e_upd, e_putS, e_putN, e_t, e_c, Nat.reduceEqDiff, ↓reduceIte, reduceCtorEq, Nat.reduceAdd, h1]
            · simp only [e_upd, e_putS, e_putN, e_t, e_c, Nat.reduceEqDiff, ↓reduceIte, reduceCtorEq, Nat.reduceAdd, h2]
            · simp only [e_upd, e_putS, e_putN, e_t, e_c, Nat.reduceEqDiff, ↓reduceIte, reduceCtorEq, Nat.reduceAdd]; first | done | rfl
          · by_cases hk2 : k = 2
            · obtain ⟨v', H'', ea, eg, eb⟩ := ap true
              simp (disch := omega) only [sN, ↓reduceIte, Nat.reduceEqDiff, Nat.reduceAdd, Nat.reduceMul, Nat.reduceSub, reduceCtorEq, e_none, e_some, e_bindS, h0, h1, h2, h9, k_len hk', ia, ib, hrH', hgx, hrH, hck, p_fieldAddr, Option.bind_some, Option.map_some]
              rw [x_bs1 (v := .bool true) (by simp only [e_upd, e_putS, e_putN, e_t, e_c, Nat.reduceEqDiff, ↓reduceIte, reduceCtorEq, Nat.reduceAdd]) rfl]
              simp (disch := omega) only [sN, ↓reduceIte, Nat.reduceEqDiff, Nat.reduceAdd, Nat.reduceMul, Nat.reduceSub, reduceCtorEq, e_none, e_some, e_bindS, h0, h1, h2, h9]
              rw [ea _ _ _ (by simp only [e_upd, e_putS, e_putN, e_t, e_c, Nat.reduceEqDiff, ↓reduceIte, reduceCtorEq, Nat.reduceAdd]) (by simp only [e_upd, e_putS, e_putN, e_t, e_c, Nat.reduceEqDiff, ↓reduceIte, reduceCtorEq, Nat.reduceAdd])]
              simp (disch := omega) only [sN, ↓reduceIte, Nat.reduceEqDiff, Nat.reduceAdd, Nat.reduceMul, Nat.reduceSub, reduceCtorEq, e_none, e_some, e_bindS, h0, h1, h2, h9]
              refine loop_keep (m := n - (i + 1)) (by omega) ⟨i + 1, rfl, by omega, eb, ok' (.inr hk2), ?_, ?_, ?_, ?_, ?_⟩
              · rw [nx true (by simp [hk2])]; simp only [e_upd, e_putS, e_putN, e_t, e_c, Nat.reduceEqDiff, ↓reduceIte, reduceCtorEq, Nat.reduceAdd]; exact eg
              · simp only [e_upd, e_putS, e_putN, e_t, e_c, Nat.reduceEqDiff, ↓reduceIte, reduceCtorEq, Nat.reduceAdd, h0]
              · simp only [e_upd, e_putS, e_putN, e_t, e_c, Nat.reduceEqDiff, ↓reduceIte, reduceCtorEq, Nat.reduceAdd, h1]
              · simp only [e_upd, e_putS, e_putN, e_t, e_c, Nat.reduceEqDiff, ↓reduceIte, reduceCtorEq, Nat.reduceAdd, h2]
              · simp only [e_upd, e_putS, e_putN, e_t, e_c, Nat.reduceEqDiff, ↓reduceIte, reduceCtorEq, Nat.reduceAdd]; first | done | rfl
            · simp (disch := omega) only [sN, ↓reduceIte, Nat.reduceEqDiff, Nat.reduceAdd, Nat.reduceMul, Nat.reduceSub, reduceCtorEq, e_none, e_some, e_bindS, h0, h1, h2, h9, k_len hk', ia, ib, hrH', hgx, hrH, hck, p_fieldAddr, Option.bind_some, Option.map_some]
              refine ret_keep hB.1 ?_
              rw [show rs_rReceived = [.tmp 6, .tmp 7] from rfl, q_tmp2, q_then]
              simp only [e_upd, e_putS, e_putN, e_t, e_c, Nat.reduceEqDiff, ↓reduceIte, reduceCtorEq, Nat.reduceAdd]
              exact fin 9 _ hB (by decide) (by rw [hrv, rv_not hlt (by rw [hrk]; unfold okK; exact decide_eq_false (by omega))]; rfl)
        · obtain rfl : i = n := by omega
          simp (disch := omega) only [sN, ↓reduceIte, Nat.reduceEqDiff, Nat.reduceAdd, Nat.reduceMul, Nat.reduceSub, reduceCtorEq, e_none, e_some, e_bindS, h0, h1, h2, h9, k_len hk']
          refine ret_keep hB.1 ?_
          rw [show rs_rReceived = [.tmp 6, .tmp 7] from rfl, q_tmp2, q_then]
          refine ⟨s 8, 0, ?_, ?_, hB, by rw [if_pos rfl]; exact hg⟩
          · simp only [e_upd, e_putS, e_putN, e_t, e_c, Nat.reduceEqDiff, ↓reduceIte, reduceCtorEq, Nat.reduceAdd]
          · rw [hrv, rv_all hf]; rfl
      · simp (disch := omega) only [sN, ↓reduceIte, Nat.reduceEqDiff, Nat.reduceAdd, Nat.reduceMul, Nat.reduceSub, reduceCtorEq, e_none, e_some, e_bindS, e0, e1, e2]
        rw [p_negv4 (a := sh) (by simp only [e_upd, e_putS, e_putN, e_t, e_c, Nat.reduceEqDiff, ↓reduceIte, reduceCtorEq, Nat.reduceAdd]) (by omega)]
        simp (disch := omega) only [sN, ↓reduceIte, Nat.reduceEqDiff, Nat.reduceAdd, Nat.reduceMul, Nat.reduceSub, reduceCtorEq, e_none, e_some, e_bindS, e0, e1, e2]
        rw [p_minmax (k := .i64) (k' := .i64) (a := 0) (b := -sh) (by simp only [e_upd, e_putS, e_putN, e_t, e_c, Nat.reduceEqDiff, ↓reduceIte, reduceCtorEq, Nat.reduceAdd]) (by simp only [e_upd, e_putS, e_putN, e_t, e_c, Nat.reduceEqDiff, ↓reduceIte, reduceCtorEq, Nat.reduceAdd])]
        simp (disch := omega) only [sN, ↓reduceIte, Nat.reduceEqDiff, Nat.reduceAdd, Nat.reduceMul, Nat.reduceSub, reduceCtorEq, e_none, e_some, e_bindS, e0, e1, e2, k_len hk]
        rw [show (if -sh > 0 then -sh else 0) = lo0 sh from rfl]
        simp (disch := omega) only [sN, ↓reduceIte, Nat.reduceEqDiff, Nat.reduceAdd, Nat.reduceMul, Nat.reduceSub, reduceCtorEq, e_none, e_some, e_bindS, e0, e1, e2, List.map_cons, List.map_nil]
        refine ⟨_, (rSlots_calls H0 (b := (m : Int) - sh) hk' hS (by unfold maxLen; omega) hr' hc' (by omega)).g.mono ?_⟩
        rintro v H1 ⟨rfl, hH⟩
        rw [hH, ← hG]
        simp (disch := omega) only [sN, ↓reduceIte, Nat.reduceEqDiff, Nat.reduceAdd, Nat.reduceMul, Nat.reduceSub, reduceCtorEq, e_none, e_some, e_bindS, e0, e1, e2]
        refine ret_keep (by simp) ?_
        rw [show rs_rReceived = [.tmp 6, .tmp 7] from rfl, q_tmp2, q_then]
        simp only [e_upd, e_putS, e_putN, e_t, e_c, Nat.reduceEqDiff, ↓reduceIte, reduceCtorEq, Nat.reduceAdd]
        exact fin G _ Base.refl hg0 (by unfold rvE; rw [hbe', if_neg hg0])
    · rw [decide_eq_false hsh]
      simp (disch := omega) only [sN, ↓reduceIte, Nat.reduceEqDiff, Nat.reduceAdd, Nat.reduceMul, Nat.reduceSub, reduceCtorEq, e_none, e_some, e_bindS, e0, e1, e2]
      refine ret_keep (by simp) ?_
      rw [show rs_rReceived = [.tmp 6, .tmp 7] from rfl, q_tmp2, q_then]
      simp only [e_upd, e_putS, e_putN, e_t, e_c, Nat.reduceEqDiff, ↓reduceIte, reduceCtorEq, Nat.reduceAdd]
      exact fin 3 _ Base.refl (by decide) (by
        have : bE l m S sh = 3 := by unfold bE; rw [← hE1, if_neg hsh]; simp [fst0]
        unfold rvE; rw [this]; rfl)
  · simp (disch := omega) only [sN, ↓reduceIte, Nat.reduceEqDiff, Nat.reduceAdd, Nat.reduceMul, Nat.reduceSub, reduceCtorEq, e_none, e_some, e_bindS, e0, e1, e2, List.map_cons, List.map_nil]
    refine ⟨_, (rClicks_calls H0 hk hl hm hr hc).g.mono ?_⟩
    rintro v H1 ⟨rfl, hH⟩
    rw [hH, ← hE1]
    simp (disch := omega) only [sN, ↓reduceIte, Nat.reduceEqDiff, Nat.reduceAdd, Nat.reduceMul, Nat.reduceSub, reduceCtorEq, e_none, e_some, e_bindS, e0, e1, e2]
    refine ret_keep (by simp) ?_
    rw [show rs_rReceived = [.tmp 6, .tmp 7] from rfl, q_tmp2, q_then]
    simp only [e_upd, e_putS, e_putN, e_t, e_c, Nat.reduceEqDiff, ↓reduceIte, reduceCtorEq, Nat.reduceAdd]
    exact fin E1 _ Base.refl hz1 (by
      have : bE l m S sh = E1 := by unfold bE; rw [← hE1]; simp [fst0, hz1]
      unfold rvE; rw [this, if_neg hz1])
end Go.Proofs.Ythbhljolpnbdlaa

