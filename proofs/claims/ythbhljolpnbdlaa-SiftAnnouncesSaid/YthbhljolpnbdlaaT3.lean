/- Contracts of stage 4: Announce. -/
import Derived.Test.YthbhljolpnbdlaaVX
import Derived.Test.YthbhljolpnbdlaaTA
set_option linter.unusedSimpArgs false
set_option linter.unusedVariables false
-- NEWSET
namespace Go.Proofs.Ythbhljolpnbdlaa
open Go Go.Vh

/-- what is announced of a slot -/
def hd1 (l : List Int) (n : Nat) (sh i : Int) : List Int :=
  if 0 ≤ i + sh ∧ i + sh < n ∧ (ck l (i + sh).toNat = 1 ∨ ck l (i + sh).toNat = 2) then [i, cb l (i + sh).toNat] else []
def ann (l : List Int) (n : Nat) (sh a : Int) : Nat → List Int
  | 0 => []
  | j + 1 => ann l n sh a j ++ hd1 l n sh (a + j)
theorem hd1_len {l : List Int} {n : Nat} {sh i : Int} : (hd1 l n sh i).length ≤ 2 := by
  unfold hd1; split <;> simp
theorem ann_len {l : List Int} {n : Nat} {sh a : Int} : ∀ j, (ann l n sh a j).length ≤ 2 * j
  | 0 => by simp [ann]
  | j + 1 => by
    have := ann_len (l := l) (n := n) (sh := sh) (a := a) j
    have := hd1_len (l := l) (n := n) (sh := sh) (i := a + j)
    simp only [ann, List.length_append]; omega
theorem ann_more {l : List Int} {n : Nat} {sh a : Int} {j : Nat} : ∀ {k : Nat}, j ≤ k → (∀ i : Nat, j ≤ i → i < k → hd1 l n sh (a + i) = []) → ann l n sh a k = ann l n sh a j
  | 0, h, _ => by obtain rfl : j = 0 := by omega
                  rfl
  | k + 1, h, hh => by
    rcases Nat.lt_or_ge k j with h1 | h1
    · obtain rfl : j = k + 1 := by omega
      rfl
    · rw [ann, hh k h1 (by omega), List.append_nil]
      exact ann_more h1 fun i h2 h3 => hh i h2 (by omega)
def eA (l : List Int) (n : Nat) (sh a b : Int) : Int := fst0 [cE l n, if -16 ≤ sh ∧ sh ≤ 16 then 0 else 3, if 0 ≤ b ∧ b ≤ 4096 then 0 else 3, if 0 ≤ a ∧ a ≤ b then 0 else 3]
theorem eA_zero {l : List Int} {n : Nat} {sh a b : Int} (h : eA l n sh a b = 0) : n ≤ 4096 ∧ (-16 ≤ sh ∧ sh ≤ 16) ∧ (0 ≤ b ∧ b ≤ 4096) ∧ 0 ≤ a ∧ a ≤ b := by
  have hc : n ≤ 4096 ∨ cE l n = 5 := by
    unfold cE; split
    · exact .inl ‹_›
    · exact .inr rfl
  simp only [eA, fst0] at h
  by_cases h1 : cE l n = 0
  · by_cases h2 : -16 ≤ sh ∧ sh ≤ 16
    · by_cases h3 : 0 ≤ b ∧ b ≤ 4096
      · by_cases h4 : 0 ≤ a ∧ a ≤ b
        · exact ⟨by omega, h2, h3, h4⟩
        · simp [h1, h2, h3, h4] at h
      · simp [h1, h2, h3] at h
    · simp [h1, h2] at h
  · simp [h1] at h
def anL (l : List Int) (n : Nat) (sh a b : Int) : List Int := if eA l n sh a b = 0 then ann l n sh a (b - a).toNat else []
def AnsA (H0 : AHeap) (l : List Int) (n : Nat) (sh a b : Int) (v : AV) (H : AHeap) : Prop := ∃ w, v = .tuple [w, .int .i64 (eA l n sh a b)] ∧ Base H0 H ∧ Gr H0 H w (anL l n sh a b)

theorem p_build2v {s : St} {x y : Opd} {z1 z2 v1 v2 : AV} (h1 : evo s x = v1) (h2 : evo s y = v2) (c1 : v1.cell = true) (c2 : v2.cell = true) : ipure (.build [z1, z2] [(0, (1, x)), (1, (1, y))]) s = some (.agg [v1, v2]) := by
  simp [ipure, afill, h1, h2, aparts_cell, c1, c2]

theorem p_negv {s : St} {x : Opd} {a : Int} (h1 : evo s x = .int .i64 a) (h2 : -9223372036854775808 ≤ -a ∧ -a ≤ 9223372036854775807) : ipure (.neg x) s = some (.int .i64 (-a)) := by
  have h3 : (IntKind.i64).wrap (0 - a) = -a := by
    simp [IntKind.wrap, IntKind.signed, IntKind.bits]
    omega
  simp only [ipure, h1, h3]
  try simp [h3]

set_option maxHeartbeats 2000000 in
theorem announce_calls (H0 : AHeap) {κ : SK} {n r : Nat} {l : List Int} {row : ARow} {sh a b : Int} (hk : okS κ n) (hl : l.length = n * 2) (hn : n ≤ maxLen) (hr : Vh.rowAt H0 r = some row) (hc : row.cells = ints .i64 l) :
    ACalls Try.prog 18 [mkS κ r 0 n, .int .i64 sh, .int .i64 a, .int .i64 b] H0 (List.range H0.length) (AnsA H0 l n sh a b) := by
  refine ACalls.body Try.func18 ent_announce ir_announce_ok rs_announce_ok Try.ntmps18 (by simp) rfl ?_
  unfold ir_announce
  have e0 : s0 [mkS κ r 0 n, .int .i64 sh, .int .i64 a, .int .i64 b] 0 = mkS κ r 0 n := rfl
  have e1 : s0 [mkS κ r 0 n, .int .i64 sh, .int .i64 a, .int .i64 b] 1 = .int .i64 sh := rfl
  have e2 : s0 [mkS κ r 0 n, .int .i64 sh, .int .i64 a, .int .i64 b] 2 = .int .i64 a := rfl
  have e3 : s0 [mkS κ r 0 n, .int .i64 sh, .int .i64 a, .int .i64 b] 3 = .int .i64 b := rfl
  have hz : [AV.int .i64 0, AV.int .i64 0].all AV.cell = true := rfl
  simp (disch := omega) only [sN, ↓reduceIte, Nat.reduceEqDiff, Nat.reduceAdd, Nat.reduceMul, Nat.reduceSub, reduceCtorEq, e_none, e_some, e_bindS, e0, e1, e2, e3, List.map_cons, List.map_nil]
  refine ⟨_, (checkClicks_calls H0 hk hl hn hr hc).g.mono ?_⟩
  rintro v H1 ⟨rfl, hB1⟩
  simp (disch := omega) only [sN, ↓reduceIte, Nat.reduceEqDiff, Nat.reduceAdd, Nat.reduceMul, Nat.reduceSub, reduceCtorEq, e_none, e_some, e_bindS, e0, e1, e2, e3, List.map_cons, List.map_nil]
  refine ⟨_, (checkShift_calls H1 sh).g.mono ?_⟩
  rintro v H2 ⟨rfl, hH⟩
  rw [hH]
  simp (disch := omega) only [sN, ↓reduceIte, Nat.reduceEqDiff, Nat.reduceAdd, Nat.reduceMul, Nat.reduceSub, reduceCtorEq, e_none, e_some, e_bindS, e0, e1, e2, e3, List.map_cons, List.map_nil]
  refine ⟨_, (checkCount_calls H1 b 4096).g.mono ?_⟩
  rintro v H2 ⟨rfl, hH⟩
  rw [hH]
  simp (disch := omega) only [sN, ↓reduceIte, Nat.reduceEqDiff, Nat.reduceAdd, Nat.reduceMul, Nat.reduceSub, reduceCtorEq, e_none, e_some, e_bindS, e0, e1, e2, e3, List.map_cons, List.map_nil]
  refine ⟨_, (checkCount_calls H1 a b).g.mono ?_⟩
  rintro v H2 ⟨rfl, hH⟩
  rw [hH]
  obtain ⟨E1, hE1⟩ : ∃ e, e = cE l n := ⟨_, rfl⟩
  obtain ⟨E2, hE2⟩ : ∃ e : Int, e = if -16 ≤ sh ∧ sh ≤ 16 then 0 else 3 := ⟨_, rfl⟩
  obtain ⟨E3, hE3⟩ : ∃ e : Int, e = if 0 ≤ b ∧ b ≤ 4096 then 0 else 3 := ⟨_, rfl⟩
  obtain ⟨E4, hE4⟩ : ∃ e : Int, e = if 0 ≤ a ∧ a ≤ b then 0 else 3 := ⟨_, rfl⟩
  have hE : eA l n sh a b = fst0 [E1, E2, E3, E4] := by unfold eA; rw [hE1, hE2, hE3, hE4]
  rw [← hE1, ← hE2, ← hE3, ← hE4]
  simp (disch := omega) only [sN, ↓reduceIte, Nat.reduceEqDiff, Nat.reduceAdd, Nat.reduceMul, Nat.reduceSub, reduceCtorEq, e_none, e_some, e_bindS, e0, e1, e2, e3]
  rw [x_bs4v (v1 := .int .i64 E1) (v2 := .int .i64 E2) (v3 := .int .i64 E3) (v4 := .int .i64 E4) (by simp only [e_upd, e_putS, e_putN, e_t, e_c, Nat.reduceEqDiff, ↓reduceIte, reduceCtorEq, Nat.reduceAdd]) (by simp only [e_upd, e_putS, e_putN, e_t, e_c, Nat.reduceEqDiff, ↓reduceIte, reduceCtorEq, Nat.reduceAdd]) (by simp only [e_upd, e_putS, e_putN, e_t, e_c, Nat.reduceEqDiff, ↓reduceIte, reduceCtorEq, Nat.reduceAdd]) (by simp only [e_upd, e_putS, e_putN, e_t, e_c, Nat.reduceEqDiff, ↓reduceIte, reduceCtorEq, Nat.reduceAdd]) rfl rfl rfl rfl]
  simp (disch := omega) only [sN, ↓reduceIte, Nat.reduceEqDiff, Nat.reduceAdd, Nat.reduceMul, Nat.reduceSub, reduceCtorEq, e_none, e_some, e_bindS, e0, e1, e2, e3, List.map_cons, List.map_nil]
  refine ⟨_, (firstError_calls (H1 ++ [rw_ [.int .i64 E1, .int .i64 E2, .int .i64 E3, .int .i64 E4]]) (n := 4) (r := H1.length) (l := [E1, E2, E3, E4]) (row := ⟨true, false, [.int .i64 E1, .int .i64 E2, .int .i64 E3, .int .i64 E4]⟩) rfl (by omega) (by simp [Vh.rowAt, rw_]) rfl).g.mono ?_⟩
  rintro v H3 ⟨rfl, hB3⟩
  have hB : Base H0 H3 := (hB1.app).trans hB3
  clear hB1 hB3 hH
  rw [← hE]
  obtain ⟨E, hEE⟩ : ∃ e, e = eA l n sh a b := ⟨_, rfl⟩
  rw [← hEE]
  by_cases hz0 : E = 0
  · rw [hEE] at hz0
    obtain ⟨hn4, hsh, hb, ha⟩ := eA_zero hz0
    rw [hz0] at hEE
    subst hEE
    simp (disch := omega) only [sN, ↓reduceIte, Nat.reduceEqDiff, Nat.reduceAdd, Nat.reduceMul, Nat.reduceSub, reduceCtorEq, e_none, e_some, e_bindS, e0, e1, e2, e3]
    obtain ⟨lo, hlo⟩ : ∃ x : Int, x = if -sh > a then -sh else a := ⟨_, rfl⟩
    obtain ⟨hi, hhi⟩ : ∃ x : Int, x = if (n : Int) - sh < b then (n : Int) - sh else b := ⟨_, rfl⟩
    have l1 : a ≤ lo ∧ -sh ≤ lo ∧ (lo = a ∨ lo = -sh) := by rw [hlo]; split <;> omega
    have l2 : hi ≤ b ∧ hi ≤ n - sh ∧ (hi = b ∨ hi = n - sh) := by rw [hhi]; split <;> omega
    rw [p_negv (a := sh) (by simp only [e_upd, e_putS, e_putN, e_t, e_c, Nat.reduceEqDiff, ↓reduceIte, reduceCtorEq, Nat.reduceAdd]) (by omega)]
    simp (disch := omega) only [sN, ↓reduceIte, Nat.reduceEqDiff, Nat.reduceAdd, Nat.reduceMul, Nat.reduceSub, reduceCtorEq, e_none, e_some, e_bindS, e0, e1, e2, e3]
    rw [p_minmax (k := .i64) (k' := .i64) (a := a) (b := -sh) (by simp only [e_upd, e_putS, e_putN, e_t, e_c, Nat.reduceEqDiff, ↓reduceIte, reduceCtorEq, Nat.reduceAdd]) (by simp only [e_upd, e_putS, e_putN, e_t, e_c, Nat.reduceEqDiff, ↓reduceIte, reduceCtorEq, Nat.reduceAdd])]
    simp (disch := omega) only [sN, ↓reduceIte, Nat.reduceEqDiff, Nat.reduceAdd, Nat.reduceMul, Nat.reduceSub, reduceCtorEq, e_none, e_some, e_bindS, e0, e1, e2, e3]
    rw [← hlo]
    have an0 : ann l n sh a (lo - a).toNat = [] := by
      refine ann_more (j := 0) (Nat.zero_le _) fun i _ h => ?_
      unfold hd1; rw [if_neg (by omega)]
    have an1 : ∀ c : Int, lo ≤ c → hi ≤ c → c ≤ lo ∨ c ≤ hi → anL l n sh a b = ann l n sh a (c - a).toNat := fun c h1 h2 h3 => by
      unfold anL; rw [if_pos hz0]
      rcases Int.lt_or_le c b with h | h
      · refine ann_more (by omega) fun i h4 h5 => ?_
        unfold hd1; rw [if_neg (by omega)]
      · refine (ann_more (by omega) fun i h4 h5 => ?_).symm
        unfold hd1; rw [if_neg (by omega)]
    refine ⟨fun t s H => ∃ c : Int, (t : Int) = max lo hi - c ∧ lo ≤ c ∧ (c ≤ lo ∨ c ≤ hi) ∧ Base H0 H ∧ Gr H0 H (s 11) (ann l n sh a (c - a).toNat) ∧ s 0 = mkS κ r 0 n ∧ s 1 = .int .i64 sh ∧ s 3 = .int .i64 b ∧ s 12 = .int .i64 c, (max lo hi - lo).toNat, ⟨lo, by omega, by omega, .inl (by omega), hB, ?_, ?_, ?_, ?_, ?_⟩, ?_⟩
    · rw [an0]; left; refine ⟨rfl, ?_⟩; simp only [e_upd, e_putS, e_putN, e_t, e_c, Nat.reduceEqDiff, ↓reduceIte, reduceCtorEq, Nat.reduceAdd]
    · simp only [e_upd, e_putS, e_putN, e_t, e_c, Nat.reduceEqDiff, ↓reduceIte, reduceCtorEq, Nat.reduceAdd, e0]
    · simp only [e_upd, e_putS, e_putN, e_t, e_c, Nat.reduceEqDiff, ↓reduceIte, reduceCtorEq, Nat.reduceAdd, e1]
    · simp only [e_upd, e_putS, e_putN, e_t, e_c, Nat.reduceEqDiff, ↓reduceIte, reduceCtorEq, Nat.reduceAdd, e3]
    · simp only [e_upd, e_putS, e_putN, e_t, e_c, Nat.reduceEqDiff, ↓reduceIte, reduceCtorEq, Nat.reduceAdd]
    have hr0 := hr
    clear hr hB
    rintro t s H ⟨c, ht, hc1, hc2, hB, hg, h0, h1, h3, h12⟩
    simp (disch := omega) only [sN, ↓reduceIte, Nat.reduceEqDiff, Nat.reduceAdd, Nat.reduceMul, Nat.reduceSub, reduceCtorEq, e_none, e_some, e_bindS, h0, h1, h3, h12, k_len hk]
    rw [p_minmax (k := .i64) (k' := .i64) (a := b) (b := (n : Int) - sh) (by simp only [e_upd, e_putS, e_putN, e_t, e_c, Nat.reduceEqDiff, ↓reduceIte, reduceCtorEq, Nat.reduceAdd]) (by simp only [e_upd, e_putS, e_putN, e_t, e_c, Nat.reduceEqDiff, ↓reduceIte, reduceCtorEq, Nat.reduceAdd])]
    simp (disch := omega) only [sN, ↓reduceIte, Nat.reduceEqDiff, Nat.reduceAdd, Nat.reduceMul, Nat.reduceSub, reduceCtorEq, e_none, e_some, e_bindS, h0, h1, h3, h12]
    rw [← hhi]
    by_cases hlt : c < hi
    · obtain ⟨i, hi'⟩ : ∃ i : Nat, (i : Int) = c + sh := ⟨(c + sh).toNat, by omega⟩
      have hin : i < n := by omega
      obtain ⟨c1, c2⟩ := pair_at hl hin
      have hrH := hB.row hr0
      have ia : aindexAddr 2 (mkS κ r 0 n) (.int .i64 (c + sh)) = some (.ptr r (i * 2)) := by
        rw [← hi', k_idx2 hk (Nat.le_refl n) (by omega) (by omega)]; simp
      simp (disch := omega) only [sN, ↓reduceIte, Nat.reduceEqDiff, Nat.reduceAdd, Nat.reduceMul, Nat.reduceSub, reduceCtorEq, e_none, e_some, e_bindS, h0, h1, h3, h12, ia]
      rw [x_loadNO (n := 2) (r := r) (off := i * 2) (l := [.int .i64 (cb l i), .int .i64 (ck l i)]) (by simp only [e_upd, e_putS, e_putN, e_t, e_c, Nat.reduceEqDiff, ↓reduceIte, reduceCtorEq, Nat.reduceAdd]) hrH (by rw [hc]; exact c1) (by rw [hc]; exact c2)]
      simp (disch := omega) only [sN, ↓reduceIte, Nat.reduceEqDiff, Nat.reduceAdd, Nat.reduceMul, Nat.reduceSub, reduceCtorEq, e_none, e_some, e_bindS, h0, h1, h3, h12]
      rw [x_allocA hz]
      simp (disch := omega) only [sN, ↓reduceIte, Nat.reduceEqDiff, Nat.reduceAdd, Nat.reduceMul, Nat.reduceSub, reduceCtorEq, e_none, e_some, e_bindS, h0, h1, h3, h12]
      rw [x_storeNA (n := 2) (r := H.length) (l := [.int .i64 0, .int .i64 0]) (l' := [.int .i64 (cb l i), .int .i64 (ck l i)]) (by simp only [e_upd, e_putS, e_putN, e_t, e_c, Nat.reduceEqDiff, ↓reduceIte, reduceCtorEq, Nat.reduceAdd]) (by simp only [e_upd, e_putS, e_putN, e_t, e_c, Nat.reduceEqDiff, ↓reduceIte, reduceCtorEq, Nat.reduceAdd]) (by rfl) (by simp [Vh.rowAt, rw_]) rfl rfl]
      rw [set_last]
      have hb2 : Vh.rowAt (H ++ [rw_ [.int .i64 (cb l i), .int .i64 (ck l i)]]) H.length = some ⟨true, false, [.int .i64 (cb l i), .int .i64 (ck l i)]⟩ := by simp [Vh.rowAt, rw_]
      simp (disch := omega) only [sN, ↓reduceIte, Nat.reduceEqDiff, Nat.reduceAdd, Nat.reduceMul, Nat.reduceSub, reduceCtorEq, e_none, e_some, e_bindS, h0, h1, h3, h12]
      rw [x_loadNA (n := 2) (r := H.length) (l := [.int .i64 (cb l i), .int .i64 (ck l i)]) (by simp only [e_upd, e_putS, e_putN, e_t, e_c, Nat.reduceEqDiff, ↓reduceIte, reduceCtorEq, Nat.reduceAdd]) hb2 rfl rfl]
      simp (disch := omega) only [sN, ↓reduceIte, Nat.reduceEqDiff, Nat.reduceAdd, Nat.reduceMul, Nat.reduceSub, reduceCtorEq, e_none, e_some, e_bindS, h0, h1, h3, h12, List.map_cons, List.map_nil]
      refine ⟨_, (isHeard_calls _ (cb l i) (ck l i)).g.mono ?_⟩
      rintro v H' ⟨rfl, hB'⟩
      have hB2 := hB.app.trans hB'
      have hg2 := (hg.app (R := [rw_ [.int .i64 (cb l i), .int .i64 (ck l i)]])).base hB'
      have hb3 := hB'.row hb2
      have hst : ann l n sh a (c + 1 - a).toNat = ann l n sh a (c - a).toNat ++ hd1 l n sh c := by
        rw [show (c + 1 - a).toNat = (c - a).toNat + 1 by omega, ann, show a + ((c - a).toNat : Int) = c by omega]
      have hcn : (c + sh).toNat = i := by omega
      by_cases hk2 : ck l i = 1 ∨ ck l i = 2
      · have hh : hd1 l n sh c = [c, cb l i] := by unfold hd1; rw [if_pos (by rw [hcn]; exact ⟨by omega, by omega, hk2⟩), hcn]
        rw [hh] at hst
        rw [decide_eq_true hk2]
        simp (disch := omega) only [sN, ↓reduceIte, Nat.reduceEqDiff, Nat.reduceAdd, Nat.reduceMul, Nat.reduceSub, reduceCtorEq, e_none, e_some, e_bindS, h0, h1, h3, h12, p_fieldAddr, Nat.zero_add, hb3, Option.bind_some, Option.map_some, List.getElem?_cons_zero, List.getElem?_cons_succ]
        rw [p_build2v (v1 := .int .i64 c) (v2 := .int .i64 (cb l i)) (by simp only [e_upd, e_putS, e_putN, e_t, e_c, Nat.reduceEqDiff, ↓reduceIte, reduceCtorEq, Nat.reduceAdd]) (by simp only [e_upd, e_putS, e_putN, e_t, e_c, Nat.reduceEqDiff, ↓reduceIte, reduceCtorEq, Nat.reduceAdd]) rfl rfl]
        simp (disch := omega) only [sN, ↓reduceIte, Nat.reduceEqDiff, Nat.reduceAdd, Nat.reduceMul, Nat.reduceSub, reduceCtorEq, e_none, e_some, e_bindS, h0, h1, h3, h12]
        rw [x_bsA1 (v1 := .int .i64 c) (v2 := .int .i64 (cb l i)) (by simp only [e_upd, e_putS, e_putN, e_t, e_c, Nat.reduceEqDiff, ↓reduceIte, reduceCtorEq, Nat.reduceAdd]) rfl rfl]
        simp (disch := omega) only [sN, ↓reduceIte, Nat.reduceEqDiff, Nat.reduceAdd, Nat.reduceMul, Nat.reduceSub, reduceCtorEq, e_none, e_some, e_bindS, h0, h1, h3, h12]
        have hlen := ann_len (l := l) (n := n) (sh := sh) (a := a) (c - a).toNat
        obtain ⟨v', H'', ea, eg, eb⟩ := x_appG (H0 := H0) (H := H' ++ [rw_ [.int .i64 c, .int .i64 (cb l i)]]) (v := s 11) (l := ann l n sh a (c - a).toNat) (a := c) (b := cb l i) (r := H'.length) (c := 1) (row := ⟨true, false, [.int .i64 c, .int .i64 (cb l i)]⟩) hg2.app (by simp [Vh.rowAt, rw_]) rfl (by omega) hB2.app
        rw [ea _ _ _ (by simp only [e_upd, e_putS, e_putN, e_t, e_c, Nat.reduceEqDiff, ↓reduceIte, reduceCtorEq, Nat.reduceAdd]) (by simp only [e_upd, e_putS, e_putN, e_t, e_c, Nat.reduceEqDiff, ↓reduceIte, reduceCtorEq, Nat.reduceAdd])]
        simp (disch := omega) only [sN, ↓reduceIte, Nat.reduceEqDiff, Nat.reduceAdd, Nat.reduceMul, Nat.reduceSub, reduceCtorEq, e_none, e_some, e_bindS, h0, h1, h3, h12]
        refine loop_keep (m := t - 1) (by omega) ⟨c + 1, by omega, by omega, by omega, eb, ?_, ?_, ?_, ?_, ?_⟩
        · rw [hst]; simp only [e_upd, e_putS, e_putN, e_t, e_c, Nat.reduceEqDiff, ↓reduceIte, reduceCtorEq, Nat.reduceAdd]; exact eg
        · simp only [e_upd, e_putS, e_putN, e_t, e_c, Nat.reduceEqDiff, ↓reduceIte, reduceCtorEq, Nat.reduceAdd, h0]
        · simp only [e_upd, e_putS, e_putN, e_t, e_c, Nat.reduceEqDiff, ↓reduceIte, reduceCtorEq, Nat.reduceAdd, h1]
        · simp only [e_upd, e_putS, e_putN, e_t, e_c, Nat.reduceEqDiff, ↓reduceIte, reduceCtorEq, Nat.reduceAdd, h3]
        · simp only [e_upd, e_putS, e_putN, e_t, e_c, Nat.reduceEqDiff, ↓reduceIte, reduceCtorEq, Nat.reduceAdd]; first | done | rfl
      · have hh : hd1 l n sh c = [] := by unfold hd1; rw [if_neg (by rw [hcn]; exact fun h => hk2 h.2.2)]
        rw [hh, List.append_nil] at hst
        rw [decide_eq_false hk2]
        simp (disch := omega) only [sN, ↓reduceIte, Nat.reduceEqDiff, Nat.reduceAdd, Nat.reduceMul, Nat.reduceSub, reduceCtorEq, e_none, e_some, e_bindS, h0, h1, h3, h12]
        refine loop_keep (m := t - 1) (by omega) ⟨c + 1, by omega, by omega, by omega, hB2, ?_, ?_, ?_, ?_, ?_⟩
        · rw [hst]; simp only [e_upd, e_putS, e_putN, e_t, e_c, Nat.reduceEqDiff, ↓reduceIte, reduceCtorEq, Nat.reduceAdd]; exact hg2
        · simp only [e_upd, e_putS, e_putN, e_t, e_c, Nat.reduceEqDiff, ↓reduceIte, reduceCtorEq, Nat.reduceAdd, h0]
        · simp only [e_upd, e_putS, e_putN, e_t, e_c, Nat.reduceEqDiff, ↓reduceIte, reduceCtorEq, Nat.reduceAdd, h1]
        · simp only [e_upd, e_putS, e_putN, e_t, e_c, Nat.reduceEqDiff, ↓reduceIte, reduceCtorEq, Nat.reduceAdd, h3]
        · simp only [e_upd, e_putS, e_putN, e_t, e_c, Nat.reduceEqDiff, ↓reduceIte, reduceCtorEq, Nat.reduceAdd]; first | done | rfl
    · simp (disch := omega) only [sN, ↓reduceIte, Nat.reduceEqDiff, Nat.reduceAdd, Nat.reduceMul, Nat.reduceSub, reduceCtorEq, e_none, e_some, e_bindS, h0, h1, h3, h12]
      refine ret_keep hB.1 ?_
      rw [show rs_announce = [.tmp 8, .tmp 9] from rfl, q_tmp2, q_then]
      refine ⟨s 11, ?_, hB, ?_⟩
      · rw [hz0]; simp only [e_upd, e_putS, e_putN, e_t, e_c, Nat.reduceEqDiff, ↓reduceIte, reduceCtorEq, Nat.reduceAdd]
      · rw [an1 c (by omega) (by omega) (by omega)]; exact hg
  · simp (disch := omega) only [sN, ↓reduceIte, Nat.reduceEqDiff, Nat.reduceAdd, Nat.reduceMul, Nat.reduceSub, reduceCtorEq, e_none, e_some, e_bindS, e0, e1, e2, e3]
    refine ret_keep hB.1 ?_
    rw [show rs_announce = [.tmp 8, .tmp 9] from rfl, q_tmp2, q_then]
    refine ⟨.nilslice, ?_, hB, ?_⟩
    · rw [← hEE]; simp only [e_upd, e_putS, e_putN, e_t, e_c, Nat.reduceEqDiff, ↓reduceIte, reduceCtorEq, Nat.reduceAdd]
    · left; exact ⟨by unfold anL; rw [if_neg (by rw [← hEE]; exact hz0)], rfl⟩
end Go.Proofs.Ythbhljolpnbdlaa

