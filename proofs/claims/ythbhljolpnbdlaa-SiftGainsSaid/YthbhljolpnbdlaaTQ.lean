/- Contracts of stage 4: what was kept is checked. -/
import Derived.Test.YthbhljolpnbdlaaVX
import Derived.Test.YthbhljolpnbdlaaTH
import Derived.Test.YthbhljolpnbdlaaSIr11
set_option linter.unusedSimpArgs false
set_option linter.unusedVariables false
-- NEWSET
namespace Go.Proofs.Ythbhljolpnbdlaa
open Go Go.Vh

/-- are all kept slots seen? -/
def seenA (L : List Pul) (l : List Int) : Bool := l.all fun x => (L.getD x.toNat default).seen
/-- the error of what was kept -/
def kpE (L : List Pul) (l : List Int) (nb : Nat) (f : Int) : Int :=
  if fst0 [pE L, if 0 ≤ f ∧ f ≤ 4096 then 0 else 3, gE l 0 L.length l.length] = 0 then
    (if 0 < l.length ∧ l.getD 0 0 < f then 3 else if nb = l.length then (if seenA L l then 0 else 11) else 22)
  else fst0 [pE L, if 0 ≤ f ∧ f ≤ 4096 then 0 else 3, gE l 0 L.length l.length]
theorem x_bs3k {s : St} {H : AHeap} {x1 x2 x3 : Opd} {z1 z2 z3 v1 v2 v3 : AV} (h1 : evo s x1 = v1) (h2 : evo s x2 = v2) (h3 : evo s x3 = v3) (c1 : v1.cell = true) (c2 : v2.cell = true) (c3 : v3.cell = true) (d2 : z2.cell = true) (d3 : z3.cell = true) :
    ieff (.buildSlice 3 [z1, z2, z3] [(0, (1, x1)), (1, (1, x2)), (2, (1, x3))]) s H = some (.slice H.length 0 3 3, H ++ [rw_ [v1, v2, v3]]) := by
  subst h1; subst h2; subst h3
  simp [ieff, afill, aparts_cell, c1, c2, c3, d2, d3, anew, rw_]
theorem fst0_3 {a b c : Int} (h : fst0 [a, b, c] = 0) : a = 0 ∧ b = 0 ∧ c = 0 := by
  by_cases h1 : a = 0
  · by_cases h2 : b = 0
    · by_cases h3 : c = 0
      · exact ⟨h1, h2, h3⟩
      · simp [fst0, h1, h2, h3] at h
    · simp [fst0, h1, h2] at h
  · simp [fst0, h1] at h
theorem seenA_false {L : List Pul} {l : List Int} {i : Nat} (h : i < l.length) (hs : (L.getD (l.getD i 0).toNat default).seen = false) : seenA L l = false := by
  unfold seenA
  rw [List.all_eq_false]
  refine ⟨l[i], List.getElem_mem h, ?_⟩
  rw [List.getD_eq_getElem?_getD (l := l), List.getElem?_eq_getElem h, Option.getD_some] at hs
  rw [hs]; decide
theorem seenA_true {L : List Pul} {l : List Int} (h : ∀ i, i < l.length → (L.getD (l.getD i 0).toNat default).seen = true) : seenA L l = true := by
  unfold seenA
  rw [List.all_eq_true]
  intro x hx
  obtain ⟨i, hi, rfl⟩ := List.getElem_of_mem hx
  have := h i hi
  rwa [List.getD_eq_getElem?_getD (l := l), List.getElem?_eq_getElem hi, Option.getD_some] at this

set_option maxHeartbeats 2000000 in
theorem checkKept_calls (H0 : AHeap) {κ κ' : SK} {n m r r' nb : Nat} {L : List Pul} {l : List Int} {row row' : ARow} {w : AV} {f : Int} (hk : okS κ m) (hl : L.length = m) (hm : m ≤ maxLen) (hr : Vh.rowAt H0 r = some row) (hc : row.cells = pcells L)
    (hk' : okS κ' n) (hl' : l.length = n) (hn : n ≤ 400) (hr' : Vh.rowAt H0 r' = some row') (hc' : row'.cells = ints .i64 l) (hw : alen w = some nb) (hnb : nb ≤ maxLen) (hfr : -9223372036854775808 ≤ f ∧ f ≤ 9223372036854775807) :
    ACalls Try.prog 70 [mkS κ r 0 m, mkS κ' r' 0 n, w, .int .i64 f] H0 (List.range H0.length) fun v H => v = .int .i64 (kpE L l nb f) ∧ Base H0 H := by
  refine ACalls.body Try.func70 ent_checkKept ir_checkKept_ok rs_checkKept_ok Try.ntmps70 (by simp) rfl ?_
  unfold ir_checkKept
  have e0 : s0 [mkS κ r 0 m, mkS κ' r' 0 n, w, .int .i64 f] 0 = mkS κ r 0 m := rfl
  have e1 : s0 [mkS κ r 0 m, mkS κ' r' 0 n, w, .int .i64 f] 1 = mkS κ' r' 0 n := rfl
  have e2 : s0 [mkS κ r 0 m, mkS κ' r' 0 n, w, .int .i64 f] 2 = w := rfl
  have e3 : s0 [mkS κ r 0 m, mkS κ' r' 0 n, w, .int .i64 f] 3 = .int .i64 f := rfl
  rw [show rs_checkKept = [.tmp 8] from rfl]
  simp (disch := omega) only [sN, ↓reduceIte, Nat.reduceEqDiff, Nat.reduceAdd, Nat.reduceMul, Nat.reduceSub, reduceCtorEq, e_none, e_some, e_bindS, e0, e1, e2, e3, List.map_cons, List.map_nil]
  refine ⟨_, (checkPulses_calls H0 hk hl hm hr hc).g.mono ?_⟩
  rintro v H1 ⟨rfl, hB1⟩
  simp (disch := omega) only [sN, ↓reduceIte, Nat.reduceEqDiff, Nat.reduceAdd, Nat.reduceMul, Nat.reduceSub, reduceCtorEq, e_none, e_some, e_bindS, e0, e1, e2, e3, List.map_cons, List.map_nil]
  refine ⟨_, (checkCount_calls H1 f 4096).g.mono ?_⟩
  rintro v Hx ⟨rfl, hHx⟩
  rw [hHx]
  clear hHx Hx
  simp (disch := omega) only [sN, ↓reduceIte, Nat.reduceEqDiff, Nat.reduceAdd, Nat.reduceMul, Nat.reduceSub, reduceCtorEq, e_none, e_some, e_bindS, e0, e1, e2, e3, List.map_cons, List.map_nil]
  refine ⟨_, (slotsOf_calls H1 hk).g.mono ?_⟩
  rintro v H2 ⟨rfl, hH2⟩
  have hB2 : Base H1 H2 := by rw [hH2]; exact Base.one.app
  have rp : Vh.rowAt H2 H1.length = some ⟨true, false, [.int .i64 0]⟩ := by rw [hH2, rowAt_append_left (by simp)]; simp [Vh.rowAt, rw_]
  have rq : Vh.rowAt H2 (H1.length + 1) = some ⟨true, false, [.int .i64 (m : Int)]⟩ := by
    rw [hH2, show H1.length + 1 = (H1 ++ [rw_ [AV.int .i64 0]]).length by simp]; simp [Vh.rowAt, rw_]
  have hB12 := hB1.trans hB2
  clear hH2
  simp (disch := omega) only [sN, ↓reduceIte, Nat.reduceEqDiff, Nat.reduceAdd, Nat.reduceMul, Nat.reduceSub, reduceCtorEq, e_none, e_some, e_bindS, e0, e1, e2, e3, List.map_cons, List.map_nil]
  refine ⟨_, (checkSlots_calls H2 hk' hl' (by unfold maxLen; omega) (hB12.row hr') hc' rp rfl rq rfl).g.mono ?_⟩
  rintro v H3 ⟨rfl, hB3⟩
  have hB := hB12.trans hB3
  clear rp rq hB1 hB2 hB12 hB3
  obtain ⟨E1, hE1⟩ : ∃ e, e = pE L := ⟨_, rfl⟩
  obtain ⟨E2, hE2⟩ : ∃ e : Int, e = if 0 ≤ f ∧ f ≤ 4096 then 0 else 3 := ⟨_, rfl⟩
  obtain ⟨E3, hE3⟩ : ∃ e, e = gE l 0 m n := ⟨_, rfl⟩
  have hkp : kpE L l nb f = if fst0 [E1, E2, E3] = 0 then (if 0 < n ∧ l.getD 0 0 < f then 3 else if nb = n then (if seenA L l then 0 else 11) else 22) else fst0 [E1, E2, E3] := by
    unfold kpE; rw [hE1, hE2, hE3, hl, hl']
  rw [← hE1, ← hE2, ← hE3]
  simp (disch := omega) only [sN, ↓reduceIte, Nat.reduceEqDiff, Nat.reduceAdd, Nat.reduceMul, Nat.reduceSub, reduceCtorEq, e_none, e_some, e_bindS, e0, e1, e2, e3]
  rw [x_bs3k (v1 := .int .i64 E1) (v2 := .int .i64 E2) (v3 := .int .i64 E3) (by simp only [e_upd, e_putS, e_putN, e_t, e_c, Nat.reduceEqDiff, ↓reduceIte, reduceCtorEq, Nat.reduceAdd]) (by simp only [e_upd, e_putS, e_putN, e_t, e_c, Nat.reduceEqDiff, ↓reduceIte, reduceCtorEq, Nat.reduceAdd]) (by simp only [e_upd, e_putS, e_putN, e_t, e_c, Nat.reduceEqDiff, ↓reduceIte, reduceCtorEq, Nat.reduceAdd]) rfl rfl rfl rfl rfl]
  simp (disch := omega) only [sN, ↓reduceIte, Nat.reduceEqDiff, Nat.reduceAdd, Nat.reduceMul, Nat.reduceSub, reduceCtorEq, e_none, e_some, e_bindS, e0, e1, e2, e3, List.map_cons, List.map_nil]
  refine ⟨_, (firstError_calls (H3 ++ [rw_ [.int .i64 E1, .int .i64 E2, .int .i64 E3]]) (n := 3) (r := H3.length) (l := [E1, E2, E3]) (row := ⟨true, false, [.int .i64 E1, .int .i64 E2, .int .i64 E3]⟩) rfl (by omega) (by simp [Vh.rowAt, rw_]) rfl).g.mono ?_⟩
  rintro v H4 ⟨rfl, hB4⟩
  have hB5 := hB.app.trans hB4
  clear hB hB4
  by_cases he : fst0 [E1, E2, E3] = 0
  case neg =>
    rw [if_neg he] at hkp
    rw [← hkp] at he ⊢
    have hne : abin .neq (.int .i64 (kpE L l nb f)) (.int .i64 0) = some (.bool true) := by simp [abin, aint, he]
    simp (disch := omega) only [sN, ↓reduceIte, Nat.reduceEqDiff, Nat.reduceAdd, Nat.reduceMul, Nat.reduceSub, reduceCtorEq, e_none, e_some, e_bindS, e0, e1, e2, e3, hne]
    refine ret_keep hB5.1 ?_
    rw [q_tmp, q_then]
    refine ⟨?_, hB5⟩
    simp only [e_upd, e_putS, e_putN, e_t, e_c, Nat.reduceEqDiff, ↓reduceIte, reduceCtorEq, Nat.reduceAdd]
  rw [if_pos he] at hkp
  obtain ⟨_, _, hfz⟩ := fst0_3 he
  rw [he]
  rw [hE3] at hfz
  have hrH' := hB5.row hr'
  have hrH := hB5.row hr
  have hn' : (n : Int) ≤ 9223372036854775807 := by omega
  have hnb' : (nb : Int) ≤ 9223372036854775807 := by unfold maxLen at hnb; omega
  by_cases hp0 : 0 < n
  case neg =>
    rw [if_neg (fun h => hp0 h.1)] at hkp
    by_cases hnn : nb = n
    case neg =>
      rw [if_neg hnn] at hkp
      simp (disch := omega) only [sN, ↓reduceIte, Nat.reduceEqDiff, Nat.reduceAdd, Nat.reduceMul, Nat.reduceSub, reduceCtorEq, e_none, e_some, e_bindS, e0, e1, e2, e3, k_len hk', hw]
      refine ret_keep hB5.1 ?_
      rw [q_tmp, q_then]
      refine ⟨?_, hB5⟩
      simp only [e_upd, e_putS, e_putN, e_t, e_c, Nat.reduceEqDiff, ↓reduceIte, reduceCtorEq, Nat.reduceAdd, hkp]
    rw [if_pos hnn] at hkp
    simp (disch := omega) only [sN, ↓reduceIte, Nat.reduceEqDiff, Nat.reduceAdd, Nat.reduceMul, Nat.reduceSub, reduceCtorEq, e_none, e_some, e_bindS, e0, e1, e2, e3, k_len hk', hw]
    refine ⟨fun t s H => ∃ i : Nat, t = n - i ∧ i ≤ n ∧ H = H4 ∧ (∀ j, j < i → (L.getD (l.getD j 0).toNat default).seen = true) ∧ s 0 = mkS κ r 0 m ∧ s 42 = mkS κ' r' 0 n ∧ s 43 = .int .i64 n ∧ s 44 = .int .i64 (i : Int), n, ⟨0, rfl, by omega, rfl, fun j h => by omega, ?_, ?_, ?_, ?_⟩, ?_⟩
    · simp only [e_upd, e_putS, e_putN, e_t, e_c, Nat.reduceEqDiff, ↓reduceIte, reduceCtorEq, Nat.reduceAdd, e0]
    · simp only [e_upd, e_putS, e_putN, e_t, e_c, Nat.reduceEqDiff, ↓reduceIte, reduceCtorEq, Nat.reduceAdd, e1]
    · simp only [e_upd, e_putS, e_putN, e_t, e_c, Nat.reduceEqDiff, ↓reduceIte, reduceCtorEq, Nat.reduceAdd]
    · simp only [e_upd, e_putS, e_putN, e_t, e_c, Nat.reduceEqDiff, ↓reduceIte, reduceCtorEq, Nat.reduceAdd]; first | done | rfl
    rintro t s H ⟨i, rfl, hi, hH, hS, h0, h42, h43, h44⟩
    rw [hH]
    by_cases hlt : i < n
    · have hin := gE_ok hfz hlt
      have hgx : row'.cells[i]? = some (.int .i64 (l.getD i 0)) := by rw [hc']; exact ints_get (by omega)
      obtain ⟨x, hx⟩ : ∃ x, x = l.getD i 0 := ⟨_, rfl⟩
      rw [← hx] at hin hgx
      have g4 := pulse_get (L := L) (i := x.toNat) (j := 4) (by omega) (by omega)
      have hse : (L.getD (l.getD i 0).toNat default).seen = (L.getD x.toNat default).seen := by rw [hx]
      obtain ⟨p, hp⟩ : ∃ p, p = L.getD x.toNat default := ⟨_, rfl⟩
      rw [← hp] at g4 hse
      rw [← hc] at g4
      have g4' : row.cells[x.toNat * 5 + 4]? = some (.bool p.seen) := g4
      obtain ⟨y, hy⟩ : ∃ y, y = p.seen := ⟨_, rfl⟩
      rw [← hy] at g4' hse
      have ia : aindexAddr 1 (mkS κ' r' 0 n) (.int .i64 (i : Int)) = some (.ptr r' i) := by
        rw [k_idx hk' (Nat.le_refl n) (by omega) (by omega)]; simp
      have ib : aindexAddr 5 (mkS κ r 0 m) (.int .i64 x) = some (.ptr r (x.toNat * 5)) := by
        rw [k_idx5 hk (Nat.le_refl m) (by omega) (by omega)]; simp
      cases hyy : y
      · rw [hyy] at hse g4'
        simp (disch := omega) only [sN, ↓reduceIte, Nat.reduceEqDiff, Nat.reduceAdd, Nat.reduceMul, Nat.reduceSub, reduceCtorEq, e_none, e_some, e_bindS, h0, h42, h43, h44, ia, ib, hrH', hgx, hrH, p_fieldAddr, g4', Option.bind_some, Option.map_some]
        refine ret_keep hB5.1 ?_
        rw [q_tmp, q_then]
        refine ⟨?_, hB5⟩
        rw [hkp, seenA_false (by omega) hse]
        simp only [e_upd, e_putS, e_putN, e_t, e_c, Nat.reduceEqDiff, ↓reduceIte, reduceCtorEq, Nat.reduceAdd]; try rfl
      · rw [hyy] at hse g4'
        simp (disch := omega) only [sN, ↓reduceIte, Nat.reduceEqDiff, Nat.reduceAdd, Nat.reduceMul, Nat.reduceSub, reduceCtorEq, e_none, e_some, e_bindS, h0, h42, h43, h44, ia, ib, hrH', hgx, hrH, p_fieldAddr, g4', Option.bind_some, Option.map_some]
        refine loop_keep (m := n - (i + 1)) (by omega) ⟨i + 1, rfl, by omega, rfl, fun j hj => ?_, ?_, ?_, ?_, ?_⟩
        · rcases Nat.lt_or_ge j i with h | h
          · exact hS j h
          · obtain rfl : j = i := by omega
            exact hse
        · simp only [e_upd, e_putS, e_putN, e_t, e_c, Nat.reduceEqDiff, ↓reduceIte, reduceCtorEq, Nat.reduceAdd, h0]
        · simp only [e_upd, e_putS, e_putN, e_t, e_c, Nat.reduceEqDiff, ↓reduceIte, reduceCtorEq, Nat.reduceAdd, h42]
        · simp only [e_upd, e_putS, e_putN, e_t, e_c, Nat.reduceEqDiff, ↓reduceIte, reduceCtorEq, Nat.reduceAdd, h43]
        · simp only [e_upd, e_putS, e_putN, e_t, e_c, Nat.reduceEqDiff, ↓reduceIte, reduceCtorEq, Nat.reduceAdd]; first | done | rfl
    · obtain rfl : i = n := by omega
      simp (disch := omega) only [sN, ↓reduceIte, Nat.reduceEqDiff, Nat.reduceAdd, Nat.reduceMul, Nat.reduceSub, reduceCtorEq, e_none, e_some, e_bindS, h42, h43, h44]
      refine ret_keep hB5.1 ?_
      rw [q_tmp, q_then]
      refine ⟨?_, hB5⟩
      rw [hkp, seenA_true (fun j hj => hS j (by omega))]
      simp only [e_upd, e_putS, e_putN, e_t, e_c, Nat.reduceEqDiff, ↓reduceIte, reduceCtorEq, Nat.reduceAdd]; try rfl
  have hg0 : row'.cells[0]? = some (.int .i64 (l.getD 0 0)) := by rw [hc']; exact ints_get (by omega)
  have ia0 : aindexAddr 1 (mkS κ' r' 0 n) (.int .i64 0) = some (.ptr r' 0) := by
    rw [k_idx hk' (Nat.le_refl n) (by omega) (by omega)]; simp
  obtain ⟨z, hz⟩ : ∃ z, z = l.getD 0 0 := ⟨_, rfl⟩
  have hz0 := gE_ok hfz hp0
  rw [← hz] at hg0 hkp hz0
  have hrow0 : Vh.rowAt H4 r' = some row' := hrH'
  by_cases hzf : z < f
  case pos =>
    rw [if_pos ⟨hp0, hzf⟩] at hkp
    simp (disch := omega) only [sN, ↓reduceIte, Nat.reduceEqDiff, Nat.reduceAdd, Nat.reduceMul, Nat.reduceSub, reduceCtorEq, e_none, e_some, e_bindS, e0, e1, e2, e3, k_len hk', hw, ia0, hrH', hg0, Option.bind_some]
    refine ret_keep hB5.1 ?_
    rw [q_tmp, q_then]
    refine ⟨?_, hB5⟩
    simp only [e_upd, e_putS, e_putN, e_t, e_c, Nat.reduceEqDiff, ↓reduceIte, reduceCtorEq, Nat.reduceAdd, hkp]
  rw [if_neg (fun h => hzf h.2)] at hkp
  by_cases hnn : nb = n
  case neg =>
    rw [if_neg hnn] at hkp
    simp (disch := omega) only [sN, ↓reduceIte, Nat.reduceEqDiff, Nat.reduceAdd, Nat.reduceMul, Nat.reduceSub, reduceCtorEq, e_none, e_some, e_bindS, e0, e1, e2, e3, k_len hk', hw, ia0, hrH', hg0, Option.bind_some]
    refine ret_keep hB5.1 ?_
    rw [q_tmp, q_then]
    refine ⟨?_, hB5⟩
    simp only [e_upd, e_putS, e_putN, e_t, e_c, Nat.reduceEqDiff, ↓reduceIte, reduceCtorEq, Nat.reduceAdd, hkp]
  rw [if_pos hnn] at hkp
  simp (disch := omega) only [sN, ↓reduceIte, Nat.reduceEqDiff, Nat.reduceAdd, Nat.reduceMul, Nat.reduceSub, reduceCtorEq, e_none, e_some, e_bindS, e0, e1, e2, e3, k_len hk', hw, ia0, hrH', hg0, Option.bind_some]
  refine ⟨fun t s H => ∃ i : Nat, t = n - i ∧ i ≤ n ∧ H = H4 ∧ (∀ j, j < i → (L.getD (l.getD j 0).toNat default).seen = true) ∧ s 0 = mkS κ r 0 m ∧ s 42 = mkS κ' r' 0 n ∧ s 43 = .int .i64 n ∧ s 44 = .int .i64 (i : Int), n, ⟨0, rfl, by omega, rfl, fun j h => by omega, ?_, ?_, ?_, ?_⟩, ?_⟩
  · simp only [e_upd, e_putS, e_putN, e_t, e_c, Nat.reduceEqDiff, ↓reduceIte, reduceCtorEq, Nat.reduceAdd, e0]
  · simp only [e_upd, e_putS, e_putN, e_t, e_c, Nat.reduceEqDiff, ↓reduceIte, reduceCtorEq, Nat.reduceAdd, e1]
  · simp only [e_upd, e_putS, e_putN, e_t, e_c, Nat.reduceEqDiff, ↓reduceIte, reduceCtorEq, Nat.reduceAdd]
  · simp only [e_upd, e_putS, e_putN, e_t, e_c, Nat.reduceEqDiff, ↓reduceIte, reduceCtorEq, Nat.reduceAdd]; first | done | rfl
  rintro t s H ⟨i, rfl, hi, hH, hS, h0, h42, h43, h44⟩
  rw [hH]
  by_cases hlt : i < n
  · have hin := gE_ok hfz hlt
    have hgx : row'.cells[i]? = some (.int .i64 (l.getD i 0)) := by rw [hc']; exact ints_get (by omega)
    obtain ⟨x, hx⟩ : ∃ x, x = l.getD i 0 := ⟨_, rfl⟩
    rw [← hx] at hin hgx
    have g4 := pulse_get (L := L) (i := x.toNat) (j := 4) (by omega) (by omega)
    have hse : (L.getD (l.getD i 0).toNat default).seen = (L.getD x.toNat default).seen := by rw [hx]
    obtain ⟨p, hp⟩ : ∃ p, p = L.getD x.toNat default := ⟨_, rfl⟩
    rw [← hp] at g4 hse
    rw [← hc] at g4
    have g4' : row.cells[x.toNat * 5 + 4]? = some (.bool p.seen) := g4
    obtain ⟨y, hy⟩ : ∃ y, y = p.seen := ⟨_, rfl⟩
    rw [← hy] at g4' hse
    have ia : aindexAddr 1 (mkS κ' r' 0 n) (.int .i64 (i : Int)) = some (.ptr r' i) := by
      rw [k_idx hk' (Nat.le_refl n) (by omega) (by omega)]; simp
    have ib : aindexAddr 5 (mkS κ r 0 m) (.int .i64 x) = some (.ptr r (x.toNat * 5)) := by
      rw [k_idx5 hk (Nat.le_refl m) (by omega) (by omega)]; simp
    cases hyy : y
    · rw [hyy] at hse g4'
      simp (disch := omega) only [sN, ↓reduceIte, Nat.reduceEqDiff, Nat.reduceAdd, Nat.reduceMul, Nat.reduceSub, reduceCtorEq, e_none, e_some, e_bindS, h0, h42, h43, h44, ia, ib, hrH', hgx, hrH, p_fieldAddr, g4', Option.bind_some, Option.map_some]
      refine ret_keep hB5.1 ?_
      rw [q_tmp, q_then]
      refine ⟨?_, hB5⟩
      rw [hkp, seenA_false (by omega) hse]
      simp only [e_upd, e_putS, e_putN, e_t, e_c, Nat.reduceEqDiff, ↓reduceIte, reduceCtorEq, Nat.reduceAdd]; try rfl
    · rw [hyy] at hse g4'
      simp (disch := omega) only [sN, ↓reduceIte, Nat.reduceEqDiff, Nat.reduceAdd, Nat.reduceMul, Nat.reduceSub, reduceCtorEq, e_none, e_some, e_bindS, h0, h42, h43, h44, ia, ib, hrH', hgx, hrH, p_fieldAddr, g4', Option.bind_some, Option.map_some]
      refine loop_keep (m := n - (i + 1)) (by omega) ⟨i + 1, rfl, by omega, rfl, fun j hj => ?_, ?_, ?_, ?_, ?_⟩
      · rcases Nat.lt_or_ge j i with h | h
        · exact hS j h
        · obtain rfl : j = i := by omega
          exact hse
      · simp only [e_upd, e_putS, e_putN, e_t, e_c, Nat.reduceEqDiff, ↓reduceIte, reduceCtorEq, Nat.reduceAdd, h0]
      · simp only [e_upd, e_putS, e_putN, e_t, e_c, Nat.reduceEqDiff, ↓reduceIte, reduceCtorEq, Nat.reduceAdd, h42]
      · simp only [e_upd, e_putS, e_putN, e_t, e_c, Nat.reduceEqDiff, ↓reduceIte, reduceCtorEq, Nat.reduceAdd, h43]
      · simp only [e_upd, e_putS, e_putN, e_t, e_c, Nat.reduceEqDiff, ↓reduceIte, reduceCtorEq, Nat.reduceAdd]; first | done | rfl
  · obtain rfl : i = n := by omega
    simp (disch := omega) only [sN, ↓reduceIte, Nat.reduceEqDiff, Nat.reduceAdd, Nat.reduceMul, Nat.reduceSub, reduceCtorEq, e_none, e_some, e_bindS, h42, h43, h44]
    refine ret_keep hB5.1 ?_
    rw [q_tmp, q_then]
    refine ⟨?_, hB5⟩
    rw [hkp, seenA_true (fun j hj => hS j (by omega))]
    simp only [e_upd, e_putS, e_putN, e_t, e_c, Nat.reduceEqDiff, ↓reduceIte, reduceCtorEq, Nat.reduceAdd]; try rfl
end Go.Proofs.Ythbhljolpnbdlaa


/- Contracts of stage 4: what became of the classes. -/
-- NEWSET
namespace Go.Proofs.Ythbhljolpnbdlaa
open Go Go.Vh

/-- one more in one place -/
def incG (G : List Int) (k : Nat) : List Int := G.set k (IntKind.i64.wrap (G.getD k 0 + 1))
theorem incG_len {G : List Int} {k : Nat} : (incG G k).length = G.length := by simp [incG]
def z9 : List Int := [0, 0, 0, 0, 0, 0, 0, 0, 0]
def gS (L : List Pul) (f : Int) : Nat → List Int
  | 0 => z9
  | i + 1 => if f ≤ (i : Int) ∧ (L.getD i default).seen = true then incG (gS L f i) ((L.getD i default).cl.toNat * 3) else gS L f i
def gH (L : List Pul) (l : List Int) (b : Nat → Bool) (G0 : List Int) : Nat → List Int
  | 0 => G0
  | i + 1 => if b i = (L.getD (l.getD i 0).toNat default).bit then incG (gH L l b G0 i) ((L.getD (l.getD i 0).toNat default).cl.toNat * 3 + 1)
      else incG (incG (gH L l b G0 i) ((L.getD (l.getD i 0).toNat default).cl.toNat * 3 + 1)) ((L.getD (l.getD i 0).toNat default).cl.toNat * 3 + 2)
theorem gS_len {L : List Pul} {f : Int} : ∀ i, (gS L f i).length = 9
  | 0 => rfl
  | i + 1 => by
    unfold gS
    split
    · rw [incG_len, gS_len i]
    · exact gS_len i
theorem gH_len {L : List Pul} {l : List Int} {b : Nat → Bool} {G0 : List Int} (h : G0.length = 9) : ∀ i, (gH L l b G0 i).length = 9
  | 0 => h
  | i + 1 => by
    unfold gH
    split
    · rw [incG_len, gH_len h i]
    · rw [incG_len, incG_len, gH_len h i]
theorem gS_zero {L : List Pul} {f : Int} : ∀ i : Nat, (i : Int) ≤ f → gS L f i = z9
  | 0, _ => rfl
  | i + 1, h => by
    unfold gS
    rw [if_neg (fun q => by omega)]
    exact gS_zero i (by omega)
/-- the gains -/
def gnL (L : List Pul) (l : List Int) (nb : Nat) (b : Nat → Bool) (f : Int) : List Int := if kpE L l nb f = 0 then gH L l b (gS L f L.length) l.length else z9
theorem q_cell9 {s : St} {H : AHeap} {r : Nat} {l : List AV} (h : s 8 = .ptr r 0) (hr : Vh.rowAt H r = some ⟨true, false, l⟩) (hl : l.length = 9) : ares s H [.cell 8 9 true, .tmp 9] = some (.tuple [.agg l, s 9]) := by
  have e : ares1 s H (.cell 8 9 true) = some (.agg l) := by
    simp [ares1, h, cellsAt, hr, hl, List.take_of_length_le]
  simp only [ares, aresL, e, Option.bind_some, Option.map_some, show ares1 s H (.tmp 9) = some (s 9) from rfl]
theorem p_idxA {s : St} {x i : Opd} {r o len sz : Nat} {k : IntKind} {j : Int} (hx : evo s x = .ptr r o) (hi : evo s i = .int k j) (h : 0 ≤ j ∧ j < len) : ipure (.indexAddrA len sz x i) s = some (.ptr r (o + j.toNat * sz)) := by
  simp only [ipure, hx, hi, if_pos h]
theorem intsc2 {l : List Int} : (ints .i64 l).all AV.cell = true := by simp [ints, AV.cell]
theorem ok_cl {L : List Pul} {i : Nat} (h : pE L = 0) (hi : i < L.length) : 0 ≤ (L.getD i default).cl ∧ (L.getD i default).cl ≤ 2 := by
  unfold pE at h
  split at h
  · split at h
    · rename_i ha
      have := List.all_eq_true.1 ha _ (List.getElem_mem hi)
      rw [List.getD_eq_getElem?_getD, List.getElem?_eq_getElem hi, Option.getD_some]
      simp only [okP, decide_eq_true_eq] at this
      exact this.2.1
    · omega
  · omega
theorem kpE_pE {L : List Pul} {l : List Int} {nb : Nat} {f : Int} (h : kpE L l nb f = 0) : pE L = 0 ∧ gE l 0 L.length l.length = 0 ∧ nb = l.length := by
  unfold kpE at h
  by_cases h0 : fst0 [pE L, if 0 ≤ f ∧ f ≤ 4096 then 0 else 3, gE l 0 L.length l.length] = 0
  · rw [if_pos h0] at h
    obtain ⟨a, _, c⟩ := fst0_3 h0
    by_cases h1 : 0 < l.length ∧ l.getD 0 0 < f
    · rw [if_pos h1] at h; omega
    · rw [if_neg h1] at h
      by_cases h2 : nb = l.length
      · exact ⟨a, c, h2⟩
      · rw [if_neg h2] at h; omega
  · rw [if_neg h0] at h; exact absurd h h0

set_option maxHeartbeats 4000000 in
theorem gains_calls (H0 : AHeap) {κ κ' κ2 : SK} {n m r r' r2 nb : Nat} {L : List Pul} {l : List Int} {b : Nat → Bool} {row row' row2 : ARow} {f : Int} (hk : okS κ m) (hl : L.length = m) (hm : m ≤ 400) (hr : Vh.rowAt H0 r = some row) (hc : row.cells = pcells L)
    (hk' : okS κ' n) (hl' : l.length = n) (hn : n ≤ 400) (hr' : Vh.rowAt H0 r' = some row') (hc' : row'.cells = ints .i64 l)
    (hk2 : okS κ2 nb) (hnb : nb ≤ 400) (hr2 : Vh.rowAt H0 r2 = some row2) (hc2 : row2.cells = bt nb b) (hfr : -9223372036854775808 ≤ f ∧ f ≤ 9223372036854775807) :
    ACalls Try.prog 33 [mkS κ r 0 m, mkS κ' r' 0 n, mkS κ2 r2 0 nb, .int .i64 f] H0 (List.range H0.length) fun v H => v = .tuple [.agg (ints .i64 (gnL L l nb b f)), .int .i64 (kpE L l nb f)] ∧ Base H0 H := by
  refine ACalls.body Try.func33 ent_gains ir_gains_ok rs_gains_ok Try.ntmps33 (by simp) rfl ?_
  unfold ir_gains
  have e0 : s0 [mkS κ r 0 m, mkS κ' r' 0 n, mkS κ2 r2 0 nb, .int .i64 f] 0 = mkS κ r 0 m := rfl
  have e1 : s0 [mkS κ r 0 m, mkS κ' r' 0 n, mkS κ2 r2 0 nb, .int .i64 f] 1 = mkS κ' r' 0 n := rfl
  have e2 : s0 [mkS κ r 0 m, mkS κ' r' 0 n, mkS κ2 r2 0 nb, .int .i64 f] 2 = mkS κ2 r2 0 nb := rfl
  have e3 : s0 [mkS κ r 0 m, mkS κ' r' 0 n, mkS κ2 r2 0 nb, .int .i64 f] 3 = .int .i64 f := rfl
  rw [show rs_gains = [.cell 8 9 true, .tmp 9] from rfl]
  have hz9 : ([.int .i64 0, .int .i64 0, .int .i64 0, .int .i64 0, .int .i64 0, .int .i64 0, .int .i64 0, .int .i64 0, .int .i64 0] : List AV) = ints .i64 z9 := rfl
  have hzp : [AV.int .i64 0, .bool false, .int .i64 0, .int .i64 0, .bool false].all AV.cell = true := rfl
  simp (disch := omega) only [sN, ↓reduceIte, Nat.reduceEqDiff, Nat.reduceAdd, Nat.reduceMul, Nat.reduceSub, reduceCtorEq, e_none, e_some, e_bindS, e0, e1, e2, e3]
  rw [hz9, x_allocA intsc2]
  simp (disch := omega) only [sN, ↓reduceIte, Nat.reduceEqDiff, Nat.reduceAdd, Nat.reduceMul, Nat.reduceSub, reduceCtorEq, e_none, e_some, e_bindS, e0, e1, e2, e3]
  obtain ⟨a8, ha8⟩ : ∃ a, a = H0.length := ⟨_, rfl⟩
  obtain ⟨H1, hH1⟩ : ∃ h, h = H0 ++ [rw_ (ints .i64 z9)] := ⟨_, rfl⟩
  have hB1 : Base H0 H1 := by rw [hH1]; exact Base.one
  have r8 : Vh.rowAt H1 a8 = some ⟨true, false, ints .i64 z9⟩ := by rw [hH1, ha8]; simp [Vh.rowAt, rw_]
  have h8 : H0.length ≤ a8 := by omega
  rw [← hH1, ← ha8]
  clear hH1 ha8
  simp (disch := omega) only [sN, ↓reduceIte, Nat.reduceEqDiff, Nat.reduceAdd, Nat.reduceMul, Nat.reduceSub, reduceCtorEq, e_none, e_some, e_bindS, e0, e1, e2, e3, List.map_cons, List.map_nil]
  refine ⟨_, (checkKept_calls H1 hk hl (by unfold maxLen; omega) (hB1.row hr) hc hk' hl' hn (hB1.row hr') hc' (k_len hk2 (Nat.le_refl _)) (by unfold maxLen; omega) hfr).g.mono ?_⟩
  rintro v H2 ⟨rfl, hB2⟩
  have hB12 := hB1.trans hB2
  have r8' := hB2.row r8
  have hgn : gnL L l nb b f = if kpE L l nb f = 0 then gH L l b (gS L f m) n else z9 := by unfold gnL; rw [hl, hl']
  by_cases he : kpE L l nb f = 0
  case neg =>
    rw [if_neg he] at hgn
    have hne : abin .neq (.int .i64 (kpE L l nb f)) (.int .i64 0) = some (.bool true) := by simp [abin, aint, he]
    simp (disch := omega) only [sN, ↓reduceIte, Nat.reduceEqDiff, Nat.reduceAdd, Nat.reduceMul, Nat.reduceSub, reduceCtorEq, e_none, e_some, e_bindS, e0, e1, e2, e3, hne]
    rw [show ∀ s, ipure (.build (ints .i64 z9) []) s = some (.agg (ints .i64 z9)) from fun _ => rfl]
    simp (disch := omega) only [sN, ↓reduceIte, Nat.reduceEqDiff, Nat.reduceAdd, Nat.reduceMul, Nat.reduceSub, reduceCtorEq, e_none, e_some, e_bindS]
    rw [x_storeNA (n := 9) (r := a8) (l := ints .i64 z9) (l' := ints .i64 z9) (by simp only [e_upd, e_putS, e_putN, e_t, e_c, Nat.reduceEqDiff, ↓reduceIte, reduceCtorEq, Nat.reduceAdd]) (by simp only [e_upd, e_putS, e_putN, e_t, e_c, Nat.reduceEqDiff, ↓reduceIte, reduceCtorEq, Nat.reduceAdd]) intsc2 r8' rfl rfl]
    simp (disch := omega) only [sN, ↓reduceIte, Nat.reduceEqDiff, Nat.reduceAdd, Nat.reduceMul, Nat.reduceSub, reduceCtorEq, e_none, e_some, e_bindS]
    refine ret_keep (by rw [List.length_set]; exact Nat.le_of_lt (rowAt_lt r8')) ?_
    rw [q_cell9 (r := a8) (l := ints .i64 z9) (by simp only [e_upd, e_putS, e_putN, e_t, e_c, Nat.reduceEqDiff, ↓reduceIte, reduceCtorEq, Nat.reduceAdd]) (by have := rowAt_lt r8'; simp [Vh.rowAt, rw_, this]) rfl, q_then]
    refine ⟨?_, hB12.set h8⟩
    rw [hgn]
    simp only [e_upd, e_putS, e_putN, e_t, e_c, Nat.reduceEqDiff, ↓reduceIte, reduceCtorEq, Nat.reduceAdd]
  rw [if_pos he] at hgn
  obtain ⟨hpe, hge, hnn⟩ := kpE_pE he
  rw [hl, hl'] at hge
  rw [hl'] at hnn
  rw [he]
  simp (disch := omega) only [sN, ↓reduceIte, Nat.reduceEqDiff, Nat.reduceAdd, Nat.reduceMul, Nat.reduceSub, reduceCtorEq, e_none, e_some, e_bindS, e0, e1, e2, e3]
  rw [x_allocA intsc2]
  simp (disch := omega) only [sN, ↓reduceIte, Nat.reduceEqDiff, Nat.reduceAdd, Nat.reduceMul, Nat.reduceSub, reduceCtorEq, e_none, e_some, e_bindS, e0, e1, e2, e3, k_len hk]
  obtain ⟨a11, ha11⟩ : ∃ a, a = H2.length := ⟨_, rfl⟩
  obtain ⟨H3, hH3⟩ : ∃ h, h = H2 ++ [rw_ (ints .i64 z9)] := ⟨_, rfl⟩
  have hB3 : Base H0 H3 := by rw [hH3]; exact hB12.app
  have r11 : Vh.rowAt H3 a11 = some ⟨true, false, ints .i64 z9⟩ := by rw [hH3, ha11]; simp [Vh.rowAt, rw_]
  have q8 : Vh.rowAt H3 a8 = some ⟨true, false, ints .i64 z9⟩ := by rw [hH3, rowAt_append_left (rowAt_lt r8')]; exact r8'
  have h11 : H0.length ≤ a11 := by rw [ha11]; exact hB12.1
  have hne8 : a11 ≠ a8 := by have := rowAt_lt r8'; omega
  rw [← hH3, ← ha11]
  clear hH3 ha11 r8' r8 hB12 hB1 hB2
  refine ⟨fun t s H => ∃ i : Nat, t = m - i ∧ i ≤ m ∧ Base H0 H ∧ Vh.rowAt H a8 = some ⟨true, false, ints .i64 z9⟩ ∧ Vh.rowAt H a11 = some ⟨true, false, ints .i64 (gS L f i)⟩ ∧ s 0 = mkS κ r 0 m ∧ s 1 = mkS κ' r' 0 n ∧ s 2 = mkS κ2 r2 0 nb ∧ s 3 = .int .i64 f ∧ s 8 = .ptr a8 0 ∧ s 11 = .ptr a11 0 ∧ s 26 = mkS κ r 0 m ∧ s 27 = .int .i64 m ∧ s 28 = .int .i64 (i : Int), m, ⟨0, rfl, by omega, hB3, q8, r11, ?_, ?_, ?_, ?_, ?_, ?_, ?_, ?_, ?_⟩, ?_⟩
  · simp only [e_upd, e_putS, e_putN, e_t, e_c, Nat.reduceEqDiff, ↓reduceIte, reduceCtorEq, Nat.reduceAdd, e0]
  · simp only [e_upd, e_putS, e_putN, e_t, e_c, Nat.reduceEqDiff, ↓reduceIte, reduceCtorEq, Nat.reduceAdd, e1]
  · simp only [e_upd, e_putS, e_putN, e_t, e_c, Nat.reduceEqDiff, ↓reduceIte, reduceCtorEq, Nat.reduceAdd, e2]
  · simp only [e_upd, e_putS, e_putN, e_t, e_c, Nat.reduceEqDiff, ↓reduceIte, reduceCtorEq, Nat.reduceAdd, e3]
  · simp only [e_upd, e_putS, e_putN, e_t, e_c, Nat.reduceEqDiff, ↓reduceIte, reduceCtorEq, Nat.reduceAdd]
  · simp only [e_upd, e_putS, e_putN, e_t, e_c, Nat.reduceEqDiff, ↓reduceIte, reduceCtorEq, Nat.reduceAdd]
  · simp only [e_upd, e_putS, e_putN, e_t, e_c, Nat.reduceEqDiff, ↓reduceIte, reduceCtorEq, Nat.reduceAdd, e0]
  · simp only [e_upd, e_putS, e_putN, e_t, e_c, Nat.reduceEqDiff, ↓reduceIte, reduceCtorEq, Nat.reduceAdd]
  · simp only [e_upd, e_putS, e_putN, e_t, e_c, Nat.reduceEqDiff, ↓reduceIte, reduceCtorEq, Nat.reduceAdd]; first | done | rfl
  clear hB3 q8 r11 e0 e1 e2 e3
  rintro t s H ⟨i, rfl, hi, hB, q8, q11, k0, k1, k2, k3, k8, k11, k26, k27, k28⟩
  by_cases hlt : i < m
  · obtain ⟨c1, c2⟩ := pulse_at (L := L) (i := i) (by omega)
    have hcl := ok_cl hpe (i := i) (by omega)
    have hstep : gS L f (i + 1) = if f ≤ (i : Int) ∧ (L.getD i default).seen = true then incG (gS L f i) ((L.getD i default).cl.toNat * 3) else gS L f i := rfl
    have hG9 := gS_len (L := L) (f := f) i
    obtain ⟨p, hp⟩ : ∃ p, p = L.getD i default := ⟨_, rfl⟩
    rw [← hp] at c1 hcl hstep
    have hrH := hB.row hr
    have ia : aindexAddr 5 (mkS κ r 0 m) (.int .i64 (i : Int)) = some (.ptr r (i * 5)) := by
      rw [k_idx5 hk (Nat.le_refl m) (by omega) (by omega)]; simp
    simp (disch := omega) only [sN, ↓reduceIte, Nat.reduceEqDiff, Nat.reduceAdd, Nat.reduceMul, Nat.reduceSub, reduceCtorEq, e_none, e_some, e_bindS, k0, k1, k2, k3, k8, k11, k26, k27, k28, ia]
    rw [x_loadNO (n := 5) (r := r) (off := i * 5) (l := pcell p) (by simp only [e_upd, e_putS, e_putN, e_t, e_c, Nat.reduceEqDiff, ↓reduceIte, reduceCtorEq, Nat.reduceAdd]) hrH (by rw [hc]; exact c1) (by rw [hc]; exact c2)]
    simp (disch := omega) only [sN, ↓reduceIte, Nat.reduceEqDiff, Nat.reduceAdd, Nat.reduceMul, Nat.reduceSub, reduceCtorEq, e_none, e_some, e_bindS, k0, k1, k2, k3, k8, k11, k26, k27, k28]
    rw [x_allocA hzp]
    simp (disch := omega) only [sN, ↓reduceIte, Nat.reduceEqDiff, Nat.reduceAdd, Nat.reduceMul, Nat.reduceSub, reduceCtorEq, e_none, e_some, e_bindS, k0, k1, k2, k3, k8, k11, k26, k27, k28]
    rw [x_storeNA (n := 5) (r := H.length) (l := [.int .i64 0, .bool false, .int .i64 0, .int .i64 0, .bool false]) (l' := pcell p) (by simp only [e_upd, e_putS, e_putN, e_t, e_c, Nat.reduceEqDiff, ↓reduceIte, reduceCtorEq, Nat.reduceAdd]) (by simp only [e_upd, e_putS, e_putN, e_t, e_c, Nat.reduceEqDiff, ↓reduceIte, reduceCtorEq, Nat.reduceAdd]) pcell_cell (by simp [Vh.rowAt, rw_]) rfl rfl]
    rw [show (H ++ [rw_ [AV.int .i64 0, .bool false, .int .i64 0, .int .i64 0, .bool false]]).set H.length (rw_ (pcell p)) = H ++ [rw_ (pcell p)] by simp]
    obtain ⟨H4, hH4⟩ : ∃ h, h = H ++ [rw_ (pcell p)] := ⟨_, rfl⟩
    have hB4 : Base H0 H4 := by rw [hH4]; exact hB.app
    have p8 : Vh.rowAt H4 a8 = some ⟨true, false, ints .i64 z9⟩ := by rw [hH4, rowAt_append_left (rowAt_lt q8)]; exact q8
    have p11 : Vh.rowAt H4 a11 = some ⟨true, false, ints .i64 (gS L f i)⟩ := by rw [hH4, rowAt_append_left (rowAt_lt q11)]; exact q11
    have p13 : Vh.rowAt H4 H.length = some ⟨true, false, pcell p⟩ := by rw [hH4]; simp [Vh.rowAt, rw_]
    have d4 : (pcell p)[4]? = some (.bool p.seen) := rfl
    have d2 : (pcell p)[2]? = some (.int .i64 p.cl) := rfl
    rw [← hH4]
    clear hH4
    obtain ⟨G, hG⟩ : ∃ g, g = gS L f i := ⟨_, rfl⟩
    rw [← hG] at p11 hstep hG9
    by_cases hfi : f ≤ (i : Int)
    case neg =>
      rw [if_neg (fun q => hfi q.1)] at hstep
      simp (disch := omega) only [sN, ↓reduceIte, Nat.reduceEqDiff, Nat.reduceAdd, Nat.reduceMul, Nat.reduceSub, reduceCtorEq, e_none, e_some, e_bindS, k0, k1, k2, k3, k8, k11, k26, k27, k28]
      refine loop_keep (m := m - (i + 1)) (by omega) ⟨i + 1, rfl, by omega, hB4, p8, by rw [hstep]; exact p11, ?_, ?_, ?_, ?_, ?_, ?_, ?_, ?_, ?_⟩ <;> first | (simp only [e_upd, e_putS, e_putN, e_t, e_c, Nat.reduceEqDiff, ↓reduceIte, reduceCtorEq, Nat.reduceAdd, k0]; done) | (simp only [e_upd, e_putS, e_putN, e_t, e_c, Nat.reduceEqDiff, ↓reduceIte, reduceCtorEq, Nat.reduceAdd, k1]; done) | (simp only [e_upd, e_putS, e_putN, e_t, e_c, Nat.reduceEqDiff, ↓reduceIte, reduceCtorEq, Nat.reduceAdd, k2]; done) | (simp only [e_upd, e_putS, e_putN, e_t, e_c, Nat.reduceEqDiff, ↓reduceIte, reduceCtorEq, Nat.reduceAdd, k3]; done) | (simp only [e_upd, e_putS, e_putN, e_t, e_c, Nat.reduceEqDiff, ↓reduceIte, reduceCtorEq, Nat.reduceAdd, k8]; done) | (simp only [e_upd, e_putS, e_putN, e_t, e_c, Nat.reduceEqDiff, ↓reduceIte, reduceCtorEq, Nat.reduceAdd, k11]; done) | (simp only [e_upd, e_putS, e_putN, e_t, e_c, Nat.reduceEqDiff, ↓reduceIte, reduceCtorEq, Nat.reduceAdd, k26]; done) | (simp only [e_upd, e_putS, e_putN, e_t, e_c, Nat.reduceEqDiff, ↓reduceIte, reduceCtorEq, Nat.reduceAdd, k27]; done) | (simp only [e_upd, e_putS, e_putN, e_t, e_c, Nat.reduceEqDiff, ↓reduceIte, reduceCtorEq, Nat.reduceAdd]; first | done | rfl)
    cases hse : p.seen
    case false =>
      rw [if_neg (fun q => by rw [hse] at q; cases q.2)] at hstep
      rw [hse] at d4
      simp (disch := omega) only [sN, ↓reduceIte, Nat.reduceEqDiff, Nat.reduceAdd, Nat.reduceMul, Nat.reduceSub, reduceCtorEq, e_none, e_some, e_bindS, k0, k1, k2, k3, k8, k11, k26, k27, k28, p_fieldAddr, Nat.zero_add, p13, d4, Option.bind_some]
      refine loop_keep (m := m - (i + 1)) (by omega) ⟨i + 1, rfl, by omega, hB4, p8, by rw [hstep]; exact p11, ?_, ?_, ?_, ?_, ?_, ?_, ?_, ?_, ?_⟩ <;> first | (simp only [e_upd, e_putS, e_putN, e_t, e_c, Nat.reduceEqDiff, ↓reduceIte, reduceCtorEq, Nat.reduceAdd, k0]; done) | (simp only [e_upd, e_putS, e_putN, e_t, e_c, Nat.reduceEqDiff, ↓reduceIte, reduceCtorEq, Nat.reduceAdd, k1]; done) | (simp only [e_upd, e_putS, e_putN, e_t, e_c, Nat.reduceEqDiff, ↓reduceIte, reduceCtorEq, Nat.reduceAdd, k2]; done) | (simp only [e_upd, e_putS, e_putN, e_t, e_c, Nat.reduceEqDiff, ↓reduceIte, reduceCtorEq, Nat.reduceAdd, k3]; done) | (simp only [e_upd, e_putS, e_putN, e_t, e_c, Nat.reduceEqDiff, ↓reduceIte, reduceCtorEq, Nat.reduceAdd, k8]; done) | (simp only [e_upd, e_putS, e_putN, e_t, e_c, Nat.reduceEqDiff, ↓reduceIte, reduceCtorEq, Nat.reduceAdd, k11]; done) | (simp only [e_upd, e_putS, e_putN, e_t, e_c, Nat.reduceEqDiff, ↓reduceIte, reduceCtorEq, Nat.reduceAdd, k26]; done) | (simp only [e_upd, e_putS, e_putN, e_t, e_c, Nat.reduceEqDiff, ↓reduceIte, reduceCtorEq, Nat.reduceAdd, k27]; done) | (simp only [e_upd, e_putS, e_putN, e_t, e_c, Nat.reduceEqDiff, ↓reduceIte, reduceCtorEq, Nat.reduceAdd]; first | done | rfl)
    rw [if_pos ⟨hfi, hse⟩] at hstep
    rw [hse] at d4
    simp (disch := omega) only [sN, ↓reduceIte, Nat.reduceEqDiff, Nat.reduceAdd, Nat.reduceMul, Nat.reduceSub, reduceCtorEq, e_none, e_some, e_bindS, k0, k1, k2, k3, k8, k11, k26, k27, k28, p_fieldAddr, Nat.zero_add, p13, d4, d2, Option.bind_some]
    have hcl3 : 0 ≤ p.cl ∧ p.cl < ((3 : Nat) : Int) := ⟨hcl.1, by omega⟩
    obtain ⟨c, hcc⟩ : ∃ c, c = p.cl.toNat * 3 := ⟨_, rfl⟩
    have hc9 : c < 9 := by omega
    have hcell : (ints .i64 G)[c]? = some (.int .i64 (G.getD c 0)) := ints_get (by omega)
    rw [← hcc] at hstep
    rw [p_idxA (r := a11) (o := 0) (k := .i64) (j := p.cl) (by simp only [e_upd, e_putS, e_putN, e_t, e_c, Nat.reduceEqDiff, ↓reduceIte, reduceCtorEq, Nat.reduceAdd, k11]) (by simp only [e_upd, e_putS, e_putN, e_t, e_c, Nat.reduceEqDiff, ↓reduceIte, reduceCtorEq, Nat.reduceAdd]) hcl3, Nat.zero_add, ← hcc]
    simp (disch := omega) only [sN, ↓reduceIte, Nat.reduceEqDiff, Nat.reduceAdd, Nat.reduceMul, Nat.reduceSub, reduceCtorEq, e_none, e_some, e_bindS, k11, p_fieldAddr, Nat.add_zero, p11, hcell, Option.bind_some]
    rw [p_idxA (r := a11) (o := 0) (k := .i64) (j := p.cl) (by simp only [e_upd, e_putS, e_putN, e_t, e_c, Nat.reduceEqDiff, ↓reduceIte, reduceCtorEq, Nat.reduceAdd, k11]) (by simp only [e_upd, e_putS, e_putN, e_t, e_c, Nat.reduceEqDiff, ↓reduceIte, reduceCtorEq, Nat.reduceAdd]) hcl3, Nat.zero_add, ← hcc]
    simp (disch := omega) only [sN, ↓reduceIte, Nat.reduceEqDiff, Nat.reduceAdd, Nat.reduceMul, Nat.reduceSub, reduceCtorEq, e_none, e_some, e_bindS, k11, p_fieldAddr, Nat.add_zero]
    rw [x_store (r := a11) (off := c) (k := .i64) (b := IntKind.i64.wrap (G.getD c 0 + 1)) (l := G) (by simp only [e_upd, e_putS, e_putN, e_t, e_c, Nat.reduceEqDiff, ↓reduceIte, reduceCtorEq, Nat.reduceAdd]) (by simp only [e_upd, e_putS, e_putN, e_t, e_c, Nat.reduceEqDiff, ↓reduceIte, reduceCtorEq, Nat.reduceAdd]) p11 (by omega)]
    simp (disch := omega) only [sN, ↓reduceIte, Nat.reduceEqDiff, Nat.reduceAdd, Nat.reduceMul, Nat.reduceSub, reduceCtorEq, e_none, e_some, e_bindS, k0, k1, k2, k3, k8, k11, k26, k27, k28]
    refine loop_keep (m := m - (i + 1)) (by omega) ⟨i + 1, rfl, by omega, hB4.set h11, by rw [row_other0 hne8]; exact p8, by rw [row_set0 (rowAt_lt p11), hstep]; rfl, ?_, ?_, ?_, ?_, ?_, ?_, ?_, ?_, ?_⟩ <;> first | (simp only [e_upd, e_putS, e_putN, e_t, e_c, Nat.reduceEqDiff, ↓reduceIte, reduceCtorEq, Nat.reduceAdd, k0]; done) | (simp only [e_upd, e_putS, e_putN, e_t, e_c, Nat.reduceEqDiff, ↓reduceIte, reduceCtorEq, Nat.reduceAdd, k1]; done) | (simp only [e_upd, e_putS, e_putN, e_t, e_c, Nat.reduceEqDiff, ↓reduceIte, reduceCtorEq, Nat.reduceAdd, k2]; done) | (simp only [e_upd, e_putS, e_putN, e_t, e_c, Nat.reduceEqDiff, ↓reduceIte, reduceCtorEq, Nat.reduceAdd, k3]; done) | (simp only [e_upd, e_putS, e_putN, e_t, e_c, Nat.reduceEqDiff, ↓reduceIte, reduceCtorEq, Nat.reduceAdd, k8]; done) | (simp only [e_upd, e_putS, e_putN, e_t, e_c, Nat.reduceEqDiff, ↓reduceIte, reduceCtorEq, Nat.reduceAdd, k11]; done) | (simp only [e_upd, e_putS, e_putN, e_t, e_c, Nat.reduceEqDiff, ↓reduceIte, reduceCtorEq, Nat.reduceAdd, k26]; done) | (simp only [e_upd, e_putS, e_putN, e_t, e_c, Nat.reduceEqDiff, ↓reduceIte, reduceCtorEq, Nat.reduceAdd, k27]; done) | (simp only [e_upd, e_putS, e_putN, e_t, e_c, Nat.reduceEqDiff, ↓reduceIte, reduceCtorEq, Nat.reduceAdd]; first | done | rfl)
  · obtain rfl : i = m := by omega
    have hG9 := gS_len (L := L) (f := f) i
    obtain ⟨G0, hG0⟩ : ∃ g, g = gS L f i := ⟨_, rfl⟩
    rw [← hG0] at q11 hG9 hgn
    simp (disch := omega) only [sN, ↓reduceIte, Nat.reduceEqDiff, Nat.reduceAdd, Nat.reduceMul, Nat.reduceSub, reduceCtorEq, e_none, e_some, e_bindS, k0, k1, k2, k3, k8, k11, k26, k27, k28, k_len hk']
    refine ⟨fun t s H => ∃ j : Nat, t = n - j ∧ j ≤ n ∧ Base H0 H ∧ Vh.rowAt H a8 = some ⟨true, false, ints .i64 z9⟩ ∧ Vh.rowAt H a11 = some ⟨true, false, ints .i64 (gH L l b G0 j)⟩ ∧ s 0 = mkS κ r 0 i ∧ s 2 = mkS κ2 r2 0 nb ∧ s 8 = .ptr a8 0 ∧ s 11 = .ptr a11 0 ∧ s 49 = mkS κ' r' 0 n ∧ s 50 = .int .i64 n ∧ s 51 = .int .i64 (j : Int), n, ⟨0, rfl, by omega, hB, q8, q11, ?_, ?_, ?_, ?_, ?_, ?_, ?_⟩, ?_⟩
    · simp only [e_upd, e_putS, e_putN, e_t, e_c, Nat.reduceEqDiff, ↓reduceIte, reduceCtorEq, Nat.reduceAdd, k0]
    · simp only [e_upd, e_putS, e_putN, e_t, e_c, Nat.reduceEqDiff, ↓reduceIte, reduceCtorEq, Nat.reduceAdd, k2]
    · simp only [e_upd, e_putS, e_putN, e_t, e_c, Nat.reduceEqDiff, ↓reduceIte, reduceCtorEq, Nat.reduceAdd, k8]
    · simp only [e_upd, e_putS, e_putN, e_t, e_c, Nat.reduceEqDiff, ↓reduceIte, reduceCtorEq, Nat.reduceAdd, k11]
    · simp only [e_upd, e_putS, e_putN, e_t, e_c, Nat.reduceEqDiff, ↓reduceIte, reduceCtorEq, Nat.reduceAdd, k1]
    · simp only [e_upd, e_putS, e_putN, e_t, e_c, Nat.reduceEqDiff, ↓reduceIte, reduceCtorEq, Nat.reduceAdd]
    · simp only [e_upd, e_putS, e_putN, e_t, e_c, Nat.reduceEqDiff, ↓reduceIte, reduceCtorEq, Nat.reduceAdd]; first | done | rfl
    clear hB q8 q11 k0 k1 k2 k3 k8 k11 k26 k27 k28
    rintro t s H ⟨j, rfl, hj, hB, q8, q11, k0, k2, k8, k11, k49, k50, k51⟩
    by_cases hlt : j < n
    · have hin := gE_ok hge hlt
      have hgx : row'.cells[j]? = some (.int .i64 (l.getD j 0)) := by rw [hc']; exact ints_get (by omega)
      have hstep : gH L l b G0 (j + 1) = if b j = (L.getD (l.getD j 0).toNat default).bit then incG (gH L l b G0 j) ((L.getD (l.getD j 0).toNat default).cl.toNat * 3 + 1)
          else incG (incG (gH L l b G0 j) ((L.getD (l.getD j 0).toNat default).cl.toNat * 3 + 1)) ((L.getD (l.getD j 0).toNat default).cl.toNat * 3 + 2) := rfl
      have hGl := gH_len (L := L) (l := l) (b := b) hG9 j
      obtain ⟨x, hx⟩ : ∃ x, x = l.getD j 0 := ⟨_, rfl⟩
      rw [← hx] at hin hgx hstep
      have hcl := ok_cl hpe (i := x.toNat) (by omega)
      have g2 := pulse_get (L := L) (i := x.toNat) (j := 2) (by omega) (by omega)
      have g1 := pulse_get (L := L) (i := x.toNat) (j := 1) (by omega) (by omega)
      obtain ⟨p, hp⟩ : ∃ p, p = L.getD x.toNat default := ⟨_, rfl⟩
      rw [← hp] at g1 g2 hstep hcl
      rw [← hc] at g1 g2
      have g2' : row.cells[x.toNat * 5 + 2]? = some (.int .i64 p.cl) := g2
      have g1' : row.cells[x.toNat * 5 + 1]? = some (.bool p.bit) := g1
      have gb : row2.cells[j]? = some (.bool (b j)) := by rw [hc2]; exact bt_get (by omega)
      have hrH := hB.row hr
      have hrH' := hB.row hr'
      have hrH2 := hB.row hr2
      have ia : aindexAddr 1 (mkS κ' r' 0 n) (.int .i64 (j : Int)) = some (.ptr r' j) := by
        rw [k_idx hk' (Nat.le_refl n) (by omega) (by omega)]; simp
      have ib : aindexAddr 5 (mkS κ r 0 i) (.int .i64 x) = some (.ptr r (x.toNat * 5)) := by
        rw [k_idx5 hk (Nat.le_refl i) (by omega) (by omega)]; simp
      have ic : aindexAddr 1 (mkS κ2 r2 0 nb) (.int .i64 (j : Int)) = some (.ptr r2 j) := by
        rw [k_idx hk2 (Nat.le_refl nb) (by omega) (by omega)]; simp
      have hcl3 : 0 ≤ p.cl ∧ p.cl < ((3 : Nat) : Int) := ⟨hcl.1, by omega⟩
      obtain ⟨c, hcc⟩ : ∃ c, c = p.cl.toNat * 3 := ⟨_, rfl⟩
      have hc9 : c ≤ 6 := by omega
      obtain ⟨G, hG⟩ : ∃ g, g = gH L l b G0 j := ⟨_, rfl⟩
      rw [← hG] at q11 hstep hGl
      rw [← hcc] at hstep
      have hcell : (ints .i64 G)[c + 1]? = some (.int .i64 (G.getD (c + 1) 0)) := ints_get (by omega)
      simp (disch := omega) only [sN, ↓reduceIte, Nat.reduceEqDiff, Nat.reduceAdd, Nat.reduceMul, Nat.reduceSub, reduceCtorEq, e_none, e_some, e_bindS, k0, k2, k8, k11, k49, k50, k51, ia, ib, hrH', hgx, hrH, p_fieldAddr, g2', Option.bind_some]
      rw [p_idxA (r := a11) (o := 0) (k := .i64) (j := p.cl) (by simp only [e_upd, e_putS, e_putN, e_t, e_c, Nat.reduceEqDiff, ↓reduceIte, reduceCtorEq, Nat.reduceAdd, k11]) (by simp only [e_upd, e_putS, e_putN, e_t, e_c, Nat.reduceEqDiff, ↓reduceIte, reduceCtorEq, Nat.reduceAdd]) hcl3, Nat.zero_add, ← hcc]
      simp (disch := omega) only [sN, ↓reduceIte, Nat.reduceEqDiff, Nat.reduceAdd, Nat.reduceMul, Nat.reduceSub, reduceCtorEq, e_none, e_some, e_bindS, k0, k2, k8, k11, k49, k50, k51, p_fieldAddr, p_nilCheck, q11, hcell, Option.bind_some]
      rw [x_store (r := a11) (off := c + 1) (k := .i64) (b := IntKind.i64.wrap (G.getD (c + 1) 0 + 1)) (l := G) (by simp only [e_upd, e_putS, e_putN, e_t, e_c, Nat.reduceEqDiff, ↓reduceIte, reduceCtorEq, Nat.reduceAdd]) (by simp only [e_upd, e_putS, e_putN, e_t, e_c, Nat.reduceEqDiff, ↓reduceIte, reduceCtorEq, Nat.reduceAdd]) q11 (by omega)]
      obtain ⟨H1', hH1'⟩ : ∃ h, h = H.set a11 (rw_ (ints .i64 (G.set (c + 1) (IntKind.i64.wrap (G.getD (c + 1) 0 + 1))))) := ⟨_, rfl⟩
      have u11 : Vh.rowAt H1' a11 = some ⟨true, false, ints .i64 (incG G (c + 1))⟩ := by rw [hH1', row_set0 (rowAt_lt q11)]; rfl
      have u8 : Vh.rowAt H1' a8 = some ⟨true, false, ints .i64 z9⟩ := by rw [hH1', row_other0 hne8]; exact q8
      have hBu : Base H0 H1' := by rw [hH1']; exact hB.set h11
      have urH := hBu.row hr
      have urH2 := hBu.row hr2
      rw [← hH1']
      clear hH1'
      have hcell2 : (ints .i64 (incG G (c + 1)))[c + 2]? = some (.int .i64 ((incG G (c + 1)).getD (c + 2) 0)) := ints_get (by rw [incG_len]; omega)
      obtain ⟨y, hy⟩ : ∃ y, y = b j := ⟨_, rfl⟩
      obtain ⟨z, hz⟩ : ∃ z, z = p.bit := ⟨_, rfl⟩
      rw [← hy] at gb hstep
      rw [← hz] at g1' hstep
      by_cases hyz : y = z
      · rw [if_pos hyz] at hstep
        have hnb2 : ∀ s x y', evo s x = .bool y → evo s y' = .bool z → ipure (.binB true x y') s = some (.bool false) := fun s x y' h1 h2 => by
          simp [ipure, h1, h2, hyz]
        simp (disch := omega) only [sN, ↓reduceIte, Nat.reduceEqDiff, Nat.reduceAdd, Nat.reduceMul, Nat.reduceSub, reduceCtorEq, e_none, e_some, e_bindS, k0, k2, k8, k11, k49, k50, k51, ia, ib, ic, urH2, gb, urH, p_fieldAddr, g1', Option.bind_some]
        rw [hnb2 _ _ _ (by simp only [e_upd, e_putS, e_putN, e_t, e_c, Nat.reduceEqDiff, ↓reduceIte, reduceCtorEq, Nat.reduceAdd]) (by simp only [e_upd, e_putS, e_putN, e_t, e_c, Nat.reduceEqDiff, ↓reduceIte, reduceCtorEq, Nat.reduceAdd])]
        simp (disch := omega) only [sN, ↓reduceIte, Nat.reduceEqDiff, Nat.reduceAdd, Nat.reduceMul, Nat.reduceSub, reduceCtorEq, e_none, e_some, e_bindS, k0, k2, k8, k11, k49, k50, k51]
        refine loop_keep (m := n - (j + 1)) (by omega) ⟨j + 1, rfl, by omega, hBu, u8, by rw [hstep]; exact u11, ?_, ?_, ?_, ?_, ?_, ?_, ?_⟩ <;> first | (simp only [e_upd, e_putS, e_putN, e_t, e_c, Nat.reduceEqDiff, ↓reduceIte, reduceCtorEq, Nat.reduceAdd, k0]; done) | (simp only [e_upd, e_putS, e_putN, e_t, e_c, Nat.reduceEqDiff, ↓reduceIte, reduceCtorEq, Nat.reduceAdd, k2]; done) | (simp only [e_upd, e_putS, e_putN, e_t, e_c, Nat.reduceEqDiff, ↓reduceIte, reduceCtorEq, Nat.reduceAdd, k8]; done) | (simp only [e_upd, e_putS, e_putN, e_t, e_c, Nat.reduceEqDiff, ↓reduceIte, reduceCtorEq, Nat.reduceAdd, k11]; done) | (simp only [e_upd, e_putS, e_putN, e_t, e_c, Nat.reduceEqDiff, ↓reduceIte, reduceCtorEq, Nat.reduceAdd, k49]; done) | (simp only [e_upd, e_putS, e_putN, e_t, e_c, Nat.reduceEqDiff, ↓reduceIte, reduceCtorEq, Nat.reduceAdd, k50]; done) | (simp only [e_upd, e_putS, e_putN, e_t, e_c, Nat.reduceEqDiff, ↓reduceIte, reduceCtorEq, Nat.reduceAdd]; first | done | rfl)
      · rw [if_neg hyz] at hstep
        have hnb2 : ∀ s x y', evo s x = .bool y → evo s y' = .bool z → ipure (.binB true x y') s = some (.bool true) := fun s x y' h1 h2 => by
          simp [ipure, h1, h2, hyz]
        simp (disch := omega) only [sN, ↓reduceIte, Nat.reduceEqDiff, Nat.reduceAdd, Nat.reduceMul, Nat.reduceSub, reduceCtorEq, e_none, e_some, e_bindS, k0, k2, k8, k11, k49, k50, k51, ia, ib, ic, urH2, gb, urH, p_fieldAddr, g1', Option.bind_some]
        rw [hnb2 _ _ _ (by simp only [e_upd, e_putS, e_putN, e_t, e_c, Nat.reduceEqDiff, ↓reduceIte, reduceCtorEq, Nat.reduceAdd]) (by simp only [e_upd, e_putS, e_putN, e_t, e_c, Nat.reduceEqDiff, ↓reduceIte, reduceCtorEq, Nat.reduceAdd])]
        simp (disch := omega) only [sN, ↓reduceIte, Nat.reduceEqDiff, Nat.reduceAdd, Nat.reduceMul, Nat.reduceSub, reduceCtorEq, e_none, e_some, e_bindS, k0, k2, k8, k11, k49, k50, k51, p_fieldAddr, p_nilCheck, u11, hcell2, Option.bind_some]
        rw [x_store (r := a11) (off := c + 2) (k := .i64) (b := IntKind.i64.wrap ((incG G (c + 1)).getD (c + 2) 0 + 1)) (l := incG G (c + 1)) (by simp only [e_upd, e_putS, e_putN, e_t, e_c, Nat.reduceEqDiff, ↓reduceIte, reduceCtorEq, Nat.reduceAdd]) (by simp only [e_upd, e_putS, e_putN, e_t, e_c, Nat.reduceEqDiff, ↓reduceIte, reduceCtorEq, Nat.reduceAdd]) u11 (by rw [incG_len]; omega)]
        simp (disch := omega) only [sN, ↓reduceIte, Nat.reduceEqDiff, Nat.reduceAdd, Nat.reduceMul, Nat.reduceSub, reduceCtorEq, e_none, e_some, e_bindS, k0, k2, k8, k11, k49, k50, k51]
        refine loop_keep (m := n - (j + 1)) (by omega) ⟨j + 1, rfl, by omega, hBu.set h11, by rw [row_other0 hne8]; exact u8, by rw [row_set0 (rowAt_lt u11), hstep]; rfl, ?_, ?_, ?_, ?_, ?_, ?_, ?_⟩ <;> first | (simp only [e_upd, e_putS, e_putN, e_t, e_c, Nat.reduceEqDiff, ↓reduceIte, reduceCtorEq, Nat.reduceAdd, k0]; done) | (simp only [e_upd, e_putS, e_putN, e_t, e_c, Nat.reduceEqDiff, ↓reduceIte, reduceCtorEq, Nat.reduceAdd, k2]; done) | (simp only [e_upd, e_putS, e_putN, e_t, e_c, Nat.reduceEqDiff, ↓reduceIte, reduceCtorEq, Nat.reduceAdd, k8]; done) | (simp only [e_upd, e_putS, e_putN, e_t, e_c, Nat.reduceEqDiff, ↓reduceIte, reduceCtorEq, Nat.reduceAdd, k11]; done) | (simp only [e_upd, e_putS, e_putN, e_t, e_c, Nat.reduceEqDiff, ↓reduceIte, reduceCtorEq, Nat.reduceAdd, k49]; done) | (simp only [e_upd, e_putS, e_putN, e_t, e_c, Nat.reduceEqDiff, ↓reduceIte, reduceCtorEq, Nat.reduceAdd, k50]; done) | (simp only [e_upd, e_putS, e_putN, e_t, e_c, Nat.reduceEqDiff, ↓reduceIte, reduceCtorEq, Nat.reduceAdd]; first | done | rfl)
    · obtain rfl : j = n := by omega
      simp (disch := omega) only [sN, ↓reduceIte, Nat.reduceEqDiff, Nat.reduceAdd, Nat.reduceMul, Nat.reduceSub, reduceCtorEq, e_none, e_some, e_bindS, k0, k2, k8, k11, k49, k50, k51]
      have hGl := gH_len (L := L) (l := l) (b := b) hG9 j
      have hGi : (ints .i64 (gH L l b G0 j)).length = 9 := by rw [ints_length, hGl]
      rw [x_loadNA (n := 9) (r := a11) (l := ints .i64 (gH L l b G0 j)) (by simp only [e_upd, e_putS, e_putN, e_t, e_c, Nat.reduceEqDiff, ↓reduceIte, reduceCtorEq, Nat.reduceAdd, k11]) q11 rfl hGi]
      simp (disch := omega) only [sN, ↓reduceIte, Nat.reduceEqDiff, Nat.reduceAdd, Nat.reduceMul, Nat.reduceSub, reduceCtorEq, e_none, e_some, e_bindS, k8]
      rw [x_storeNA (n := 9) (r := a8) (l := ints .i64 z9) (l' := ints .i64 (gH L l b G0 j)) (by simp only [e_upd, e_putS, e_putN, e_t, e_c, Nat.reduceEqDiff, ↓reduceIte, reduceCtorEq, Nat.reduceAdd, k8]) (by simp only [e_upd, e_putS, e_putN, e_t, e_c, Nat.reduceEqDiff, ↓reduceIte, reduceCtorEq, Nat.reduceAdd]) intsc2 q8 hGi rfl]
      simp (disch := omega) only [sN, ↓reduceIte, Nat.reduceEqDiff, Nat.reduceAdd, Nat.reduceMul, Nat.reduceSub, reduceCtorEq, e_none, e_some, e_bindS, k8]
      refine ret_keep (by rw [List.length_set]; exact Nat.le_of_lt (rowAt_lt q8)) ?_
      rw [q_cell9 (r := a8) (l := ints .i64 (gH L l b G0 j)) (by simp only [e_upd, e_putS, e_putN, e_t, e_c, Nat.reduceEqDiff, ↓reduceIte, reduceCtorEq, Nat.reduceAdd, k8]) (by have := rowAt_lt q8; simp [Vh.rowAt, rw_, this]) hGi, q_then]
      refine ⟨?_, hB.set h8⟩
      rw [hgn]
      simp only [e_upd, e_putS, e_putN, e_t, e_c, Nat.reduceEqDiff, ↓reduceIte, reduceCtorEq, Nat.reduceAdd]
end Go.Proofs.Ythbhljolpnbdlaa

