/- Contracts of stage 4: the reference's checks, called where the order is drawn. -/
import Derived.Test.YthbhljolpnbdlaaVX
import Derived.Test.YthbhljolpnbdlaaTQ
import Derived.Test.YthbhljolpnbdlaaTJ
set_option linter.unusedSimpArgs false
set_option linter.unusedVariables false
-- NEWSET
namespace Go.Proofs.Ythbhljolpnbdlaa
open Go Go.Vh

theorem pc_flat : ∀ {L : List Pul}, (pcells L).all AV.flat = true
  | [] => rfl
  | p :: L => by
    have := pc_flat (L := L)
    simp only [pcells, List.flatMap_cons, List.all_append, Bool.and_eq_true] at this ⊢
    exact ⟨rfl, this⟩
section
variable {K : St → AHeap → Prop} {d : Option Nat} {s : St} {H : AHeap}
theorem call_rPul0 {κ : SK} {n r : Nat} {L : List Pul} {row : ARow} (hk : okS κ n) (hl : L.length = n) (hn : n ≤ maxLen) (hr : Vh.rowAt H r = some row) (hc : row.cells = pcells L) (hK : K (putI d s (.int .i64 (pE L))) H) : thenC0 Try.prog K d s H [mkS κ r 0 n] (.func 59 []) := by
  have h := rPulses_calls [ro (pcells L)] (r := 0) hk hl hn rfl rfl
  refine call_do0 h [(r, 0)] rfl ?_ rfl rfl ?_ ⟨seen_ro_whole hr (by rw [hc, flatL_ren pc_flat]) (flatL_under pc_flat), trivial⟩ fun v0 H0' ⟨e1, e2⟩ => ?_
  · simp [underL, mkS_under]
  · rw [n_lcons, n_lnil, n_mkS0 (r' := r) rfl]; rfl
  · subst e1; subst e2
    rw [m_merge, m_ro, m_nil, n_int]
    simpa using hK
theorem call_rSl0 {κ : SK} {n r : Nat} {l : List Int} {row : ARow} {a t b : Int} (hk : okS κ n) (hl : l.length = n) (hn : n ≤ maxLen) (hr : Vh.rowAt H r = some row) (hc : row.cells = ints .i64 l) (ht : b = t + 1) (hK : K (putI d s (.int .i64 (gE l a b n))) H) :
    thenC0 Try.prog K d s H [mkS κ r 0 n, .int .i64 a, .int .i64 t] (.func 63 []) := by
  have h := rSlots_calls [ro (ints .i64 l)] (r := 0) (a := a) hk hl hn rfl rfl ht
  refine call_do0 h [(r, 0)] rfl ?_ rfl rfl ?_ ⟨seen_ro_whole hr (by rw [hc, flatL_ren ints_flat]) (flatL_under ints_flat), trivial⟩ fun v0 H0' ⟨e1, e2⟩ => ?_
  · simp [underL, mkS_under, AV.under]
  · rw [n_lcons, n_lcons, n_lcons, n_lnil, n_mkS0 (r' := r) rfl, n_int, n_int]; rfl
  · subst e1; subst e2
    rw [m_merge, m_ro, m_nil, n_int]
    simpa using hK
end
/-- slots that are checked rise -/
theorem gE_rise {l : List Int} {a b : Int} {n : Nat} (h : gE l a b n = 0) : ∀ i, i < n → l.getD 0 0 ≤ l.getD i 0 := by
  have hz : ∀ j, j < n → gA l a b j = 0 := by
    have key : ∀ j, j ≤ n → ∀ k, k < j → gA l a b k = 0 := by
      intro j
      induction j with
      | zero => intro _ k hk; omega
      | succ j ih =>
        intro hj k hk
        rcases Nat.lt_or_ge k j with h1 | h1
        · exact ih (by omega) k h1
        · obtain rfl : k = j := by omega
          by_cases he : gA l a b k = 0
          · exact he
          · have := gE_hit (n := n) (by omega) (ih (by omega)) he
            rw [h] at this; omega
    exact fun j hj => key n (Nat.le_refl _) j hj
  intro i
  induction i with
  | zero => intro _; exact Int.le_refl _
  | succ i ih =>
    intro hi
    have h1 := ih (by omega)
    have h2 := hz (i + 1) hi
    unfold gA at h2
    split at h2
    · split at h2
      · omega
      · rename_i h3
        have : ¬ l.getD (i + 1 - 1) 0 ≥ l.getD (i + 1) 0 := fun q => h3 ⟨by omega, q⟩
        rw [show i + 1 - 1 = i by omega] at this
        omega
    · omega
end Go.Proofs.Ythbhljolpnbdlaa


/- Contracts of stage 4: the reference's Gains. -/
-- NEWSET
namespace Go.Proofs.Ythbhljolpnbdlaa
open Go Go.Vh

theorem kp1 {L : List Pul} {l : List Int} {nb : Nat} {f : Int} (h : pE L ≠ 0) : kpE L l nb f = pE L := by
  have e : fst0 [pE L, if 0 ≤ f ∧ f ≤ 4096 then 0 else 3, gE l 0 L.length l.length] = pE L := by simp [fst0, h]
  unfold kpE; rw [e, if_neg h]
theorem kp2 {L : List Pul} {l : List Int} {nb : Nat} {f : Int} (h : pE L = 0) (h2 : ¬ (0 ≤ f ∧ f ≤ 4096)) : kpE L l nb f = 3 := by
  have e : fst0 [pE L, if 0 ≤ f ∧ f ≤ 4096 then 0 else 3, gE l 0 L.length l.length] = 3 := by rw [if_neg h2]; simp [fst0, h]
  unfold kpE; rw [e]; rfl
theorem kp3 {L : List Pul} {l : List Int} {nb : Nat} {f : Int} (h : pE L = 0) (h2 : 0 ≤ f ∧ f ≤ 4096) (h3 : gE l 0 L.length l.length ≠ 0) : kpE L l nb f = gE l 0 L.length l.length := by
  have e : fst0 [pE L, if 0 ≤ f ∧ f ≤ 4096 then 0 else 3, gE l 0 L.length l.length] = gE l 0 L.length l.length := by rw [if_pos h2]; simp [fst0, h, h3]
  unfold kpE; rw [e, if_neg h3]
theorem kp4 {L : List Pul} {l : List Int} {nb : Nat} {f : Int} (h : pE L = 0) (h2 : 0 ≤ f ∧ f ≤ 4096) (h3 : gE l 0 L.length l.length = 0) : kpE L l nb f = if 0 < l.length ∧ l.getD 0 0 < f then 3 else if nb = l.length then (if seenA L l then 0 else 11) else 22 := by
  have e : fst0 [pE L, if 0 ≤ f ∧ f ≤ 4096 then 0 else 3, gE l 0 L.length l.length] = 0 := by rw [if_pos h2]; simp [fst0, h, h3]
  unfold kpE; rw [e, if_pos rfl]
theorem gn0 {L : List Pul} {l : List Int} {nb : Nat} {b : Nat → Bool} {f : Int} (h : kpE L l nb f ≠ 0) : gnL L l nb b f = z9 := by unfold gnL; rw [if_neg h]

set_option maxHeartbeats 8000000 in
theorem rGains_calls (H0 : AHeap) {κ κ' κ2 : SK} {n m r r' r2 nb : Nat} {L : List Pul} {l : List Int} {b : Nat → Bool} {row row' row2 : ARow} {f : Int} (hk : okS κ m) (hl : L.length = m) (hm : m ≤ 400) (hr : Vh.rowAt H0 r = some row) (hc : row.cells = pcells L)
    (hk' : okS κ' n) (hl' : l.length = n) (hn : n ≤ 400) (hr' : Vh.rowAt H0 r' = some row') (hc' : row'.cells = ints .i64 l)
    (hk2 : okS κ2 nb) (hnb : nb ≤ 400) (hr2 : Vh.rowAt H0 r2 = some row2) (hc2 : row2.cells = bt nb b) (hfr : -9223372036854775808 ≤ f ∧ f ≤ 9223372036854775807) :
    ACalls Try.prog 34 [mkS κ r 0 m, mkS κ' r' 0 n, mkS κ2 r2 0 nb, .int .i64 f] H0 (List.range H0.length) fun v H => v = .tuple [.agg (ints .i64 (gnL L l nb b f)), .int .i64 (kpE L l nb f)] ∧ Base H0 H := by
  refine ACalls.body Try.func34 ent_rGains ir_rGains_ok rs_rGains_ok Try.ntmps34 (by simp) rfl ?_
  unfold ir_rGains
  have e0 : s0 [mkS κ r 0 m, mkS κ' r' 0 n, mkS κ2 r2 0 nb, .int .i64 f] 0 = mkS κ r 0 m := rfl
  have e1 : s0 [mkS κ r 0 m, mkS κ' r' 0 n, mkS κ2 r2 0 nb, .int .i64 f] 1 = mkS κ' r' 0 n := rfl
  have e2 : s0 [mkS κ r 0 m, mkS κ' r' 0 n, mkS κ2 r2 0 nb, .int .i64 f] 2 = mkS κ2 r2 0 nb := rfl
  have e3 : s0 [mkS κ r 0 m, mkS κ' r' 0 n, mkS κ2 r2 0 nb, .int .i64 f] 3 = .int .i64 f := rfl
  rw [show rs_rGains = [.cell 8 9 true, .tmp 9] from rfl]
  have hz9 : ([.int .i64 0, .int .i64 0, .int .i64 0, .int .i64 0, .int .i64 0, .int .i64 0, .int .i64 0, .int .i64 0, .int .i64 0] : List AV) = ints .i64 z9 := rfl
  have hzp : [AV.int .i64 0, .bool false, .int .i64 0, .int .i64 0, .bool false].all AV.cell = true := rfl
  simp (disch := omega) only [sN, ↓reduceIte, Nat.reduceEqDiff, Nat.reduceAdd, Nat.reduceMul, Nat.reduceSub, reduceCtorEq, e_none, e_some, e_bindS, e0, e1, e2, e3]
  rw [hz9, x_allocA intsc2]
  simp (disch := omega) only [sN, ↓reduceIte, Nat.reduceEqDiff, Nat.reduceAdd, Nat.reduceMul, Nat.reduceSub, reduceCtorEq, e_none, e_some, e_bindS, e0, e1, e2, e3]
  rw [x_allocA intsc2]
  obtain ⟨a8, ha8⟩ : ∃ a, a = H0.length := ⟨_, rfl⟩
  obtain ⟨a10, ha10⟩ : ∃ a, a = (H0 ++ [rw_ (ints .i64 z9)]).length := ⟨_, rfl⟩
  obtain ⟨H1, hH1⟩ : ∃ h, h = H0 ++ [rw_ (ints .i64 z9)] ++ [rw_ (ints .i64 z9)] := ⟨_, rfl⟩
  have hB : Base H0 H1 := by rw [hH1]; exact Base.one.app
  have q8 : Vh.rowAt H1 a8 = some ⟨true, false, ints .i64 z9⟩ := by rw [hH1, ha8, rowAt_append_left (by simp)]; simp [Vh.rowAt, rw_]
  have q10 : Vh.rowAt H1 a10 = some ⟨true, false, ints .i64 z9⟩ := by rw [hH1, ha10]; simp [Vh.rowAt, rw_]
  have h8 : H0.length ≤ a8 := by omega
  have h10 : H0.length ≤ a10 := by rw [ha10]; simp
  have hne8 : a10 ≠ a8 := by rw [ha10, ha8]; simp
  have hn8 : a8 ≤ H1.length := Nat.le_of_lt (rowAt_lt q8)
  rw [← hH1, ← ha10, ← ha8]
  clear hH1 ha8 ha10
  have hrH := hB.row hr
  have hrH' := hB.row hr'
  have hrH2 := hB.row hr2
  have hm' : m ≤ maxLen := by unfold maxLen; omega
  have hn' : n ≤ maxLen := by unfold maxLen; omega
  simp (disch := omega) only [sN, ↓reduceIte, Nat.reduceEqDiff, Nat.reduceAdd, Nat.reduceMul, Nat.reduceSub, reduceCtorEq, e_none, e_some, e_bindS, e0, e1, e2, e3, List.map_cons, List.map_nil]
  refine ⟨_, (rPulses_calls H1 hk hl hm' hrH hc).g.mono ?_⟩
  rintro v Hx ⟨rfl, hHx⟩
  rw [hHx]
  clear hHx Hx
  by_cases p1 : pE L = 0
  case neg =>
    have hkp : kpE L l nb f = pE L := kp1 p1
    have hgn := gn0 (b := b) (show kpE L l nb f ≠ 0 by rw [hkp]; exact p1)
    have hne : abin .neq (.int .i64 (pE L)) (.int .i64 0) = some (.bool true) := by simp [abin, aint, p1]
    simp (disch := omega) only [sN, ↓reduceIte, Nat.reduceEqDiff, Nat.reduceAdd, Nat.reduceMul, Nat.reduceSub, reduceCtorEq, e_none, e_some, e_bindS, e0, e1, e2, e3, hne]
    rw [x_loadNA (n := 9) (r := a10) (l := ints .i64 z9) (by simp only [e_upd, e_putS, e_putN, e_t, e_c, Nat.reduceEqDiff, ↓reduceIte, reduceCtorEq, Nat.reduceAdd]) q10 rfl rfl]
    simp (disch := omega) only [sN, ↓reduceIte, Nat.reduceEqDiff, Nat.reduceAdd, Nat.reduceMul, Nat.reduceSub, reduceCtorEq, e_none, e_some, e_bindS, e0, e1, e2, e3, List.map_cons, List.map_nil]
    refine call_rPul0 hk hl hm' hrH hc ?_
    simp (disch := omega) only [sN, ↓reduceIte, Nat.reduceEqDiff, Nat.reduceAdd, Nat.reduceMul, Nat.reduceSub, reduceCtorEq, e_none, e_some, e_bindS, e0, e1, e2, e3]
    rw [x_storeNA (n := 9) (r := a8) (l := ints .i64 z9) (l' := ints .i64 z9) (by simp only [e_upd, e_putS, e_putN, e_t, e_c, Nat.reduceEqDiff, ↓reduceIte, reduceCtorEq, Nat.reduceAdd]) (by simp only [e_upd, e_putS, e_putN, e_t, e_c, Nat.reduceEqDiff, ↓reduceIte, reduceCtorEq, Nat.reduceAdd]) intsc2 q8 rfl rfl]
    simp (disch := omega) only [sN, ↓reduceIte, Nat.reduceEqDiff, Nat.reduceAdd, Nat.reduceMul, Nat.reduceSub, reduceCtorEq, e_none, e_some, e_bindS]
    refine ret_keep (by rw [List.length_set]; exact hn8) ?_
    rw [q_cell9 (r := a8) (l := ints .i64 z9) (by simp only [e_upd, e_putS, e_putN, e_t, e_c, Nat.reduceEqDiff, ↓reduceIte, reduceCtorEq, Nat.reduceAdd]) (by have := rowAt_lt q8; simp [Vh.rowAt, rw_, this]) rfl, q_then]
    refine ⟨?_, hB.set h8⟩
    rw [hgn, hkp]
    simp only [e_upd, e_putS, e_putN, e_t, e_c, Nat.reduceEqDiff, ↓reduceIte, reduceCtorEq, Nat.reduceAdd]
  rw [p1]
  simp (disch := omega) only [sN, ↓reduceIte, Nat.reduceEqDiff, Nat.reduceAdd, Nat.reduceMul, Nat.reduceSub, reduceCtorEq, e_none, e_some, e_bindS, e0, e1, e2, e3, List.map_cons, List.map_nil]
  refine ⟨_, (rWithin_calls H1 f 4096).g.mono ?_⟩
  rintro v Hx ⟨rfl, hHx⟩
  rw [hHx]
  clear hHx Hx
  by_cases p2 : 0 ≤ f ∧ f ≤ 4096
  case neg =>
    have hkp : kpE L l nb f = 3 := kp2 p1 p2
    have hgn := gn0 (b := b) (show kpE L l nb f ≠ 0 by rw [hkp]; decide)
    rw [decide_eq_false p2]
    simp (disch := omega) only [sN, ↓reduceIte, Nat.reduceEqDiff, Nat.reduceAdd, Nat.reduceMul, Nat.reduceSub, reduceCtorEq, e_none, e_some, e_bindS, e0, e1, e2, e3]
    rw [x_loadNA (n := 9) (r := a10) (l := ints .i64 z9) (by simp only [e_upd, e_putS, e_putN, e_t, e_c, Nat.reduceEqDiff, ↓reduceIte, reduceCtorEq, Nat.reduceAdd]) q10 rfl rfl]
    simp (disch := omega) only [sN, ↓reduceIte, Nat.reduceEqDiff, Nat.reduceAdd, Nat.reduceMul, Nat.reduceSub, reduceCtorEq, e_none, e_some, e_bindS, e0, e1, e2, e3]
    rw [x_storeNA (n := 9) (r := a8) (l := ints .i64 z9) (l' := ints .i64 z9) (by simp only [e_upd, e_putS, e_putN, e_t, e_c, Nat.reduceEqDiff, ↓reduceIte, reduceCtorEq, Nat.reduceAdd]) (by simp only [e_upd, e_putS, e_putN, e_t, e_c, Nat.reduceEqDiff, ↓reduceIte, reduceCtorEq, Nat.reduceAdd]) intsc2 q8 rfl rfl]
    simp (disch := omega) only [sN, ↓reduceIte, Nat.reduceEqDiff, Nat.reduceAdd, Nat.reduceMul, Nat.reduceSub, reduceCtorEq, e_none, e_some, e_bindS]
    refine ret_keep (by rw [List.length_set]; exact hn8) ?_
    rw [q_cell9 (r := a8) (l := ints .i64 z9) (by simp only [e_upd, e_putS, e_putN, e_t, e_c, Nat.reduceEqDiff, ↓reduceIte, reduceCtorEq, Nat.reduceAdd]) (by have := rowAt_lt q8; simp [Vh.rowAt, rw_, this]) rfl, q_then]
    refine ⟨?_, hB.set h8⟩
    rw [hgn, hkp]
    simp only [e_upd, e_putS, e_putN, e_t, e_c, Nat.reduceEqDiff, ↓reduceIte, reduceCtorEq, Nat.reduceAdd]
  rw [decide_eq_true p2]
  simp (disch := omega) only [sN, ↓reduceIte, Nat.reduceEqDiff, Nat.reduceAdd, Nat.reduceMul, Nat.reduceSub, reduceCtorEq, e_none, e_some, e_bindS, e0, e1, e2, e3, k_len hk, List.map_cons, List.map_nil]
  refine ⟨_, (rSlots_calls H1 (a := 0) (b := (m : Int)) hk' hl' hn' hrH' hc' (by omega)).g.mono ?_⟩
  rintro v Hx ⟨rfl, hHx⟩
  rw [hHx]
  clear hHx Hx
  by_cases p3 : gE l 0 m n = 0
  case neg =>
    have hkp : kpE L l nb f = gE l 0 m n := by rw [kp3 p1 p2 (by rw [hl, hl']; exact p3), hl, hl']
    have hgn := gn0 (b := b) (show kpE L l nb f ≠ 0 by rw [hkp]; exact p3)
    have hne : abin .neq (.int .i64 (gE l 0 m n)) (.int .i64 0) = some (.bool true) := by simp [abin, aint, p3]
    simp (disch := omega) only [sN, ↓reduceIte, Nat.reduceEqDiff, Nat.reduceAdd, Nat.reduceMul, Nat.reduceSub, reduceCtorEq, e_none, e_some, e_bindS, e0, e1, e2, e3, hne]
    rw [x_loadNA (n := 9) (r := a10) (l := ints .i64 z9) (by simp only [e_upd, e_putS, e_putN, e_t, e_c, Nat.reduceEqDiff, ↓reduceIte, reduceCtorEq, Nat.reduceAdd]) q10 rfl rfl]
    simp (disch := omega) only [sN, ↓reduceIte, Nat.reduceEqDiff, Nat.reduceAdd, Nat.reduceMul, Nat.reduceSub, reduceCtorEq, e_none, e_some, e_bindS, e0, e1, e2, e3, k_len hk, List.map_cons, List.map_nil]
    refine call_rSl0 hk' hl' hn' hrH' hc' (b := (m : Int)) (by omega) ?_
    simp (disch := omega) only [sN, ↓reduceIte, Nat.reduceEqDiff, Nat.reduceAdd, Nat.reduceMul, Nat.reduceSub, reduceCtorEq, e_none, e_some, e_bindS, e0, e1, e2, e3]
    rw [x_storeNA (n := 9) (r := a8) (l := ints .i64 z9) (l' := ints .i64 z9) (by simp only [e_upd, e_putS, e_putN, e_t, e_c, Nat.reduceEqDiff, ↓reduceIte, reduceCtorEq, Nat.reduceAdd]) (by simp only [e_upd, e_putS, e_putN, e_t, e_c, Nat.reduceEqDiff, ↓reduceIte, reduceCtorEq, Nat.reduceAdd]) intsc2 q8 rfl rfl]
    simp (disch := omega) only [sN, ↓reduceIte, Nat.reduceEqDiff, Nat.reduceAdd, Nat.reduceMul, Nat.reduceSub, reduceCtorEq, e_none, e_some, e_bindS]
    refine ret_keep (by rw [List.length_set]; exact hn8) ?_
    rw [q_cell9 (r := a8) (l := ints .i64 z9) (by simp only [e_upd, e_putS, e_putN, e_t, e_c, Nat.reduceEqDiff, ↓reduceIte, reduceCtorEq, Nat.reduceAdd]) (by have := rowAt_lt q8; simp [Vh.rowAt, rw_, this]) rfl, q_then]
    refine ⟨?_, hB.set h8⟩
    rw [hgn, hkp]
    simp only [e_upd, e_putS, e_putN, e_t, e_c, Nat.reduceEqDiff, ↓reduceIte, reduceCtorEq, Nat.reduceAdd]
  rw [p3]
  have hkp := kp4 (nb := nb) p1 p2 (l := l) (by rw [hl, hl']; exact p3)
  rw [hl'] at hkp
  simp (disch := omega) only [sN, ↓reduceIte, Nat.reduceEqDiff, Nat.reduceAdd, Nat.reduceMul, Nat.reduceSub, reduceCtorEq, e_none, e_some, e_bindS, e0, e1, e2, e3, k_len hk, k_len hk']
  refine ⟨fun t s H => ∃ i : Nat, t = n - i ∧ i ≤ n ∧ H = H1 ∧ (∀ j, j < i → f ≤ l.getD j 0) ∧ s 0 = mkS κ r 0 m ∧ s 1 = mkS κ' r' 0 n ∧ s 2 = mkS κ2 r2 0 nb ∧ s 3 = .int .i64 f ∧ s 8 = .ptr a8 0 ∧ s 10 = .ptr a10 0 ∧ s 11 = .int .i64 (i : Int), n, ⟨0, rfl, by omega, rfl, fun j h => by omega, ?_, ?_, ?_, ?_, ?_, ?_, ?_⟩, ?_⟩
  iterate 7 · first | (simp only [e_upd, e_putS, e_putN, e_t, e_c, Nat.reduceEqDiff, ↓reduceIte, reduceCtorEq, Nat.reduceAdd, e0]; done) | (simp only [e_upd, e_putS, e_putN, e_t, e_c, Nat.reduceEqDiff, ↓reduceIte, reduceCtorEq, Nat.reduceAdd, e1]; done) | (simp only [e_upd, e_putS, e_putN, e_t, e_c, Nat.reduceEqDiff, ↓reduceIte, reduceCtorEq, Nat.reduceAdd, e2]; done) | (simp only [e_upd, e_putS, e_putN, e_t, e_c, Nat.reduceEqDiff, ↓reduceIte, reduceCtorEq, Nat.reduceAdd, e3]; done) | (simp only [e_upd, e_putS, e_putN, e_t, e_c, Nat.reduceEqDiff, ↓reduceIte, reduceCtorEq, Nat.reduceAdd]; first | done | rfl)
  clear e0 e1 e2 e3
  rintro t s H ⟨i, rfl, hi, hH, hS, k0, k1, k2, k3, k8, k10, k11⟩
  rw [hH]
  clear hH
  by_cases hlt : i < n
  · have hin := gE_ok p3 hlt
    have hgx : row'.cells[i]? = some (.int .i64 (l.getD i 0)) := by rw [hc']; exact ints_get (by omega)
    have hri := gE_rise p3 i hlt
    obtain ⟨x, hx⟩ : ∃ x, x = l.getD i 0 := ⟨_, rfl⟩
    rw [← hx] at hin hgx hri
    have ia : aindexAddr 1 (mkS κ' r' 0 n) (.int .i64 (i : Int)) = some (.ptr r' i) := by
      rw [k_idx hk' (Nat.le_refl n) (by omega) (by omega)]; simp
    by_cases hxf : x < f
    · have hkp' : kpE L l nb f = 3 := by rw [hkp, if_pos ⟨by omega, by omega⟩]
      have hgn := gn0 (b := b) (show kpE L l nb f ≠ 0 by rw [hkp']; decide)
      simp (disch := omega) only [sN, ↓reduceIte, Nat.reduceEqDiff, Nat.reduceAdd, Nat.reduceMul, Nat.reduceSub, reduceCtorEq, e_none, e_some, e_bindS, k0, k1, k2, k3, k8, k10, k11, k_len hk', ia, hrH', hgx, Option.bind_some]
      rw [x_loadNA (n := 9) (r := a10) (l := ints .i64 z9) (by simp only [e_upd, e_putS, e_putN, e_t, e_c, Nat.reduceEqDiff, ↓reduceIte, reduceCtorEq, Nat.reduceAdd, k10]) q10 rfl rfl]
      simp (disch := omega) only [sN, ↓reduceIte, Nat.reduceEqDiff, Nat.reduceAdd, Nat.reduceMul, Nat.reduceSub, reduceCtorEq, e_none, e_some, e_bindS, k8]
      rw [x_storeNA (n := 9) (r := a8) (l := ints .i64 z9) (l' := ints .i64 z9) (by simp only [e_upd, e_putS, e_putN, e_t, e_c, Nat.reduceEqDiff, ↓reduceIte, reduceCtorEq, Nat.reduceAdd, k8]) (by simp only [e_upd, e_putS, e_putN, e_t, e_c, Nat.reduceEqDiff, ↓reduceIte, reduceCtorEq, Nat.reduceAdd]) intsc2 q8 rfl rfl]
      simp (disch := omega) only [sN, ↓reduceIte, Nat.reduceEqDiff, Nat.reduceAdd, Nat.reduceMul, Nat.reduceSub, reduceCtorEq, e_none, e_some, e_bindS]
      refine ret_keep (by rw [List.length_set]; exact hn8) ?_
      rw [q_cell9 (r := a8) (l := ints .i64 z9) (by simp only [e_upd, e_putS, e_putN, e_t, e_c, Nat.reduceEqDiff, ↓reduceIte, reduceCtorEq, Nat.reduceAdd, k8]) (by have := rowAt_lt q8; simp [Vh.rowAt, rw_, this]) rfl, q_then]
      refine ⟨?_, hB.set h8⟩
      rw [hgn, hkp']
      simp only [e_upd, e_putS, e_putN, e_t, e_c, Nat.reduceEqDiff, ↓reduceIte, reduceCtorEq, Nat.reduceAdd]
    · simp (disch := omega) only [sN, ↓reduceIte, Nat.reduceEqDiff, Nat.reduceAdd, Nat.reduceMul, Nat.reduceSub, reduceCtorEq, e_none, e_some, e_bindS, k0, k1, k2, k3, k8, k10, k11, k_len hk', ia, hrH', hgx, Option.bind_some]
      refine loop_keep (m := n - (i + 1)) (by omega) ⟨i + 1, rfl, by omega, rfl, fun j hj => ?_, ?_, ?_, ?_, ?_, ?_, ?_, ?_⟩
      · rcases Nat.lt_or_ge j i with h | h
        · exact hS j h
        · obtain rfl : j = i := by omega
          omega
      iterate 7 · first | (simp only [e_upd, e_putS, e_putN, e_t, e_c, Nat.reduceEqDiff, ↓reduceIte, reduceCtorEq, Nat.reduceAdd, k0]; done) | (simp only [e_upd, e_putS, e_putN, e_t, e_c, Nat.reduceEqDiff, ↓reduceIte, reduceCtorEq, Nat.reduceAdd, k1]; done) | (simp only [e_upd, e_putS, e_putN, e_t, e_c, Nat.reduceEqDiff, ↓reduceIte, reduceCtorEq, Nat.reduceAdd, k2]; done) | (simp only [e_upd, e_putS, e_putN, e_t, e_c, Nat.reduceEqDiff, ↓reduceIte, reduceCtorEq, Nat.reduceAdd, k3]; done) | (simp only [e_upd, e_putS, e_putN, e_t, e_c, Nat.reduceEqDiff, ↓reduceIte, reduceCtorEq, Nat.reduceAdd, k8]; done) | (simp only [e_upd, e_putS, e_putN, e_t, e_c, Nat.reduceEqDiff, ↓reduceIte, reduceCtorEq, Nat.reduceAdd, k10]; done) | (simp only [e_upd, e_putS, e_putN, e_t, e_c, Nat.reduceEqDiff, ↓reduceIte, reduceCtorEq, Nat.reduceAdd]; first | done | rfl)
  have hin : i = n := by omega
  rw [hin] at hS k11
  rw [if_neg (fun h => by have := hS 0 h.1; omega)] at hkp
  clear hi hlt hin
  by_cases hnn : nb = n
  case neg =>
    rw [if_neg hnn] at hkp
    have hkp' := hkp
    have hgn := gn0 (b := b) (show kpE L l nb f ≠ 0 by rw [hkp']; decide)
    simp (disch := omega) only [sN, ↓reduceIte, Nat.reduceEqDiff, Nat.reduceAdd, Nat.reduceMul, Nat.reduceSub, reduceCtorEq, e_none, e_some, e_bindS, k0, k1, k2, k3, k8, k10, k11, k_len hk', k_len hk2]
    rw [x_loadNA (n := 9) (r := a10) (l := ints .i64 z9) (by simp only [e_upd, e_putS, e_putN, e_t, e_c, Nat.reduceEqDiff, ↓reduceIte, reduceCtorEq, Nat.reduceAdd, k10]) q10 rfl rfl]
    simp (disch := omega) only [sN, ↓reduceIte, Nat.reduceEqDiff, Nat.reduceAdd, Nat.reduceMul, Nat.reduceSub, reduceCtorEq, e_none, e_some, e_bindS, k8]
    rw [x_storeNA (n := 9) (r := a8) (l := ints .i64 z9) (l' := ints .i64 z9) (by simp only [e_upd, e_putS, e_putN, e_t, e_c, Nat.reduceEqDiff, ↓reduceIte, reduceCtorEq, Nat.reduceAdd, k8]) (by simp only [e_upd, e_putS, e_putN, e_t, e_c, Nat.reduceEqDiff, ↓reduceIte, reduceCtorEq, Nat.reduceAdd]) intsc2 q8 rfl rfl]
    simp (disch := omega) only [sN, ↓reduceIte, Nat.reduceEqDiff, Nat.reduceAdd, Nat.reduceMul, Nat.reduceSub, reduceCtorEq, e_none, e_some, e_bindS]
    refine ret_keep (by rw [List.length_set]; exact hn8) ?_
    rw [q_cell9 (r := a8) (l := ints .i64 z9) (by simp only [e_upd, e_putS, e_putN, e_t, e_c, Nat.reduceEqDiff, ↓reduceIte, reduceCtorEq, Nat.reduceAdd, k8]) (by have := rowAt_lt q8; simp [Vh.rowAt, rw_, this]) rfl, q_then]
    refine ⟨?_, hB.set h8⟩
    rw [hgn, hkp']
    simp only [e_upd, e_putS, e_putN, e_t, e_c, Nat.reduceEqDiff, ↓reduceIte, reduceCtorEq, Nat.reduceAdd]
  rw [if_pos hnn] at hkp
  simp (disch := omega) only [sN, ↓reduceIte, Nat.reduceEqDiff, Nat.reduceAdd, Nat.reduceMul, Nat.reduceSub, reduceCtorEq, e_none, e_some, e_bindS, k0, k1, k2, k3, k8, k10, k11, k_len hk', k_len hk2]
  refine ⟨fun t s H => ∃ i : Nat, t = n - i ∧ i ≤ n ∧ H = H1 ∧ (∀ j, j < i → (L.getD (l.getD j 0).toNat default).seen = true) ∧ s 0 = mkS κ r 0 m ∧ s 1 = mkS κ' r' 0 n ∧ s 2 = mkS κ2 r2 0 nb ∧ s 3 = .int .i64 f ∧ s 8 = .ptr a8 0 ∧ s 10 = .ptr a10 0 ∧ s 12 = .int .i64 (i : Int), n, ⟨0, rfl, by omega, rfl, fun j h => by omega, ?_, ?_, ?_, ?_, ?_, ?_, ?_⟩, ?_⟩
  iterate 7 · first | (simp only [e_upd, e_putS, e_putN, e_t, e_c, Nat.reduceEqDiff, ↓reduceIte, reduceCtorEq, Nat.reduceAdd, k0]; done) | (simp only [e_upd, e_putS, e_putN, e_t, e_c, Nat.reduceEqDiff, ↓reduceIte, reduceCtorEq, Nat.reduceAdd, k1]; done) | (simp only [e_upd, e_putS, e_putN, e_t, e_c, Nat.reduceEqDiff, ↓reduceIte, reduceCtorEq, Nat.reduceAdd, k2]; done) | (simp only [e_upd, e_putS, e_putN, e_t, e_c, Nat.reduceEqDiff, ↓reduceIte, reduceCtorEq, Nat.reduceAdd, k3]; done) | (simp only [e_upd, e_putS, e_putN, e_t, e_c, Nat.reduceEqDiff, ↓reduceIte, reduceCtorEq, Nat.reduceAdd, k8]; done) | (simp only [e_upd, e_putS, e_putN, e_t, e_c, Nat.reduceEqDiff, ↓reduceIte, reduceCtorEq, Nat.reduceAdd, k10]; done) | (simp only [e_upd, e_putS, e_putN, e_t, e_c, Nat.reduceEqDiff, ↓reduceIte, reduceCtorEq, Nat.reduceAdd]; first | done | rfl)
  clear k0 k1 k2 k3 k8 k10 k11 hS
  rintro t s H ⟨i, rfl, hi, hH, hS, k0, k1, k2, k3, k8, k10, k11⟩
  rw [hH]
  clear hH
  by_cases hlt : i < n
  · have hin := gE_ok p3 hlt
    have hgx : row'.cells[i]? = some (.int .i64 (l.getD i 0)) := by rw [hc']; exact ints_get (by omega)
    obtain ⟨x, hx⟩ : ∃ x, x = l.getD i 0 := ⟨_, rfl⟩
    rw [← hx] at hin hgx
    have g4 := pulse_get (L := L) (i := x.toNat) (j := 4) (by omega) (by omega)
    have hse : (L.getD (l.getD i 0).toNat default).seen = (L.getD x.toNat default).seen := by rw [hx]
    obtain ⟨p, hp⟩ : ∃ p, p = L.getD x.toNat default := ⟨_, rfl⟩
    rw [← hp] at g4 hse
    rw [← hc] at g4
    have g4' : row.cells[x.toNat * 5 + 4]? = some (.bool p.seen) := g4
    obtain ⟨y, hy⟩ : ∃ y, y = p.seen := ⟨_, rfl⟩
    rw [← hy] at g4' hse
    have ia : aindexAddr 1 (mkS κ' r' 0 n) (.int .i64 (i : Int)) = some (.ptr r' i) := by
      rw [k_idx hk' (Nat.le_refl n) (by omega) (by omega)]; simp
    have ib : aindexAddr 5 (mkS κ r 0 m) (.int .i64 x) = some (.ptr r (x.toNat * 5)) := by
      rw [k_idx5 hk (Nat.le_refl m) (by omega) (by omega)]; simp
    cases hyy : y
    · rw [hyy] at hse g4'
      have hkp' : kpE L l nb f = 11 := by rw [hkp, seenA_false (by omega) hse]; rfl
      have hgn := gn0 (b := b) (show kpE L l nb f ≠ 0 by rw [hkp']; decide)
      simp (disch := omega) only [sN, ↓reduceIte, Nat.reduceEqDiff, Nat.reduceAdd, Nat.reduceMul, Nat.reduceSub, reduceCtorEq, e_none, e_some, e_bindS, k0, k1, k2, k3, k8, k10, k11, k_len hk', ia, ib, hrH', hgx, hrH, p_fieldAddr, g4', Option.bind_some, Option.map_some]
      rw [x_loadNA (n := 9) (r := a10) (l := ints .i64 z9) (by simp only [e_upd, e_putS, e_putN, e_t, e_c, Nat.reduceEqDiff, ↓reduceIte, reduceCtorEq, Nat.reduceAdd, k10]) q10 rfl rfl]
      simp (disch := omega) only [sN, ↓reduceIte, Nat.reduceEqDiff, Nat.reduceAdd, Nat.reduceMul, Nat.reduceSub, reduceCtorEq, e_none, e_some, e_bindS, k8]
      rw [x_storeNA (n := 9) (r := a8) (l := ints .i64 z9) (l' := ints .i64 z9) (by simp only [e_upd, e_putS, e_putN, e_t, e_c, Nat.reduceEqDiff, ↓reduceIte, reduceCtorEq, Nat.reduceAdd, k8]) (by simp only [e_upd, e_putS, e_putN, e_t, e_c, Nat.reduceEqDiff, ↓reduceIte, reduceCtorEq, Nat.reduceAdd]) intsc2 q8 rfl rfl]
      simp (disch := omega) only [sN, ↓reduceIte, Nat.reduceEqDiff, Nat.reduceAdd, Nat.reduceMul, Nat.reduceSub, reduceCtorEq, e_none, e_some, e_bindS]
      refine ret_keep (by rw [List.length_set]; exact hn8) ?_
      rw [q_cell9 (r := a8) (l := ints .i64 z9) (by simp only [e_upd, e_putS, e_putN, e_t, e_c, Nat.reduceEqDiff, ↓reduceIte, reduceCtorEq, Nat.reduceAdd, k8]) (by have := rowAt_lt q8; simp [Vh.rowAt, rw_, this]) rfl, q_then]
      refine ⟨?_, hB.set h8⟩
      rw [hgn, hkp']
      simp only [e_upd, e_putS, e_putN, e_t, e_c, Nat.reduceEqDiff, ↓reduceIte, reduceCtorEq, Nat.reduceAdd]
    · rw [hyy] at hse g4'
      simp (disch := omega) only [sN, ↓reduceIte, Nat.reduceEqDiff, Nat.reduceAdd, Nat.reduceMul, Nat.reduceSub, reduceCtorEq, e_none, e_some, e_bindS, k0, k1, k2, k3, k8, k10, k11, k_len hk', ia, ib, hrH', hgx, hrH, p_fieldAddr, g4', Option.bind_some, Option.map_some]
      refine loop_keep (m := n - (i + 1)) (by omega) ⟨i + 1, rfl, by omega, rfl, fun j hj => ?_, ?_, ?_, ?_, ?_, ?_, ?_, ?_⟩
      · rcases Nat.lt_or_ge j i with h | h
        · exact hS j h
        · obtain rfl : j = i := by omega
          exact hse
      iterate 7 · first | (simp only [e_upd, e_putS, e_putN, e_t, e_c, Nat.reduceEqDiff, ↓reduceIte, reduceCtorEq, Nat.reduceAdd, k0]; done) | (simp only [e_upd, e_putS, e_putN, e_t, e_c, Nat.reduceEqDiff, ↓reduceIte, reduceCtorEq, Nat.reduceAdd, k1]; done) | (simp only [e_upd, e_putS, e_putN, e_t, e_c, Nat.reduceEqDiff, ↓reduceIte, reduceCtorEq, Nat.reduceAdd, k2]; done) | (simp only [e_upd, e_putS, e_putN, e_t, e_c, Nat.reduceEqDiff, ↓reduceIte, reduceCtorEq, Nat.reduceAdd, k3]; done) | (simp only [e_upd, e_putS, e_putN, e_t, e_c, Nat.reduceEqDiff, ↓reduceIte, reduceCtorEq, Nat.reduceAdd, k8]; done) | (simp only [e_upd, e_putS, e_putN, e_t, e_c, Nat.reduceEqDiff, ↓reduceIte, reduceCtorEq, Nat.reduceAdd, k10]; done) | (simp only [e_upd, e_putS, e_putN, e_t, e_c, Nat.reduceEqDiff, ↓reduceIte, reduceCtorEq, Nat.reduceAdd]; first | done | rfl)
  have hin : i = n := by omega
  rw [hin] at hS k11
  rw [seenA_true (fun j hj => hS j (by omega)), if_pos rfl] at hkp
  have hgn : gnL L l nb b f = gH L l b (gS L f m) n := by unfold gnL; rw [if_pos hkp, hl, hl']
  clear hi hlt hin hS
  simp (disch := omega) only [sN, ↓reduceIte, Nat.reduceEqDiff, Nat.reduceAdd, Nat.reduceMul, Nat.reduceSub, reduceCtorEq, e_none, e_some, e_bindS, k0, k1, k2, k3, k8, k10, k11, k_len hk']
  obtain ⟨ff, rfl⟩ : ∃ ff : Nat, f = (ff : Int) := ⟨f.toNat, by omega⟩
  refine ⟨fun t s H => ∃ i : Nat, t = m - i ∧ ff ≤ i ∧ (i ≤ m ∨ i = ff) ∧ Base H0 H ∧ Vh.rowAt H a8 = some ⟨true, false, ints .i64 z9⟩ ∧ Vh.rowAt H a10 = some ⟨true, false, ints .i64 (gS L ff i)⟩ ∧ s 0 = mkS κ r 0 m ∧ s 1 = mkS κ' r' 0 n ∧ s 2 = mkS κ2 r2 0 nb ∧ s 8 = .ptr a8 0 ∧ s 10 = .ptr a10 0 ∧ s 13 = .int .i64 (i : Int), m - ff, ⟨ff, rfl, by omega, .inr rfl, hB, q8, by rw [gS_zero ff (Int.le_refl _)]; exact q10, ?_, ?_, ?_, ?_, ?_, ?_⟩, ?_⟩
  iterate 6 · first | (simp only [e_upd, e_putS, e_putN, e_t, e_c, Nat.reduceEqDiff, ↓reduceIte, reduceCtorEq, Nat.reduceAdd, k0]; done) | (simp only [e_upd, e_putS, e_putN, e_t, e_c, Nat.reduceEqDiff, ↓reduceIte, reduceCtorEq, Nat.reduceAdd, k1]; done) | (simp only [e_upd, e_putS, e_putN, e_t, e_c, Nat.reduceEqDiff, ↓reduceIte, reduceCtorEq, Nat.reduceAdd, k2]; done) | (simp only [e_upd, e_putS, e_putN, e_t, e_c, Nat.reduceEqDiff, ↓reduceIte, reduceCtorEq, Nat.reduceAdd, k3]; done) | (simp only [e_upd, e_putS, e_putN, e_t, e_c, Nat.reduceEqDiff, ↓reduceIte, reduceCtorEq, Nat.reduceAdd, k8]; done) | (simp only [e_upd, e_putS, e_putN, e_t, e_c, Nat.reduceEqDiff, ↓reduceIte, reduceCtorEq, Nat.reduceAdd, k10]; done) | (simp only [e_upd, e_putS, e_putN, e_t, e_c, Nat.reduceEqDiff, ↓reduceIte, reduceCtorEq, Nat.reduceAdd]; first | done | rfl)
  clear k0 k1 k2 k3 k8 k10 k11 hB q8 q10 hn8 hrH hrH' hrH2
  rintro t s H ⟨i, rfl, hfi, him, hB, q8, q10, k0, k1, k2, k8, k10, k11⟩
  by_cases hlt : i < m
  · have g4 := pulse_get (L := L) (i := i) (j := 4) (by omega) (by omega)
    have g2 := pulse_get (L := L) (i := i) (j := 2) (by omega) (by omega)
    have hcl := ok_cl p1 (i := i) (by omega)
    have hstep : gS L ff (i + 1) = if (ff : Int) ≤ (i : Int) ∧ (L.getD i default).seen = true then incG (gS L ff i) ((L.getD i default).cl.toNat * 3) else gS L ff i := rfl
    have hG9 := gS_len (L := L) (f := ff) i
    obtain ⟨p, hp⟩ : ∃ p, p = L.getD i default := ⟨_, rfl⟩
    rw [← hp] at g4 g2 hcl hstep
    rw [← hc] at g4 g2
    have g4' : row.cells[i * 5 + 4]? = some (.bool p.seen) := g4
    have g2' : row.cells[i * 5 + 2]? = some (.int .i64 p.cl) := g2
    have hrH := hB.row hr
    have ia : aindexAddr 5 (mkS κ r 0 m) (.int .i64 (i : Int)) = some (.ptr r (i * 5)) := by
      rw [k_idx5 hk (Nat.le_refl m) (by omega) (by omega)]; simp
    obtain ⟨G, hG⟩ : ∃ g, g = gS L ff i := ⟨_, rfl⟩
    rw [← hG] at q10 hstep hG9
    cases hse : p.seen
    case false =>
      rw [if_neg (fun q => by rw [hse] at q; cases q.2)] at hstep
      rw [hse] at g4'
      simp (disch := omega) only [sN, ↓reduceIte, Nat.reduceEqDiff, Nat.reduceAdd, Nat.reduceMul, Nat.reduceSub, reduceCtorEq, e_none, e_some, e_bindS, k0, k1, k2, k8, k10, k11, k_len hk, ia, p_fieldAddr, hrH, g4', Option.bind_some]
      refine loop_keep (m := m - (i + 1)) (by omega) ⟨i + 1, rfl, by omega, .inl (by omega), hB, q8, by rw [hstep]; exact q10, ?_, ?_, ?_, ?_, ?_, ?_⟩
      iterate 6 · first | (simp only [e_upd, e_putS, e_putN, e_t, e_c, Nat.reduceEqDiff, ↓reduceIte, reduceCtorEq, Nat.reduceAdd, k0]; done) | (simp only [e_upd, e_putS, e_putN, e_t, e_c, Nat.reduceEqDiff, ↓reduceIte, reduceCtorEq, Nat.reduceAdd, k1]; done) | (simp only [e_upd, e_putS, e_putN, e_t, e_c, Nat.reduceEqDiff, ↓reduceIte, reduceCtorEq, Nat.reduceAdd, k2]; done) | (simp only [e_upd, e_putS, e_putN, e_t, e_c, Nat.reduceEqDiff, ↓reduceIte, reduceCtorEq, Nat.reduceAdd, k3]; done) | (simp only [e_upd, e_putS, e_putN, e_t, e_c, Nat.reduceEqDiff, ↓reduceIte, reduceCtorEq, Nat.reduceAdd, k8]; done) | (simp only [e_upd, e_putS, e_putN, e_t, e_c, Nat.reduceEqDiff, ↓reduceIte, reduceCtorEq, Nat.reduceAdd, k10]; done) | (simp only [e_upd, e_putS, e_putN, e_t, e_c, Nat.reduceEqDiff, ↓reduceIte, reduceCtorEq, Nat.reduceAdd]; first | done | rfl)
    rw [if_pos ⟨by omega, hse⟩] at hstep
    rw [hse] at g4'
    have hcl3 : 0 ≤ p.cl ∧ p.cl < ((3 : Nat) : Int) := ⟨hcl.1, by omega⟩
    obtain ⟨c, hcc⟩ : ∃ c, c = p.cl.toNat * 3 := ⟨_, rfl⟩
    have hc9 : c < 9 := by omega
    have hcell : (ints .i64 G)[c]? = some (.int .i64 (G.getD c 0)) := ints_get (by omega)
    rw [← hcc] at hstep
    simp (disch := omega) only [sN, ↓reduceIte, Nat.reduceEqDiff, Nat.reduceAdd, Nat.reduceMul, Nat.reduceSub, reduceCtorEq, e_none, e_some, e_bindS, k0, k1, k2, k8, k10, k11, k_len hk, ia, p_fieldAddr, hrH, g4', g2', Option.bind_some]
    rw [p_idxA (r := a10) (o := 0) (k := .i64) (j := p.cl) (by simp only [e_upd, e_putS, e_putN, e_t, e_c, Nat.reduceEqDiff, ↓reduceIte, reduceCtorEq, Nat.reduceAdd, k10]) (by simp only [e_upd, e_putS, e_putN, e_t, e_c, Nat.reduceEqDiff, ↓reduceIte, reduceCtorEq, Nat.reduceAdd]) hcl3, Nat.zero_add, ← hcc]
    simp (disch := omega) only [sN, ↓reduceIte, Nat.reduceEqDiff, Nat.reduceAdd, Nat.reduceMul, Nat.reduceSub, reduceCtorEq, e_none, e_some, e_bindS, k10, p_fieldAddr, Nat.add_zero, q10, hcell, Option.bind_some]
    rw [p_idxA (r := a10) (o := 0) (k := .i64) (j := p.cl) (by simp only [e_upd, e_putS, e_putN, e_t, e_c, Nat.reduceEqDiff, ↓reduceIte, reduceCtorEq, Nat.reduceAdd, k10]) (by simp only [e_upd, e_putS, e_putN, e_t, e_c, Nat.reduceEqDiff, ↓reduceIte, reduceCtorEq, Nat.reduceAdd]) hcl3, Nat.zero_add, ← hcc]
    simp (disch := omega) only [sN, ↓reduceIte, Nat.reduceEqDiff, Nat.reduceAdd, Nat.reduceMul, Nat.reduceSub, reduceCtorEq, e_none, e_some, e_bindS, k10, p_fieldAddr, Nat.add_zero]
    rw [x_store (r := a10) (off := c) (k := .i64) (b := IntKind.i64.wrap (G.getD c 0 + 1)) (l := G) (by simp only [e_upd, e_putS, e_putN, e_t, e_c, Nat.reduceEqDiff, ↓reduceIte, reduceCtorEq, Nat.reduceAdd]) (by simp only [e_upd, e_putS, e_putN, e_t, e_c, Nat.reduceEqDiff, ↓reduceIte, reduceCtorEq, Nat.reduceAdd]) q10 (by omega)]
    simp (disch := omega) only [sN, ↓reduceIte, Nat.reduceEqDiff, Nat.reduceAdd, Nat.reduceMul, Nat.reduceSub, reduceCtorEq, e_none, e_some, e_bindS, k0, k1, k2, k8, k10, k11]
    refine loop_keep (m := m - (i + 1)) (by omega) ⟨i + 1, rfl, by omega, .inl (by omega), hB.set h10, by rw [row_other0 hne8]; exact q8, by rw [row_set0 (rowAt_lt q10), hstep]; rfl, ?_, ?_, ?_, ?_, ?_, ?_⟩
    iterate 6 · first | (simp only [e_upd, e_putS, e_putN, e_t, e_c, Nat.reduceEqDiff, ↓reduceIte, reduceCtorEq, Nat.reduceAdd, k0]; done) | (simp only [e_upd, e_putS, e_putN, e_t, e_c, Nat.reduceEqDiff, ↓reduceIte, reduceCtorEq, Nat.reduceAdd, k1]; done) | (simp only [e_upd, e_putS, e_putN, e_t, e_c, Nat.reduceEqDiff, ↓reduceIte, reduceCtorEq, Nat.reduceAdd, k2]; done) | (simp only [e_upd, e_putS, e_putN, e_t, e_c, Nat.reduceEqDiff, ↓reduceIte, reduceCtorEq, Nat.reduceAdd, k3]; done) | (simp only [e_upd, e_putS, e_putN, e_t, e_c, Nat.reduceEqDiff, ↓reduceIte, reduceCtorEq, Nat.reduceAdd, k8]; done) | (simp only [e_upd, e_putS, e_putN, e_t, e_c, Nat.reduceEqDiff, ↓reduceIte, reduceCtorEq, Nat.reduceAdd, k10]; done) | (simp only [e_upd, e_putS, e_putN, e_t, e_c, Nat.reduceEqDiff, ↓reduceIte, reduceCtorEq, Nat.reduceAdd]; first | done | rfl)
  have hGm : gS L ff i = gS L ff m := by
    rcases him with h | h
    · rw [show i = m by omega]
    · rw [gS_zero i (by omega), gS_zero m (by omega)]
  rw [hGm] at q10
  have hG9 := gS_len (L := L) (f := ff) m
  obtain ⟨G0, hG0⟩ : ∃ g, g = gS L ff m := ⟨_, rfl⟩
  rw [← hG0] at q10 hG9 hgn
  simp (disch := omega) only [sN, ↓reduceIte, Nat.reduceEqDiff, Nat.reduceAdd, Nat.reduceMul, Nat.reduceSub, reduceCtorEq, e_none, e_some, e_bindS, k0, k1, k2, k8, k10, k11, k_len hk]
  clear him hfi hlt
  refine ⟨fun t s H => ∃ j : Nat, t = n - j ∧ j ≤ n ∧ Base H0 H ∧ Vh.rowAt H a8 = some ⟨true, false, ints .i64 z9⟩ ∧ Vh.rowAt H a10 = some ⟨true, false, ints .i64 (gH L l b G0 j)⟩ ∧ s 0 = mkS κ r 0 m ∧ s 1 = mkS κ' r' 0 n ∧ s 2 = mkS κ2 r2 0 nb ∧ s 8 = .ptr a8 0 ∧ s 10 = .ptr a10 0 ∧ s 14 = .int .i64 (j : Int), n, ⟨0, rfl, by omega, hB, q8, q10, ?_, ?_, ?_, ?_, ?_, ?_⟩, ?_⟩
  iterate 6 · first | (simp only [e_upd, e_putS, e_putN, e_t, e_c, Nat.reduceEqDiff, ↓reduceIte, reduceCtorEq, Nat.reduceAdd, k0]; done) | (simp only [e_upd, e_putS, e_putN, e_t, e_c, Nat.reduceEqDiff, ↓reduceIte, reduceCtorEq, Nat.reduceAdd, k1]; done) | (simp only [e_upd, e_putS, e_putN, e_t, e_c, Nat.reduceEqDiff, ↓reduceIte, reduceCtorEq, Nat.reduceAdd, k2]; done) | (simp only [e_upd, e_putS, e_putN, e_t, e_c, Nat.reduceEqDiff, ↓reduceIte, reduceCtorEq, Nat.reduceAdd, k3]; done) | (simp only [e_upd, e_putS, e_putN, e_t, e_c, Nat.reduceEqDiff, ↓reduceIte, reduceCtorEq, Nat.reduceAdd, k8]; done) | (simp only [e_upd, e_putS, e_putN, e_t, e_c, Nat.reduceEqDiff, ↓reduceIte, reduceCtorEq, Nat.reduceAdd, k10]; done) | (simp only [e_upd, e_putS, e_putN, e_t, e_c, Nat.reduceEqDiff, ↓reduceIte, reduceCtorEq, Nat.reduceAdd]; first | done | rfl)
  clear k0 k1 k2 k8 k10 k11 hB q8 q10
  rintro t s H ⟨j, rfl, hj, hB, q8, q10, k0, k1, k2, k8, k10, k11⟩
  by_cases hlt : j < n
  · have hin := gE_ok p3 hlt
    have hgx : row'.cells[j]? = some (.int .i64 (l.getD j 0)) := by rw [hc']; exact ints_get (by omega)
    have hstep : gH L l b G0 (j + 1) = if b j = (L.getD (l.getD j 0).toNat default).bit then incG (gH L l b G0 j) ((L.getD (l.getD j 0).toNat default).cl.toNat * 3 + 1)
        else incG (incG (gH L l b G0 j) ((L.getD (l.getD j 0).toNat default).cl.toNat * 3 + 1)) ((L.getD (l.getD j 0).toNat default).cl.toNat * 3 + 2) := rfl
    have hGl := gH_len (L := L) (l := l) (b := b) hG9 j
    obtain ⟨x, hx⟩ : ∃ x, x = l.getD j 0 := ⟨_, rfl⟩
    rw [← hx] at hin hgx hstep
    have hcl := ok_cl p1 (i := x.toNat) (by omega)
    obtain ⟨c1, c2⟩ := pulse_at (L := L) (i := x.toNat) (by omega)
    obtain ⟨p, hp⟩ : ∃ p, p = L.getD x.toNat default := ⟨_, rfl⟩
    rw [← hp] at c1 hstep hcl
    have gb : row2.cells[j]? = some (.bool (b j)) := by rw [hc2]; exact bt_get (by omega)
    have hrH := hB.row hr
    have hrH' := hB.row hr'
    have ia : aindexAddr 1 (mkS κ' r' 0 n) (.int .i64 (j : Int)) = some (.ptr r' j) := by
      rw [k_idx hk' (Nat.le_refl n) (by omega) (by omega)]; simp
    have ib : aindexAddr 5 (mkS κ r 0 m) (.int .i64 x) = some (.ptr r (x.toNat * 5)) := by
      rw [k_idx5 hk (Nat.le_refl m) (by omega) (by omega)]; simp
    have ic : aindexAddr 1 (mkS κ2 r2 0 nb) (.int .i64 (j : Int)) = some (.ptr r2 j) := by
      rw [k_idx hk2 (Nat.le_refl nb) (by omega) (by omega)]; simp
    have hcl3 : 0 ≤ p.cl ∧ p.cl < ((3 : Nat) : Int) := ⟨hcl.1, by omega⟩
    obtain ⟨c, hcc⟩ : ∃ c, c = p.cl.toNat * 3 := ⟨_, rfl⟩
    have hc9 : c ≤ 6 := by omega
    obtain ⟨G, hG⟩ : ∃ g, g = gH L l b G0 j := ⟨_, rfl⟩
    rw [← hG] at q10 hstep hGl
    rw [← hcc] at hstep
    have hcell : (ints .i64 G)[c + 1]? = some (.int .i64 (G.getD (c + 1) 0)) := ints_get (by omega)
    simp (disch := omega) only [sN, ↓reduceIte, Nat.reduceEqDiff, Nat.reduceAdd, Nat.reduceMul, Nat.reduceSub, reduceCtorEq, e_none, e_some, e_bindS, k0, k1, k2, k8, k10, k11, k_len hk', ia, ib, hrH', hgx, Option.bind_some]
    rw [x_loadNO (n := 5) (r := r) (off := x.toNat * 5) (l := pcell p) (by simp only [e_upd, e_putS, e_putN, e_t, e_c, Nat.reduceEqDiff, ↓reduceIte, reduceCtorEq, Nat.reduceAdd]) hrH (by rw [hc]; exact c1) (by rw [hc]; exact c2)]
    simp (disch := omega) only [sN, ↓reduceIte, Nat.reduceEqDiff, Nat.reduceAdd, Nat.reduceMul, Nat.reduceSub, reduceCtorEq, e_none, e_some, e_bindS, k0, k1, k2, k8, k10, k11]
    rw [x_allocA hzp]
    simp (disch := omega) only [sN, ↓reduceIte, Nat.reduceEqDiff, Nat.reduceAdd, Nat.reduceMul, Nat.reduceSub, reduceCtorEq, e_none, e_some, e_bindS, k0, k1, k2, k8, k10, k11]
    rw [x_storeNA (n := 5) (r := H.length) (l := [.int .i64 0, .bool false, .int .i64 0, .int .i64 0, .bool false]) (l' := pcell p) (by simp only [e_upd, e_putS, e_putN, e_t, e_c, Nat.reduceEqDiff, ↓reduceIte, reduceCtorEq, Nat.reduceAdd]) (by simp only [e_upd, e_putS, e_putN, e_t, e_c, Nat.reduceEqDiff, ↓reduceIte, reduceCtorEq, Nat.reduceAdd]) pcell_cell (by simp [Vh.rowAt, rw_]) rfl rfl]
    rw [show (H ++ [rw_ [AV.int .i64 0, .bool false, .int .i64 0, .int .i64 0, .bool false]]).set H.length (rw_ (pcell p)) = H ++ [rw_ (pcell p)] by simp]
    obtain ⟨a15, ha15⟩ : ∃ a, a = H.length := ⟨_, rfl⟩
    have hne15 : a10 ≠ a15 := by have := rowAt_lt q10; omega
    obtain ⟨H4, hH4⟩ : ∃ h, h = H ++ [rw_ (pcell p)] := ⟨_, rfl⟩
    have hB4 : Base H0 H4 := by rw [hH4]; exact hB.app
    have u8 : Vh.rowAt H4 a8 = some ⟨true, false, ints .i64 z9⟩ := by rw [hH4, rowAt_append_left (rowAt_lt q8)]; exact q8
    have u10 : Vh.rowAt H4 a10 = some ⟨true, false, ints .i64 G⟩ := by rw [hH4, rowAt_append_left (rowAt_lt q10)]; exact q10
    have u15 : Vh.rowAt H4 a15 = some ⟨true, false, pcell p⟩ := by rw [hH4, ha15]; simp [Vh.rowAt, rw_]
    have d1 : (pcell p)[1]? = some (.bool p.bit) := rfl
    have d2 : (pcell p)[2]? = some (.int .i64 p.cl) := rfl
    rw [← hH4, ← ha15]
    clear hH4 ha15 q8 q10
    simp (disch := omega) only [sN, ↓reduceIte, Nat.reduceEqDiff, Nat.reduceAdd, Nat.reduceMul, Nat.reduceSub, reduceCtorEq, e_none, e_some, e_bindS, k0, k1, k2, k8, k10, k11, p_fieldAddr, Nat.zero_add, u15, d2, Option.bind_some]
    rw [p_idxA (r := a10) (o := 0) (k := .i64) (j := p.cl) (by simp only [e_upd, e_putS, e_putN, e_t, e_c, Nat.reduceEqDiff, ↓reduceIte, reduceCtorEq, Nat.reduceAdd, k10]) (by simp only [e_upd, e_putS, e_putN, e_t, e_c, Nat.reduceEqDiff, ↓reduceIte, reduceCtorEq, Nat.reduceAdd]) hcl3, Nat.zero_add, ← hcc]
    simp (disch := omega) only [sN, ↓reduceIte, Nat.reduceEqDiff, Nat.reduceAdd, Nat.reduceMul, Nat.reduceSub, reduceCtorEq, e_none, e_some, e_bindS, k10, p_fieldAddr, u10, hcell, Option.bind_some]
    rw [p_idxA (r := a10) (o := 0) (k := .i64) (j := p.cl) (by simp only [e_upd, e_putS, e_putN, e_t, e_c, Nat.reduceEqDiff, ↓reduceIte, reduceCtorEq, Nat.reduceAdd, k10]) (by simp only [e_upd, e_putS, e_putN, e_t, e_c, Nat.reduceEqDiff, ↓reduceIte, reduceCtorEq, Nat.reduceAdd]) hcl3, Nat.zero_add, ← hcc]
    simp (disch := omega) only [sN, ↓reduceIte, Nat.reduceEqDiff, Nat.reduceAdd, Nat.reduceMul, Nat.reduceSub, reduceCtorEq, e_none, e_some, e_bindS, k10, p_fieldAddr]
    rw [x_store (r := a10) (off := c + 1) (k := .i64) (b := IntKind.i64.wrap (G.getD (c + 1) 0 + 1)) (l := G) (by simp only [e_upd, e_putS, e_putN, e_t, e_c, Nat.reduceEqDiff, ↓reduceIte, reduceCtorEq, Nat.reduceAdd]) (by simp only [e_upd, e_putS, e_putN, e_t, e_c, Nat.reduceEqDiff, ↓reduceIte, reduceCtorEq, Nat.reduceAdd]) u10 (by omega)]
    obtain ⟨H5, hH5⟩ : ∃ h, h = H4.set a10 (rw_ (ints .i64 (G.set (c + 1) (IntKind.i64.wrap (G.getD (c + 1) 0 + 1))))) := ⟨_, rfl⟩
    have v10 : Vh.rowAt H5 a10 = some ⟨true, false, ints .i64 (incG G (c + 1))⟩ := by rw [hH5, row_set0 (rowAt_lt u10)]; rfl
    have v8 : Vh.rowAt H5 a8 = some ⟨true, false, ints .i64 z9⟩ := by rw [hH5, row_other0 hne8]; exact u8
    have v15 : Vh.rowAt H5 a15 = some ⟨true, false, pcell p⟩ := by rw [hH5, row_other0 hne15]; exact u15
    have hBu : Base H0 H5 := by rw [hH5]; exact hB4.set h10
    have vrH2 := hBu.row hr2
    rw [← hH5]
    clear hH5 u8 u10 u15
    have hcell2 : (ints .i64 (incG G (c + 1)))[c + 2]? = some (.int .i64 ((incG G (c + 1)).getD (c + 2) 0)) := ints_get (by rw [incG_len]; omega)
    obtain ⟨y, hy⟩ : ∃ y, y = b j := ⟨_, rfl⟩
    obtain ⟨z, hz⟩ : ∃ z, z = p.bit := ⟨_, rfl⟩
    rw [← hy] at gb hstep
    rw [← hz] at d1 hstep
    by_cases hyz : y = z
    · rw [if_pos hyz] at hstep
      have hnb2 : ∀ s x y', evo s x = .bool z → evo s y' = .bool y → ipure (.binB true x y') s = some (.bool false) := fun s x y' h1 h2 => by
        simp [ipure, h1, h2, hyz]
      simp (disch := omega) only [sN, ↓reduceIte, Nat.reduceEqDiff, Nat.reduceAdd, Nat.reduceMul, Nat.reduceSub, reduceCtorEq, e_none, e_some, e_bindS, k0, k1, k2, k8, k10, k11, ic, vrH2, gb, p_fieldAddr, Nat.zero_add, v15, d1, Option.bind_some]
      rw [hnb2 _ _ _ (by simp only [e_upd, e_putS, e_putN, e_t, e_c, Nat.reduceEqDiff, ↓reduceIte, reduceCtorEq, Nat.reduceAdd]) (by simp only [e_upd, e_putS, e_putN, e_t, e_c, Nat.reduceEqDiff, ↓reduceIte, reduceCtorEq, Nat.reduceAdd])]
      simp (disch := omega) only [sN, ↓reduceIte, Nat.reduceEqDiff, Nat.reduceAdd, Nat.reduceMul, Nat.reduceSub, reduceCtorEq, e_none, e_some, e_bindS, k0, k1, k2, k8, k10, k11]
      refine loop_keep (m := n - (j + 1)) (by omega) ⟨j + 1, rfl, by omega, hBu, v8, by rw [hstep]; exact v10, ?_, ?_, ?_, ?_, ?_, ?_⟩
      iterate 6 · first | (simp only [e_upd, e_putS, e_putN, e_t, e_c, Nat.reduceEqDiff, ↓reduceIte, reduceCtorEq, Nat.reduceAdd, k0]; done) | (simp only [e_upd, e_putS, e_putN, e_t, e_c, Nat.reduceEqDiff, ↓reduceIte, reduceCtorEq, Nat.reduceAdd, k1]; done) | (simp only [e_upd, e_putS, e_putN, e_t, e_c, Nat.reduceEqDiff, ↓reduceIte, reduceCtorEq, Nat.reduceAdd, k2]; done) | (simp only [e_upd, e_putS, e_putN, e_t, e_c, Nat.reduceEqDiff, ↓reduceIte, reduceCtorEq, Nat.reduceAdd, k3]; done) | (simp only [e_upd, e_putS, e_putN, e_t, e_c, Nat.reduceEqDiff, ↓reduceIte, reduceCtorEq, Nat.reduceAdd, k8]; done) | (simp only [e_upd, e_putS, e_putN, e_t, e_c, Nat.reduceEqDiff, ↓reduceIte, reduceCtorEq, Nat.reduceAdd, k10]; done) | (simp only [e_upd, e_putS, e_putN, e_t, e_c, Nat.reduceEqDiff, ↓reduceIte, reduceCtorEq, Nat.reduceAdd]; first | done | rfl)
    · rw [if_neg hyz] at hstep
      have hnb2 : ∀ s x y', evo s x = .bool z → evo s y' = .bool y → ipure (.binB true x y') s = some (.bool true) := fun s x y' h1 h2 => by
        simp only [ipure, h1, h2]; revert hyz; cases y <;> cases z <;> simp
      simp (disch := omega) only [sN, ↓reduceIte, Nat.reduceEqDiff, Nat.reduceAdd, Nat.reduceMul, Nat.reduceSub, reduceCtorEq, e_none, e_some, e_bindS, k0, k1, k2, k8, k10, k11, ic, vrH2, gb, p_fieldAddr, Nat.zero_add, v15, d1, Option.bind_some]
      rw [hnb2 _ _ _ (by simp only [e_upd, e_putS, e_putN, e_t, e_c, Nat.reduceEqDiff, ↓reduceIte, reduceCtorEq, Nat.reduceAdd]) (by simp only [e_upd, e_putS, e_putN, e_t, e_c, Nat.reduceEqDiff, ↓reduceIte, reduceCtorEq, Nat.reduceAdd])]
      simp (disch := omega) only [sN, ↓reduceIte, Nat.reduceEqDiff, Nat.reduceAdd, Nat.reduceMul, Nat.reduceSub, reduceCtorEq, e_none, e_some, e_bindS, k0, k1, k2, k8, k10, k11, p_fieldAddr, Nat.zero_add, v15, d2, Option.bind_some]
      rw [p_idxA (r := a10) (o := 0) (k := .i64) (j := p.cl) (by simp only [e_upd, e_putS, e_putN, e_t, e_c, Nat.reduceEqDiff, ↓reduceIte, reduceCtorEq, Nat.reduceAdd, k10]) (by simp only [e_upd, e_putS, e_putN, e_t, e_c, Nat.reduceEqDiff, ↓reduceIte, reduceCtorEq, Nat.reduceAdd]) hcl3, Nat.zero_add, ← hcc]
      simp (disch := omega) only [sN, ↓reduceIte, Nat.reduceEqDiff, Nat.reduceAdd, Nat.reduceMul, Nat.reduceSub, reduceCtorEq, e_none, e_some, e_bindS, k10, p_fieldAddr, v10, hcell2, Option.bind_some]
      rw [p_idxA (r := a10) (o := 0) (k := .i64) (j := p.cl) (by simp only [e_upd, e_putS, e_putN, e_t, e_c, Nat.reduceEqDiff, ↓reduceIte, reduceCtorEq, Nat.reduceAdd, k10]) (by simp only [e_upd, e_putS, e_putN, e_t, e_c, Nat.reduceEqDiff, ↓reduceIte, reduceCtorEq, Nat.reduceAdd]) hcl3, Nat.zero_add, ← hcc]
      simp (disch := omega) only [sN, ↓reduceIte, Nat.reduceEqDiff, Nat.reduceAdd, Nat.reduceMul, Nat.reduceSub, reduceCtorEq, e_none, e_some, e_bindS, k10, p_fieldAddr]
      rw [x_store (r := a10) (off := c + 2) (k := .i64) (b := IntKind.i64.wrap ((incG G (c + 1)).getD (c + 2) 0 + 1)) (l := incG G (c + 1)) (by simp only [e_upd, e_putS, e_putN, e_t, e_c, Nat.reduceEqDiff, ↓reduceIte, reduceCtorEq, Nat.reduceAdd]) (by simp only [e_upd, e_putS, e_putN, e_t, e_c, Nat.reduceEqDiff, ↓reduceIte, reduceCtorEq, Nat.reduceAdd]) v10 (by rw [incG_len]; omega)]
      simp (disch := omega) only [sN, ↓reduceIte, Nat.reduceEqDiff, Nat.reduceAdd, Nat.reduceMul, Nat.reduceSub, reduceCtorEq, e_none, e_some, e_bindS, k0, k1, k2, k8, k10, k11]
      refine loop_keep (m := n - (j + 1)) (by omega) ⟨j + 1, rfl, by omega, hBu.set h10, by rw [row_other0 hne8]; exact v8, by rw [row_set0 (rowAt_lt v10), hstep]; rfl, ?_, ?_, ?_, ?_, ?_, ?_⟩
      iterate 6 · first | (simp only [e_upd, e_putS, e_putN, e_t, e_c, Nat.reduceEqDiff, ↓reduceIte, reduceCtorEq, Nat.reduceAdd, k0]; done) | (simp only [e_upd, e_putS, e_putN, e_t, e_c, Nat.reduceEqDiff, ↓reduceIte, reduceCtorEq, Nat.reduceAdd, k1]; done) | (simp only [e_upd, e_putS, e_putN, e_t, e_c, Nat.reduceEqDiff, ↓reduceIte, reduceCtorEq, Nat.reduceAdd, k2]; done) | (simp only [e_upd, e_putS, e_putN, e_t, e_c, Nat.reduceEqDiff, ↓reduceIte, reduceCtorEq, Nat.reduceAdd, k3]; done) | (simp only [e_upd, e_putS, e_putN, e_t, e_c, Nat.reduceEqDiff, ↓reduceIte, reduceCtorEq, Nat.reduceAdd, k8]; done) | (simp only [e_upd, e_putS, e_putN, e_t, e_c, Nat.reduceEqDiff, ↓reduceIte, reduceCtorEq, Nat.reduceAdd, k10]; done) | (simp only [e_upd, e_putS, e_putN, e_t, e_c, Nat.reduceEqDiff, ↓reduceIte, reduceCtorEq, Nat.reduceAdd]; first | done | rfl)
  obtain rfl : j = n := by omega
  simp (disch := omega) only [sN, ↓reduceIte, Nat.reduceEqDiff, Nat.reduceAdd, Nat.reduceMul, Nat.reduceSub, reduceCtorEq, e_none, e_some, e_bindS, k0, k1, k2, k8, k10, k11, k_len hk']
  have hGl := gH_len (L := L) (l := l) (b := b) hG9 j
  have hGi : (ints .i64 (gH L l b G0 j)).length = 9 := by rw [ints_length, hGl]
  rw [x_loadNA (n := 9) (r := a10) (l := ints .i64 (gH L l b G0 j)) (by simp only [e_upd, e_putS, e_putN, e_t, e_c, Nat.reduceEqDiff, ↓reduceIte, reduceCtorEq, Nat.reduceAdd, k10]) q10 rfl hGi]
  simp (disch := omega) only [sN, ↓reduceIte, Nat.reduceEqDiff, Nat.reduceAdd, Nat.reduceMul, Nat.reduceSub, reduceCtorEq, e_none, e_some, e_bindS, k8]
  rw [x_storeNA (n := 9) (r := a8) (l := ints .i64 z9) (l' := ints .i64 (gH L l b G0 j)) (by simp only [e_upd, e_putS, e_putN, e_t, e_c, Nat.reduceEqDiff, ↓reduceIte, reduceCtorEq, Nat.reduceAdd, k8]) (by simp only [e_upd, e_putS, e_putN, e_t, e_c, Nat.reduceEqDiff, ↓reduceIte, reduceCtorEq, Nat.reduceAdd]) intsc2 q8 hGi rfl]
  simp (disch := omega) only [sN, ↓reduceIte, Nat.reduceEqDiff, Nat.reduceAdd, Nat.reduceMul, Nat.reduceSub, reduceCtorEq, e_none, e_some, e_bindS, k8]
  refine ret_keep (by rw [List.length_set]; exact Nat.le_of_lt (rowAt_lt q8)) ?_
  rw [q_cell9 (r := a8) (l := ints .i64 (gH L l b G0 j)) (by simp only [e_upd, e_putS, e_putN, e_t, e_c, Nat.reduceEqDiff, ↓reduceIte, reduceCtorEq, Nat.reduceAdd, k8]) (by have := rowAt_lt q8; simp [Vh.rowAt, rw_, this]) hGi, q_then]
  refine ⟨?_, hB.set h8⟩
  rw [hgn, hkp]
  simp only [e_upd, e_putS, e_putN, e_t, e_c, Nat.reduceEqDiff, ↓reduceIte, reduceCtorEq, Nat.reduceAdd]
end Go.Proofs.Ythbhljolpnbdlaa


/- SiftGains: the law's contract. -/
-- NEWSET
namespace Go.Proofs.Ythbhljolpnbdlaa
open Go Go.Vh

theorem p_eq9 {s : St} {x y : Opd} {l : List Int} (hl : l.length = 9) (h1 : evo s x = .agg (ints .i64 l)) (h2 : evo s y = .agg (ints .i64 l)) : ipure (.eqAgg false [(0, 0), (1, 0), (2, 0), (3, 0), (4, 0), (5, 0), (6, 0), (7, 0), (8, 0)] x y) s = some (.bool true) := by
  obtain ⟨a, b, c, d, e, f, g, h, i, rfl⟩ : ∃ a b c d e f g h i, l = [a, b, c, d, e, f, g, h, i] := by
    match l, hl with
    | [a, b, c, d, e, f, g, h, i], _ => exact ⟨a, b, c, d, e, f, g, h, i, rfl⟩
  simp [ipure, h1, h2, aggEq, cellEq, ints]
theorem gnL_len {L : List Pul} {l : List Int} {nb : Nat} {b : Nat → Bool} {f : Int} : (gnL L l nb b f).length = 9 := by
  unfold gnL
  split
  · exact gH_len (gS_len _) _
  · rfl
theorem p_eqZZ {a : Int} : abin .eql (.int .i64 a) (.int .i64 a) = some (.bool true) := by simp [abin, aint]

set_option maxHeartbeats 4000000 in
theorem lawGai_calls {Ww : List Nat} (hw : ACalls Try.prog 11 [] [] Ww fun v _ => v = .bool true) (κ κ' κ2 : SK) (m n nb : Nat) (L : List Pul) (l : List Int) (b : Nat → Bool) (f : Int) (hk : okS κ m) (hl : L.length = m) (hm : m ≤ maxLen) (hk' : okS κ' n) (hl' : l.length = n) (hn : n ≤ maxLen) (hk2 : okS κ2 nb) (hnb : nb ≤ maxLen)
    (hfr : -9223372036854775808 ≤ f ∧ f ≤ 9223372036854775807) :
    ACalls Try.prog 8 [.agg [mkS κ 0 0 m, mkS κ' 1 0 n, mkS κ2 2 0 nb, .int .i64 f]] [ro (pcells L), ro (ints .i64 l), ro (bt nb b)] (List.range 3) fun v _ => v = .bool true := by
  refine ACalls.body Try.func8 ent_lawGai ir_lawGai_ok rs_lawGai_ok Try.ntmps8 (by simp) rfl ?_
  unfold ir_lawGai
  have e0 : s0 [.agg [mkS κ 0 0 m, mkS κ' 1 0 n, mkS κ2 2 0 nb, .int .i64 f]] 0 = .agg [mkS κ 0 0 m, mkS κ' 1 0 n, mkS κ2 2 0 nb, .int .i64 f] := rfl
  have hm' : (m : Int) ≤ 9223372036854775807 := by unfold maxLen at hm; omega
  have hn' : (n : Int) ≤ 9223372036854775807 := by unfold maxLen at hn; omega
  have hb' : (nb : Int) ≤ 9223372036854775807 := by unfold maxLen at hnb; omega
  rw [show rs_lawGai = [.tmp 2] from rfl]
  have hz9 : ([.int .i64 0, .int .i64 0, .int .i64 0, .int .i64 0, .int .i64 0, .int .i64 0, .int .i64 0, .int .i64 0, .int .i64 0] : List AV) = ints .i64 z9 := rfl
  simp (disch := omega) only [sN, ↓reduceIte, Nat.reduceEqDiff, Nat.reduceAdd, Nat.reduceMul, Nat.reduceSub, reduceCtorEq, e_none, e_some, e_bindS, e0]
  rw [x_boxN (l := [mkS κ 0 0 m, mkS κ' 1 0 n, mkS κ2 2 0 nb, .int .i64 f]) (by simp only [e_upd, e_putS, e_putN, e_t, e_c, Nat.reduceEqDiff, ↓reduceIte, reduceCtorEq, Nat.reduceAdd, e0]) (by simp only [List.all_cons, List.all_nil, c_mkS, Bool.true_and]; rfl)]
  rw [hz9]
  obtain ⟨H1, hH1⟩ : ∃ h, h = [ro (pcells L), ro (ints .i64 l), ro (bt nb b)] ++ [rw_ [mkS κ 0 0 m, mkS κ' 1 0 n, mkS κ2 2 0 nb, .int .i64 f]] := ⟨_, rfl⟩
  have r0 : Vh.rowAt H1 0 = some ⟨false, false, pcells L⟩ := by rw [hH1]; simp [Vh.rowAt, ro]
  have r1 : Vh.rowAt H1 1 = some ⟨false, false, ints .i64 l⟩ := by rw [hH1]; simp [Vh.rowAt, ro]
  have r2 : Vh.rowAt H1 2 = some ⟨false, false, bt nb b⟩ := by rw [hH1]; simp [Vh.rowAt, ro]
  have r3 : Vh.rowAt H1 3 = some ⟨true, false, [mkS κ 0 0 m, mkS κ' 1 0 n, mkS κ2 2 0 nb, .int .i64 f]⟩ := by rw [hH1]; simp [Vh.rowAt, rw_, ro]
  have hlen : 3 ≤ H1.length := by rw [hH1]; simp
  have hL3 : [ro (pcells L), ro (ints .i64 l), ro (bt nb b)].length = 3 := rfl
  rw [← hH1]
  simp only [hL3]
  clear hH1
  by_cases c1 : m ≤ 400
  case neg =>
    simp (disch := omega) only [sN, ↓reduceIte, Nat.reduceEqDiff, Nat.reduceAdd, Nat.reduceMul, Nat.reduceSub, reduceCtorEq, e_none, e_some, e_bindS, p_fieldAddr, Nat.zero_add, r3, Option.bind_some, List.getElem?_cons_zero, List.getElem?_cons_succ, k_len hk, k_len hk', k_len hk2, List.map_nil]
    refine call_true6 hw fun H' => ?_
    simp (disch := omega) only [sN, ↓reduceIte, Nat.reduceEqDiff, Nat.reduceAdd, Nat.reduceMul, Nat.reduceSub, reduceCtorEq, e_none, e_some, e_bindS]
    refine ret_keep (by rw [List.length_append]; omega) ?_
    simp only [q_tmp, q_then, e_upd, e_putS, e_putN, e_t, e_c, Nat.reduceEqDiff, ↓reduceIte, reduceCtorEq, Nat.reduceAdd]
  by_cases c2 : n ≤ 400
  case neg =>
    simp (disch := omega) only [sN, ↓reduceIte, Nat.reduceEqDiff, Nat.reduceAdd, Nat.reduceMul, Nat.reduceSub, reduceCtorEq, e_none, e_some, e_bindS, p_fieldAddr, Nat.zero_add, r3, Option.bind_some, List.getElem?_cons_zero, List.getElem?_cons_succ, k_len hk, k_len hk', k_len hk2, List.map_nil]
    refine call_true6 hw fun H' => ?_
    simp (disch := omega) only [sN, ↓reduceIte, Nat.reduceEqDiff, Nat.reduceAdd, Nat.reduceMul, Nat.reduceSub, reduceCtorEq, e_none, e_some, e_bindS]
    refine ret_keep (by rw [List.length_append]; omega) ?_
    simp only [q_tmp, q_then, e_upd, e_putS, e_putN, e_t, e_c, Nat.reduceEqDiff, ↓reduceIte, reduceCtorEq, Nat.reduceAdd]
  by_cases c3 : nb ≤ 400
  case neg =>
    simp (disch := omega) only [sN, ↓reduceIte, Nat.reduceEqDiff, Nat.reduceAdd, Nat.reduceMul, Nat.reduceSub, reduceCtorEq, e_none, e_some, e_bindS, p_fieldAddr, Nat.zero_add, r3, Option.bind_some, List.getElem?_cons_zero, List.getElem?_cons_succ, k_len hk, k_len hk', k_len hk2, List.map_nil]
    refine call_true6 hw fun H' => ?_
    simp (disch := omega) only [sN, ↓reduceIte, Nat.reduceEqDiff, Nat.reduceAdd, Nat.reduceMul, Nat.reduceSub, reduceCtorEq, e_none, e_some, e_bindS]
    refine ret_keep (by rw [List.length_append]; omega) ?_
    simp only [q_tmp, q_then, e_upd, e_putS, e_putN, e_t, e_c, Nat.reduceEqDiff, ↓reduceIte, reduceCtorEq, Nat.reduceAdd]
  simp (disch := omega) only [sN, ↓reduceIte, Nat.reduceEqDiff, Nat.reduceAdd, Nat.reduceMul, Nat.reduceSub, reduceCtorEq, e_none, e_some, e_bindS, p_fieldAddr, Nat.zero_add, r3, Option.bind_some, List.getElem?_cons_zero, List.getElem?_cons_succ, k_len hk, k_len hk', k_len hk2, List.map_cons, List.map_nil]
  refine ⟨_, (gains_calls H1 hk hl c1 r0 rfl hk' hl' c2 r1 rfl hk2 c3 r2 rfl hfr).g.mono ?_⟩
  rintro v H2 ⟨rfl, hB2⟩
  obtain ⟨E, hE⟩ : ∃ e, e = kpE L l nb f := ⟨_, rfl⟩
  obtain ⟨X, hX⟩ : ∃ x, x = gnL L l nb b f := ⟨_, rfl⟩
  have hX9 : X.length = 9 := by rw [hX]; exact gnL_len
  have hXi : (ints .i64 X).length = 9 := by rw [ints_length, hX9]
  rw [← hE, ← hX]
  simp (disch := omega) only [sN, ↓reduceIte, Nat.reduceEqDiff, Nat.reduceAdd, Nat.reduceMul, Nat.reduceSub, reduceCtorEq, e_none, e_some, e_bindS, List.getElem?_cons_zero, List.getElem?_cons_succ]
  rw [x_allocA intsc2]
  simp (disch := omega) only [sN, ↓reduceIte, Nat.reduceEqDiff, Nat.reduceAdd, Nat.reduceMul, Nat.reduceSub, reduceCtorEq, e_none, e_some, e_bindS]
  rw [x_storeNA (n := 9) (r := H2.length) (l := ints .i64 z9) (l' := ints .i64 X) (by simp only [e_upd, e_putS, e_putN, e_t, e_c, Nat.reduceEqDiff, ↓reduceIte, reduceCtorEq, Nat.reduceAdd]) (by simp only [e_upd, e_putS, e_putN, e_t, e_c, Nat.reduceEqDiff, ↓reduceIte, reduceCtorEq, Nat.reduceAdd]) intsc2 (by simp [Vh.rowAt, rw_]) hXi rfl]
  rw [show (H2 ++ [rw_ (ints .i64 z9)]).set H2.length (rw_ (ints .i64 X)) = H2 ++ [rw_ (ints .i64 X)] by simp]
  obtain ⟨H3, hH3⟩ : ∃ h, h = H2 ++ [rw_ (ints .i64 X)] := ⟨_, rfl⟩
  obtain ⟨a3, ha3⟩ : ∃ a, a = H2.length := ⟨_, rfl⟩
  have hB3 : Base H1 H3 := by rw [hH3]; exact hB2.app
  have u3 : Vh.rowAt H3 a3 = some ⟨true, false, ints .i64 X⟩ := by rw [hH3, ha3]; simp [Vh.rowAt, rw_]
  rw [← hH3, ← ha3]
  clear hH3 ha3
  have q3 := hB3.row r3
  simp (disch := omega) only [sN, ↓reduceIte, Nat.reduceEqDiff, Nat.reduceAdd, Nat.reduceMul, Nat.reduceSub, reduceCtorEq, e_none, e_some, e_bindS, p_fieldAddr, Nat.zero_add, q3, Option.bind_some, List.getElem?_cons_zero, List.getElem?_cons_succ, List.map_cons, List.map_nil]
  refine ⟨_, (rGains_calls H3 hk hl c1 (hB3.row r0) rfl hk' hl' c2 (hB3.row r1) rfl hk2 c3 (hB3.row r2) rfl hfr).g.mono ?_⟩
  rintro v H4 ⟨rfl, hB4⟩
  rw [← hE, ← hX]
  have u3' := hB4.row u3
  simp (disch := omega) only [sN, ↓reduceIte, Nat.reduceEqDiff, Nat.reduceAdd, Nat.reduceMul, Nat.reduceSub, reduceCtorEq, e_none, e_some, e_bindS, List.getElem?_cons_zero, List.getElem?_cons_succ]
  rw [x_allocA intsc2]
  simp (disch := omega) only [sN, ↓reduceIte, Nat.reduceEqDiff, Nat.reduceAdd, Nat.reduceMul, Nat.reduceSub, reduceCtorEq, e_none, e_some, e_bindS]
  rw [x_storeNA (n := 9) (r := H4.length) (l := ints .i64 z9) (l' := ints .i64 X) (by simp only [e_upd, e_putS, e_putN, e_t, e_c, Nat.reduceEqDiff, ↓reduceIte, reduceCtorEq, Nat.reduceAdd]) (by simp only [e_upd, e_putS, e_putN, e_t, e_c, Nat.reduceEqDiff, ↓reduceIte, reduceCtorEq, Nat.reduceAdd]) intsc2 (by simp [Vh.rowAt, rw_]) hXi rfl]
  rw [show (H4 ++ [rw_ (ints .i64 z9)]).set H4.length (rw_ (ints .i64 X)) = H4 ++ [rw_ (ints .i64 X)] by simp]
  obtain ⟨H5, hH5⟩ : ∃ h, h = H4 ++ [rw_ (ints .i64 X)] := ⟨_, rfl⟩
  obtain ⟨a5, ha5⟩ : ∃ a, a = H4.length := ⟨_, rfl⟩
  have hB5 : Base H1 H5 := by rw [hH5]; exact (hB3.trans hB4).app
  have u5 : Vh.rowAt H5 a5 = some ⟨true, false, ints .i64 X⟩ := by rw [hH5, ha5]; simp [Vh.rowAt, rw_]
  have u3'' : Vh.rowAt H5 a3 = some ⟨true, false, ints .i64 X⟩ := by rw [hH5, rowAt_append_left (rowAt_lt u3')]; exact u3'
  rw [← hH5, ← ha5]
  clear hH5 ha5
  have hlen5 : 3 ≤ H5.length := Nat.le_trans hlen hB5.1
  simp (disch := omega) only [sN, ↓reduceIte, Nat.reduceEqDiff, Nat.reduceAdd, Nat.reduceMul, Nat.reduceSub, reduceCtorEq, e_none, e_some, e_bindS]
  rw [x_loadNA (n := 9) (r := a3) (l := ints .i64 X) (by simp only [e_upd, e_putS, e_putN, e_t, e_c, Nat.reduceEqDiff, ↓reduceIte, reduceCtorEq, Nat.reduceAdd]) u3'' rfl hXi]
  simp (disch := omega) only [sN, ↓reduceIte, Nat.reduceEqDiff, Nat.reduceAdd, Nat.reduceMul, Nat.reduceSub, reduceCtorEq, e_none, e_some, e_bindS]
  rw [x_loadNA (n := 9) (r := a5) (l := ints .i64 X) (by simp only [e_upd, e_putS, e_putN, e_t, e_c, Nat.reduceEqDiff, ↓reduceIte, reduceCtorEq, Nat.reduceAdd]) u5 rfl hXi]
  simp (disch := omega) only [sN, ↓reduceIte, Nat.reduceEqDiff, Nat.reduceAdd, Nat.reduceMul, Nat.reduceSub, reduceCtorEq, e_none, e_some, e_bindS]
  rw [p_eq9 (l := X) hX9 (by simp only [e_upd, e_putS, e_putN, e_t, e_c, Nat.reduceEqDiff, ↓reduceIte, reduceCtorEq, Nat.reduceAdd]) (by simp only [e_upd, e_putS, e_putN, e_t, e_c, Nat.reduceEqDiff, ↓reduceIte, reduceCtorEq, Nat.reduceAdd])]
  simp (disch := omega) only [sN, ↓reduceIte, Nat.reduceEqDiff, Nat.reduceAdd, Nat.reduceMul, Nat.reduceSub, reduceCtorEq, e_none, e_some, e_bindS, p_eqZZ, List.map_nil]
  refine call_true6 hw fun H' => ?_
  simp (disch := omega) only [sN, ↓reduceIte, Nat.reduceEqDiff, Nat.reduceAdd, Nat.reduceMul, Nat.reduceSub, reduceCtorEq, e_none, e_some, e_bindS]
  refine ret_keep (by rw [List.length_append]; omega) ?_
  simp only [q_tmp, q_then, e_upd, e_putS, e_putN, e_t, e_c, Nat.reduceEqDiff, ↓reduceIte, reduceCtorEq, Nat.reduceAdd]
end Go.Proofs.Ythbhljolpnbdlaa

