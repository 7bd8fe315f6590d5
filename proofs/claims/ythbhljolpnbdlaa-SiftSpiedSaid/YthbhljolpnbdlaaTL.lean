/- Contracts of stage 4: what the eavesdropper knows. -/
import Derived.Test.YthbhljolpnbdlaaVX
import Derived.Test.YthbhljolpnbdlaaTK
set_option linter.unusedSimpArgs false
set_option linter.unusedVariables false
-- NEWSET
namespace Go.Proofs.Ythbhljolpnbdlaa
open Go Go.Vh

def kwE (L : List Pul) (N : List Not) : Int := fst0 [pE L, nE L.length N]
def kwL (L : List Pul) (N : List Not) : List Int := if kwE L N = 0 then trL (kn L N N.length) L.length else []
theorem Gs.low {H0 H1 H : AHeap} {v : AV} {l : List Int} (h : Gs H1 H v l) (hl : H0.length ≤ H1.length) : Gs H0 H v l := by
  rcases h with ⟨rfl, rfl⟩ | ⟨q, h1, rfl, h3, h4⟩
  · exact .inl ⟨rfl, rfl⟩
  · exact .inr ⟨q, h1, rfl, by omega, h4⟩
theorem nA_zero {m : Nat} {x : Not} (h : nA m x = 0) : (1 ≤ x.how ∧ x.how ≤ 3) ∧ (x.ba = 0 ∨ x.ba = 1) ∧ 0 ≤ x.sl ∧ x.sl < m := by
  unfold nA at h
  split at h
  · split at h
    · rename_i h1 h2; exact ⟨h1.1, h1.2, h2.1, h2.2⟩
    · omega
  · omega

set_option maxHeartbeats 4000000 in
theorem knows_calls (H0 : AHeap) {κ κ' : SK} {n m r r' : Nat} {L : List Pul} {N : List Not} {row row' : ARow} (hk : okS κ m) (hl : L.length = m) (hm : m ≤ 400) (hr : Vh.rowAt H0 r = some row) (hc : row.cells = pcells L)
    (hk' : okS κ' n) (hl' : N.length = n) (hn : n ≤ 400) (hr' : Vh.rowAt H0 r' = some row') (hc' : row'.cells = ncells N) :
    ACalls Try.prog 66 [mkS κ r 0 m, mkS κ' r' 0 n] H0 (List.range H0.length) fun v H => ∃ w, v = .tuple [w, .int .i64 (kwE L N)] ∧ Base H0 H ∧ Gs H0 H w (kwL L N) := by
  refine ACalls.body Try.func66 ent_knows ir_knows_ok rs_knows_ok Try.ntmps66 (by simp) rfl ?_
  unfold ir_knows
  have e0 : s0 [mkS κ r 0 m, mkS κ' r' 0 n] 0 = mkS κ r 0 m := rfl
  have e1 : s0 [mkS κ r 0 m, mkS κ' r' 0 n] 1 = mkS κ' r' 0 n := rfl
  have hz : [AV.int .i64 0, AV.int .i64 0, AV.int .i64 0, AV.bool false].all AV.cell = true := rfl
  have fin : ∀ (E : Int) (H : AHeap), Base H0 H → E ≠ 0 → kwE L N = E → ∃ w, AV.tuple [.nilslice, .int .i64 E] = .tuple [w, .int .i64 (kwE L N)] ∧ Base H0 H ∧ Gs H0 H w (kwL L N) := fun E H hB hE he => by
    refine ⟨.nilslice, by rw [he], hB, .inl ⟨?_, rfl⟩⟩
    unfold kwL; rw [if_neg (by rw [he]; exact hE)]
  simp (disch := omega) only [sN, ↓reduceIte, Nat.reduceEqDiff, Nat.reduceAdd, Nat.reduceMul, Nat.reduceSub, reduceCtorEq, e_none, e_some, e_bindS, e0, e1, List.map_cons, List.map_nil]
  refine ⟨_, (ocheck_calls H0 hk hl (by unfold maxLen; omega) hr hc).g.mono ?_⟩
  rintro v H1 ⟨rfl, hB1⟩
  obtain ⟨E1, hE1⟩ : ∃ e, e = pE L := ⟨_, rfl⟩
  rw [← hE1]
  by_cases hz1 : E1 = 0
  · rw [hz1] at hE1 ⊢
    have hkw : kwE L N = nE m N := by unfold kwE; rw [← hE1, hl]; simp [fst0]; intro h; exact h.symm
    simp (disch := omega) only [sN, ↓reduceIte, Nat.reduceEqDiff, Nat.reduceAdd, Nat.reduceMul, Nat.reduceSub, reduceCtorEq, e_none, e_some, e_bindS, e0, e1, k_len hk, k_len hk']
    rw [x_makeB (n := m) (by simp only [e_upd, e_putS, e_putN, e_t, e_c, Nat.reduceEqDiff, ↓reduceIte, reduceCtorEq, Nat.reduceAdd]) (by omega) (by omega)]
    simp (disch := omega) only [sN, ↓reduceIte, Nat.reduceEqDiff, Nat.reduceAdd, Nat.reduceMul, Nat.reduceSub, reduceCtorEq, e_none, e_some, e_bindS, e0, e1, k_len hk, k_len hk']
    obtain ⟨q, hq⟩ : ∃ q, q = H1.length := ⟨_, rfl⟩
    have hq0 : H0.length ≤ q := by rw [hq]; exact hB1.1
    refine ⟨fun t s H => ∃ (i : Nat) (f : Nat → Bool), t = n - i ∧ i ≤ n ∧ Base H0 H ∧ (∀ j, j < i → nA m (N.getD j default) = 0) ∧ (∀ j, j < m → f j = kn L N i j) ∧ Vh.rowAt H q = some ⟨true, false, bt m f⟩ ∧ s 0 = mkS κ r 0 m ∧ s 7 = .slice q 0 m m ∧ s 25 = mkS κ' r' 0 n ∧ s 26 = .int .i64 n ∧ s 27 = .int .i64 (i : Int), n, ⟨0, fun _ => false, rfl, by omega, hB1.app, fun j h => by omega, fun j h => rfl, by rw [hq]; simp [Vh.rowAt, rw_], ?_, ?_, ?_, ?_, ?_⟩, ?_⟩
    · simp only [e_upd, e_putS, e_putN, e_t, e_c, Nat.reduceEqDiff, ↓reduceIte, reduceCtorEq, Nat.reduceAdd, e0]
    · simp only [e_upd, e_putS, e_putN, e_t, e_c, Nat.reduceEqDiff, ↓reduceIte, reduceCtorEq, Nat.reduceAdd, hq]
    · simp only [e_upd, e_putS, e_putN, e_t, e_c, Nat.reduceEqDiff, ↓reduceIte, reduceCtorEq, Nat.reduceAdd]
    · simp only [e_upd, e_putS, e_putN, e_t, e_c, Nat.reduceEqDiff, ↓reduceIte, reduceCtorEq, Nat.reduceAdd]
    · simp only [e_upd, e_putS, e_putN, e_t, e_c, Nat.reduceEqDiff, ↓reduceIte, reduceCtorEq, Nat.reduceAdd]; rfl
    clear hB1
    rintro t s H ⟨i, f, rfl, hi, hB, hS, hf, hrq, h0, h7, h25, h26, h27⟩
    by_cases hlt : i < n
    · obtain ⟨c1, c2⟩ := note_at (L := N) (i := i) (by omega)
      obtain ⟨x, hx⟩ : ∃ x, x = N.getD i default := ⟨_, rfl⟩
      rw [← hx] at c1
      have hrH := hB.row hr
      have hrH' := hB.row hr'
      have ia : aindexAddr 4 (mkS κ' r' 0 n) (.int .i64 (i : Int)) = some (.ptr r' (i * 4)) := by
        rw [k_idx4 hk' (Nat.le_refl n) (by omega) (by omega)]; simp
      simp (disch := omega) only [sN, ↓reduceIte, Nat.reduceEqDiff, Nat.reduceAdd, Nat.reduceMul, Nat.reduceSub, reduceCtorEq, e_none, e_some, e_bindS, h0, h7, h25, h26, h27, ia]
      rw [x_loadNO (n := 4) (r := r') (off := i * 4) (l := ncell x) (by simp only [e_upd, e_putS, e_putN, e_t, e_c, Nat.reduceEqDiff, ↓reduceIte, reduceCtorEq, Nat.reduceAdd]) hrH' (by rw [hc']; exact c1) (by rw [hc']; exact c2)]
      simp (disch := omega) only [sN, ↓reduceIte, Nat.reduceEqDiff, Nat.reduceAdd, Nat.reduceMul, Nat.reduceSub, reduceCtorEq, e_none, e_some, e_bindS, h0, h7, h25, h26, h27]
      rw [x_allocA hz]
      simp (disch := omega) only [sN, ↓reduceIte, Nat.reduceEqDiff, Nat.reduceAdd, Nat.reduceMul, Nat.reduceSub, reduceCtorEq, e_none, e_some, e_bindS, h0, h7, h25, h26, h27]
      rw [x_storeNA (n := 4) (r := H.length) (l := [.int .i64 0, .int .i64 0, .int .i64 0, .bool false]) (l' := ncell x) (by simp only [e_upd, e_putS, e_putN, e_t, e_c, Nat.reduceEqDiff, ↓reduceIte, reduceCtorEq, Nat.reduceAdd]) (by simp only [e_upd, e_putS, e_putN, e_t, e_c, Nat.reduceEqDiff, ↓reduceIte, reduceCtorEq, Nat.reduceAdd]) ncell_cell (by simp [Vh.rowAt, rw_]) rfl rfl]
      rw [set_last]
      have hb : Vh.rowAt (H ++ [rw_ (ncell x)]) H.length = some ⟨true, false, ncell x⟩ := by simp [Vh.rowAt, rw_]
      simp (disch := omega) only [sN, ↓reduceIte, Nat.reduceEqDiff, Nat.reduceAdd, Nat.reduceMul, Nat.reduceSub, reduceCtorEq, e_none, e_some, e_bindS, h0, h7, h25, h26, h27]
      rw [x_loadNA (n := 4) (r := H.length) (l := ncell x) (by simp only [e_upd, e_putS, e_putN, e_t, e_c, Nat.reduceEqDiff, ↓reduceIte, reduceCtorEq, Nat.reduceAdd]) hb rfl rfl]
      simp (disch := omega) only [sN, ↓reduceIte, Nat.reduceEqDiff, Nat.reduceAdd, Nat.reduceMul, Nat.reduceSub, reduceCtorEq, e_none, e_some, e_bindS, h0, h7, h25, h26, h27, k_len hk, List.map_cons, List.map_nil]
      refine ⟨_, (checkNote_calls _ x m).g.mono ?_⟩
      rintro v H' ⟨rfl, hB'⟩
      have hb2 := hB'.row hb
      have hB2 := hB.app.trans hB'
      have hrq2 := hB'.row ((Base.one (R := [rw_ (ncell x)])).row hrq)
      have hr2 := hB2.row hr
      clear hb c1 c2
      obtain ⟨E, hE⟩ : ∃ e, e = nA m x := ⟨_, rfl⟩
      rw [← hE]
      by_cases hz2 : E = 0
      · have hz3 : nA m x = 0 := by rw [← hE]; exact hz2
        obtain ⟨n1, n2, n3, n4⟩ := nA_zero hz3
        rw [hz2]
        have done : ∀ j, j < i + 1 → nA m (N.getD j default) = 0 := fun j hj => by
          rcases Nat.lt_or_ge j i with h' | h'
          · exact hS j h'
          · obtain rfl : j = i := by omega
            rw [← hx]; exact hz3
        have hks : ∀ j, kn L N (i + 1) j = (kn L N i j || nk L x j) := fun j => by rw [kn_succ, ← hx]
        clear hx hE hz3
        obtain ⟨sl, how, ba, bit⟩ := x
        dsimp only at n1 n2 n3 n4
        have hb3 : Vh.rowAt H' H.length = some ⟨true, false, [.int .i64 sl, .int .i64 how, .int .i64 ba, .bool bit]⟩ := hb2
        have g2 := pulse_get (L := L) (i := sl.toNat) (j := 0) (by omega) (by omega)
        obtain ⟨p, hp⟩ : ∃ p, p = L.getD sl.toNat default := ⟨_, rfl⟩
        rw [← hp] at g2
        rw [← hc] at g2
        have g2' : row.cells[sl.toNat * 5]? = some (.int .i64 p.ba) := g2
        obtain ⟨y, hy⟩ : ∃ y, y = p.ba := ⟨_, rfl⟩
        rw [← hy] at g2'
        have ib : aindexAddr 5 (mkS κ r 0 m) (.int .i64 sl) = some (.ptr r (sl.toNat * 5)) := by
          rw [k_idx5 hk (Nat.le_refl m) (by omega) (by omega)]; simp
        have ic : aindexAddr 1 (.slice q 0 m m) (.int .i64 sl) = some (.ptr q sl.toNat) := by
          rw [a_idx (by omega) (by omega)]; simp
        have keep : ∀ j, j < m → ¬ (how = 2 ∨ ba = y) → f j = kn L N (i + 1) j := fun j hj hno => by
          rw [hks, hf j hj]
          have : nk L ⟨sl, how, ba, bit⟩ j = false := by
            unfold nk
            refine decide_eq_false ?_
            rintro ⟨q1, q2⟩
            dsimp only at q1 q2
            refine hno ?_
            rw [hy, hp, show sl.toNat = j by omega]; exact q2
          rw [this, Bool.or_false]
        have put : ∀ j, j < m → (how = 2 ∨ ba = y) → (if j = sl.toNat then true else f j) = kn L N (i + 1) j := fun j hj hyes => by
          rw [hks, hf j hj]
          by_cases hj2 : j = sl.toNat
          · have : nk L ⟨sl, how, ba, bit⟩ j = true := by
              unfold nk
              refine decide_eq_true ⟨?_, ?_⟩
              · dsimp only; omega
              · dsimp only; rw [hj2, ← hp, ← hy]; exact hyes
            rw [if_pos hj2, this, Bool.or_true]
          · have : nk L ⟨sl, how, ba, bit⟩ j = false := by
              unfold nk
              refine decide_eq_false ?_
              rintro ⟨q1, q2⟩
              dsimp only at q1
              omega
            rw [if_neg hj2, this, Bool.or_false]
        clear hp hy hb2 hks g2
        by_cases hw : how = 2
        · simp (disch := omega) only [sN, ↓reduceIte, Nat.reduceEqDiff, Nat.reduceAdd, Nat.reduceMul, Nat.reduceSub, reduceCtorEq, e_none, e_some, e_bindS, h0, h7, h25, h26, h27, p_fieldAddr, Nat.zero_add, hb3, Option.bind_some, Option.map_some, List.getElem?_cons_zero, List.getElem?_cons_succ, ic]
          rw [x_putB (r := q) (off := sl.toNat) (b := true) (n := m) (f := f) (by simp only [e_upd, e_putS, e_putN, e_t, e_c, Nat.reduceEqDiff, ↓reduceIte, reduceCtorEq, Nat.reduceAdd]) (by simp only [e_upd, e_putS, e_putN, e_t, e_c, Nat.reduceEqDiff, ↓reduceIte, reduceCtorEq, Nat.reduceAdd]) hrq2 (by omega)]
          simp (disch := omega) only [sN, ↓reduceIte, Nat.reduceEqDiff, Nat.reduceAdd, Nat.reduceMul, Nat.reduceSub, reduceCtorEq, e_none, e_some, e_bindS, h0, h7, h25, h26, h27]
          refine loop_keep (m := n - (i + 1)) (by omega) ⟨i + 1, fun j => if j = sl.toNat then true else f j, rfl, by omega, hB2.set hq0, done, fun j hj => put j hj (.inl hw), ?_, ?_, ?_, ?_, ?_, ?_⟩
          · rw [row_set0 (rowAt_lt hrq2)]; rfl
          · simp only [e_upd, e_putS, e_putN, e_t, e_c, Nat.reduceEqDiff, ↓reduceIte, reduceCtorEq, Nat.reduceAdd, h0]
          · simp only [e_upd, e_putS, e_putN, e_t, e_c, Nat.reduceEqDiff, ↓reduceIte, reduceCtorEq, Nat.reduceAdd, h7]
          · simp only [e_upd, e_putS, e_putN, e_t, e_c, Nat.reduceEqDiff, ↓reduceIte, reduceCtorEq, Nat.reduceAdd, h25]
          · simp only [e_upd, e_putS, e_putN, e_t, e_c, Nat.reduceEqDiff, ↓reduceIte, reduceCtorEq, Nat.reduceAdd, h26]
          · simp only [e_upd, e_putS, e_putN, e_t, e_c, Nat.reduceEqDiff, ↓reduceIte, reduceCtorEq, Nat.reduceAdd]; first | done | rfl
        · by_cases hby : ba = y
          · simp (disch := omega) only [sN, ↓reduceIte, Nat.reduceEqDiff, Nat.reduceAdd, Nat.reduceMul, Nat.reduceSub, reduceCtorEq, e_none, e_some, e_bindS, h0, h7, h25, h26, h27, p_fieldAddr, Nat.zero_add, Nat.add_zero, hb3, Option.bind_some, Option.map_some, List.getElem?_cons_zero, List.getElem?_cons_succ, ib, ic, hr2, g2']
            rw [x_putB (r := q) (off := sl.toNat) (b := true) (n := m) (f := f) (by simp only [e_upd, e_putS, e_putN, e_t, e_c, Nat.reduceEqDiff, ↓reduceIte, reduceCtorEq, Nat.reduceAdd]) (by simp only [e_upd, e_putS, e_putN, e_t, e_c, Nat.reduceEqDiff, ↓reduceIte, reduceCtorEq, Nat.reduceAdd]) hrq2 (by omega)]
            simp (disch := omega) only [sN, ↓reduceIte, Nat.reduceEqDiff, Nat.reduceAdd, Nat.reduceMul, Nat.reduceSub, reduceCtorEq, e_none, e_some, e_bindS, h0, h7, h25, h26, h27]
            refine loop_keep (m := n - (i + 1)) (by omega) ⟨i + 1, fun j => if j = sl.toNat then true else f j, rfl, by omega, hB2.set hq0, done, fun j hj => put j hj (.inr hby), ?_, ?_, ?_, ?_, ?_, ?_⟩
            · rw [row_set0 (rowAt_lt hrq2)]; rfl
            · simp only [e_upd, e_putS, e_putN, e_t, e_c, Nat.reduceEqDiff, ↓reduceIte, reduceCtorEq, Nat.reduceAdd, h0]
            · simp only [e_upd, e_putS, e_putN, e_t, e_c, Nat.reduceEqDiff, ↓reduceIte, reduceCtorEq, Nat.reduceAdd, h7]
            · simp only [e_upd, e_putS, e_putN, e_t, e_c, Nat.reduceEqDiff, ↓reduceIte, reduceCtorEq, Nat.reduceAdd, h25]
            · simp only [e_upd, e_putS, e_putN, e_t, e_c, Nat.reduceEqDiff, ↓reduceIte, reduceCtorEq, Nat.reduceAdd, h26]
            · simp only [e_upd, e_putS, e_putN, e_t, e_c, Nat.reduceEqDiff, ↓reduceIte, reduceCtorEq, Nat.reduceAdd]; first | done | rfl
          · simp (disch := omega) only [sN, ↓reduceIte, Nat.reduceEqDiff, Nat.reduceAdd, Nat.reduceMul, Nat.reduceSub, reduceCtorEq, e_none, e_some, e_bindS, h0, h7, h25, h26, h27, p_fieldAddr, Nat.zero_add, Nat.add_zero, hb3, Option.bind_some, Option.map_some, List.getElem?_cons_zero, List.getElem?_cons_succ, ib, ic, hr2, g2']
            refine loop_keep (m := n - (i + 1)) (by omega) ⟨i + 1, f, rfl, by omega, hB2, done, fun j hj => keep j hj (by omega), hrq2, ?_, ?_, ?_, ?_, ?_⟩
            · simp only [e_upd, e_putS, e_putN, e_t, e_c, Nat.reduceEqDiff, ↓reduceIte, reduceCtorEq, Nat.reduceAdd, h0]
            · simp only [e_upd, e_putS, e_putN, e_t, e_c, Nat.reduceEqDiff, ↓reduceIte, reduceCtorEq, Nat.reduceAdd, h7]
            · simp only [e_upd, e_putS, e_putN, e_t, e_c, Nat.reduceEqDiff, ↓reduceIte, reduceCtorEq, Nat.reduceAdd, h25]
            · simp only [e_upd, e_putS, e_putN, e_t, e_c, Nat.reduceEqDiff, ↓reduceIte, reduceCtorEq, Nat.reduceAdd, h26]
            · simp only [e_upd, e_putS, e_putN, e_t, e_c, Nat.reduceEqDiff, ↓reduceIte, reduceCtorEq, Nat.reduceAdd]; first | done | rfl
      · simp (disch := omega) only [sN, ↓reduceIte, Nat.reduceEqDiff, Nat.reduceAdd, Nat.reduceMul, Nat.reduceSub, reduceCtorEq, e_none, e_some, e_bindS, h0, h7, h25, h26, h27]
        refine ret_keep hB2.1 ?_
        rw [show rs_knows = [.tmp 4, .tmp 5] from rfl, q_tmp2, q_then]
        simp only [e_upd, e_putS, e_putN, e_t, e_c, Nat.reduceEqDiff, ↓reduceIte, reduceCtorEq, Nat.reduceAdd]
        exact fin E H' hB2 hz2 (by rw [hkw, nE_hit (i := i) (by omega) hS (by rw [← hx, ← hE]; exact hz2), ← hx, hE])
    · obtain rfl : i = n := by omega
      have hkz : kwE L N = 0 := by rw [hkw]; exact nE_zero fun j hj => hS j (by omega)
      obtain ⟨g, hg⟩ : ∃ g, g = kn L N i := ⟨_, rfl⟩
      rw [bt_congr (g := g) (fun j hj => by rw [hf j hj, hg])] at hrq
      simp (disch := omega) only [sN, ↓reduceIte, Nat.reduceEqDiff, Nat.reduceAdd, Nat.reduceMul, Nat.reduceSub, reduceCtorEq, e_none, e_some, e_bindS, h0, h7, h25, h26, h27]
      refine ⟨fun t s2 H2 => ∃ j : Nat, t = m - j ∧ j ≤ m ∧ Base H H2 ∧ Gs H H2 (s2 11) (trL g j) ∧ s2 57 = .slice q 0 m m ∧ s2 58 = .int .i64 m ∧ s2 59 = .int .i64 (j : Int), m, ⟨0, rfl, by omega, Base.refl, .inl ⟨rfl, ?_⟩, ?_, ?_, ?_⟩, ?_⟩
      · simp only [e_upd, e_putS, e_putN, e_t, e_c, Nat.reduceEqDiff, ↓reduceIte, reduceCtorEq, Nat.reduceAdd]
      · simp only [e_upd, e_putS, e_putN, e_t, e_c, Nat.reduceEqDiff, ↓reduceIte, reduceCtorEq, Nat.reduceAdd]
      · simp only [e_upd, e_putS, e_putN, e_t, e_c, Nat.reduceEqDiff, ↓reduceIte, reduceCtorEq, Nat.reduceAdd]
      · simp only [e_upd, e_putS, e_putN, e_t, e_c, Nat.reduceEqDiff, ↓reduceIte, reduceCtorEq, Nat.reduceAdd]; rfl
      rintro t s2 H2 ⟨j, rfl, hj, hB2, hg2, h57, h58, h59⟩
      by_cases hlt2 : j < m
      · have hrq2 := hB2.row hrq
        have hgj : (bt m g)[j]? = some (.bool (g j)) := bt_get hlt2
        have ic : aindexAddr 1 (.slice q 0 m m) (.int .i64 (j : Int)) = some (.ptr q j) := by
          rw [a_idx (by omega) (by omega)]; simp
        have hst : trL g (j + 1) = trL g j ++ (if g j then [(j : Int)] else []) := rfl
        have hln := trL_len (f := g) j
        cases hgb : g j
        · rw [hgb] at hgj hst
          simp (disch := omega) only [sN, ↓reduceIte, Nat.reduceEqDiff, Nat.reduceAdd, Nat.reduceMul, Nat.reduceSub, reduceCtorEq, e_none, e_some, e_bindS, h57, h58, h59, ic, hrq2, hgj, Option.bind_some]
          refine loop_keep (m := m - (j + 1)) (by omega) ⟨j + 1, rfl, by omega, hB2, ?_, ?_, ?_, ?_⟩
          · rw [hst]; simp only [e_upd, e_putS, e_putN, e_t, e_c, Nat.reduceEqDiff, ↓reduceIte, reduceCtorEq, Nat.reduceAdd]; simpa using hg2
          · simp only [e_upd, e_putS, e_putN, e_t, e_c, Nat.reduceEqDiff, ↓reduceIte, reduceCtorEq, Nat.reduceAdd, h57]
          · simp only [e_upd, e_putS, e_putN, e_t, e_c, Nat.reduceEqDiff, ↓reduceIte, reduceCtorEq, Nat.reduceAdd, h58]
          · simp only [e_upd, e_putS, e_putN, e_t, e_c, Nat.reduceEqDiff, ↓reduceIte, reduceCtorEq, Nat.reduceAdd]; first | done | rfl
        · rw [hgb] at hgj hst
          obtain ⟨v', H'', ea, eg, eb⟩ := x_appGs (H0 := H) (H := H2 ++ [rw_ [.int .i64 (j : Int)]]) (a := (j : Int)) (r := H2.length) (c := 1) (row := ⟨true, false, [.int .i64 (j : Int)]⟩) (hg2.base Base.one) (by simp [Vh.rowAt, rw_]) rfl (by omega) hB2.app
          simp (disch := omega) only [sN, ↓reduceIte, Nat.reduceEqDiff, Nat.reduceAdd, Nat.reduceMul, Nat.reduceSub, reduceCtorEq, e_none, e_some, e_bindS, h57, h58, h59, ic, hrq2, hgj, Option.bind_some]
          rw [x_bs1 (v := .int .i64 (j : Int)) (by simp only [e_upd, e_putS, e_putN, e_t, e_c, Nat.reduceEqDiff, ↓reduceIte, reduceCtorEq, Nat.reduceAdd]) rfl]
          simp (disch := omega) only [sN, ↓reduceIte, Nat.reduceEqDiff, Nat.reduceAdd, Nat.reduceMul, Nat.reduceSub, reduceCtorEq, e_none, e_some, e_bindS, h57, h58, h59]
          rw [ea _ _ _ (by simp only [e_upd, e_putS, e_putN, e_t, e_c, Nat.reduceEqDiff, ↓reduceIte, reduceCtorEq, Nat.reduceAdd]) (by simp only [e_upd, e_putS, e_putN, e_t, e_c, Nat.reduceEqDiff, ↓reduceIte, reduceCtorEq, Nat.reduceAdd])]
          simp (disch := omega) only [sN, ↓reduceIte, Nat.reduceEqDiff, Nat.reduceAdd, Nat.reduceMul, Nat.reduceSub, reduceCtorEq, e_none, e_some, e_bindS, h57, h58, h59]
          refine loop_keep (m := m - (j + 1)) (by omega) ⟨j + 1, rfl, by omega, eb.1, ?_, ?_, ?_, ?_⟩
          · rw [hst]; simp only [e_upd, e_putS, e_putN, e_t, e_c, Nat.reduceEqDiff, ↓reduceIte, reduceCtorEq, Nat.reduceAdd]; simpa using eg
          · simp only [e_upd, e_putS, e_putN, e_t, e_c, Nat.reduceEqDiff, ↓reduceIte, reduceCtorEq, Nat.reduceAdd, h57]
          · simp only [e_upd, e_putS, e_putN, e_t, e_c, Nat.reduceEqDiff, ↓reduceIte, reduceCtorEq, Nat.reduceAdd, h58]
          · simp only [e_upd, e_putS, e_putN, e_t, e_c, Nat.reduceEqDiff, ↓reduceIte, reduceCtorEq, Nat.reduceAdd]; first | done | rfl
      · obtain rfl : j = m := by omega
        simp (disch := omega) only [sN, ↓reduceIte, Nat.reduceEqDiff, Nat.reduceAdd, Nat.reduceMul, Nat.reduceSub, reduceCtorEq, e_none, e_some, e_bindS, h57, h58, h59]
        refine ret_keep (Nat.le_trans hB.1 hB2.1) ?_
        rw [show rs_knows = [.tmp 4, .tmp 5] from rfl, q_tmp2, q_then]
        refine ⟨s2 11, ?_, hB.trans hB2, ?_⟩
        · rw [hkz]; simp only [e_upd, e_putS, e_putN, e_t, e_c, Nat.reduceEqDiff, ↓reduceIte, reduceCtorEq, Nat.reduceAdd]
        · unfold kwL; rw [if_pos hkz, hl', hl, ← hg]; exact hg2.low hB.1
  · simp (disch := omega) only [sN, ↓reduceIte, Nat.reduceEqDiff, Nat.reduceAdd, Nat.reduceMul, Nat.reduceSub, reduceCtorEq, e_none, e_some, e_bindS, e0, e1]
    refine ret_keep hB1.1 ?_
    rw [show rs_knows = [.tmp 4, .tmp 5] from rfl, q_tmp2, q_then]
    simp only [e_upd, e_putS, e_putN, e_t, e_c, Nat.reduceEqDiff, ↓reduceIte, reduceCtorEq, Nat.reduceAdd]
    exact fin E1 H1 hB1 hz1 (by unfold kwE; rw [← hE1]; simp [fst0, hz1])
end Go.Proofs.Ythbhljolpnbdlaa


/- Contracts of stage 4: what the eavesdropper knows, the reference's. -/
-- NEWSET
namespace Go.Proofs.Ythbhljolpnbdlaa
open Go Go.Vh

set_option maxHeartbeats 4000000 in
theorem rKnows_calls (H0 : AHeap) {κ κ' : SK} {n m r r' : Nat} {L : List Pul} {N : List Not} {row row' : ARow} (hk : okS κ m) (hl : L.length = m) (hm : m ≤ 400) (hr : Vh.rowAt H0 r = some row) (hc : row.cells = pcells L)
    (hk' : okS κ' n) (hl' : N.length = n) (hn : n ≤ 400) (hr' : Vh.rowAt H0 r' = some row') (hc' : row'.cells = ncells N) :
    ACalls Try.prog 32 [mkS κ r 0 m, mkS κ' r' 0 n] H0 (List.range H0.length) fun v H => ∃ w, v = .tuple [w, .int .i64 (kwE L N)] ∧ Base H0 H ∧ Gs H0 H w (kwL L N) := by
  refine ACalls.body Try.func32 ent_rKnows ir_rKnows_ok rs_rKnows_ok Try.ntmps32 (by simp) rfl ?_
  unfold ir_rKnows
  have e0 : s0 [mkS κ r 0 m, mkS κ' r' 0 n] 0 = mkS κ r 0 m := rfl
  have e1 : s0 [mkS κ r 0 m, mkS κ' r' 0 n] 1 = mkS κ' r' 0 n := rfl
  have fin : ∀ (E : Int) (H : AHeap), Base H0 H → E ≠ 0 → kwE L N = E → ∃ w, AV.tuple [.nilslice, .int .i64 E] = .tuple [w, .int .i64 (kwE L N)] ∧ Base H0 H ∧ Gs H0 H w (kwL L N) := fun E H hB hE he => by
    refine ⟨.nilslice, by rw [he], hB, .inl ⟨?_, rfl⟩⟩
    unfold kwL; rw [if_neg (by rw [he]; exact hE)]
  simp (disch := omega) only [sN, ↓reduceIte, Nat.reduceEqDiff, Nat.reduceAdd, Nat.reduceMul, Nat.reduceSub, reduceCtorEq, e_none, e_some, e_bindS, e0, e1, List.map_cons, List.map_nil]
  refine ⟨_, (rpul3_calls H0 hk hl (by unfold maxLen; omega) hr hc).g.mono ?_⟩
  rintro v H1 ⟨rfl, hB1⟩
  obtain ⟨E1, hE1⟩ : ∃ e, e = pE L := ⟨_, rfl⟩
  rw [← hE1]
  by_cases hz1 : E1 = 0
  · rw [hz1] at hE1 ⊢
    have hkw : kwE L N = nE m N := by unfold kwE; rw [← hE1, hl]; simp [fst0]; intro h; exact h.symm
    simp (disch := omega) only [sN, ↓reduceIte, Nat.reduceEqDiff, Nat.reduceAdd, Nat.reduceMul, Nat.reduceSub, reduceCtorEq, e_none, e_some, e_bindS, e0, e1, k_len hk, k_len hk']
    rw [x_makeB (n := m) (by simp only [e_upd, e_putS, e_putN, e_t, e_c, Nat.reduceEqDiff, ↓reduceIte, reduceCtorEq, Nat.reduceAdd]) (by omega) (by omega)]
    simp (disch := omega) only [sN, ↓reduceIte, Nat.reduceEqDiff, Nat.reduceAdd, Nat.reduceMul, Nat.reduceSub, reduceCtorEq, e_none, e_some, e_bindS, e0, e1, k_len hk, k_len hk']
    obtain ⟨q, hq⟩ : ∃ q, q = H1.length := ⟨_, rfl⟩
    have hq0 : H0.length ≤ q := by rw [hq]; exact hB1.1
    refine ⟨fun t s H => ∃ (i : Nat) (f : Nat → Bool), t = n - i ∧ i ≤ n ∧ Base H0 H ∧ (∀ j, j < i → nA m (N.getD j default) = 0) ∧ (∀ j, j < m → f j = kn L N i j) ∧ Vh.rowAt H q = some ⟨true, false, bt m f⟩ ∧ s 0 = mkS κ r 0 m ∧ s 1 = mkS κ' r' 0 n ∧ s 7 = .slice q 0 m m ∧ s 8 = .int .i64 (i : Int), n, ⟨0, fun _ => false, rfl, by omega, hB1.app, fun j h => by omega, fun j h => rfl, by rw [hq]; simp [Vh.rowAt, rw_], ?_, ?_, ?_, ?_⟩, ?_⟩
    · simp only [e_upd, e_putS, e_putN, e_t, e_c, Nat.reduceEqDiff, ↓reduceIte, reduceCtorEq, Nat.reduceAdd, e0]
    · simp only [e_upd, e_putS, e_putN, e_t, e_c, Nat.reduceEqDiff, ↓reduceIte, reduceCtorEq, Nat.reduceAdd, e1]
    · simp only [e_upd, e_putS, e_putN, e_t, e_c, Nat.reduceEqDiff, ↓reduceIte, reduceCtorEq, Nat.reduceAdd, hq]
    · simp only [e_upd, e_putS, e_putN, e_t, e_c, Nat.reduceEqDiff, ↓reduceIte, reduceCtorEq, Nat.reduceAdd]; rfl
    clear hB1
    rintro t s H ⟨i, f, rfl, hi, hB, hS, hf, hrq, h0, h1, h7, h8⟩
    by_cases hlt : i < n
    · have hil : i < N.length := by omega
      have g0 := note_get (L := N) (i := i) (j := 0) hil (by omega)
      have g1 := note_get (L := N) (i := i) (j := 1) hil (by omega)
      have g2 := note_get (L := N) (i := i) (j := 2) hil (by omega)
      obtain ⟨x, hx⟩ : ∃ x, x = N.getD i default := ⟨_, rfl⟩
      rw [← hx, ← hc'] at g0 g1 g2
      have hrH := hB.row hr
      have hrH' := hB.row hr'
      have ia : aindexAddr 4 (mkS κ' r' 0 n) (.int .i64 (i : Int)) = some (.ptr r' (i * 4)) := by
        rw [k_idx4 hk' (Nat.le_refl n) (by omega) (by omega)]; simp
      have done : nA m x = 0 → ∀ j, j < i + 1 → nA m (N.getD j default) = 0 := fun hz3 j hj => by
        rcases Nat.lt_or_ge j i with h' | h'
        · exact hS j h'
        · obtain rfl : j = i := by omega
          rw [← hx]; exact hz3
      have bad : ∀ E : Int, nA m x = E → E ≠ 0 → kwE L N = E := fun E hE hE0 => by
        rw [hkw, nE_hit (i := i) (by omega) hS (by rw [← hx, hE]; exact hE0), ← hx, hE]
      have hks : ∀ j, kn L N (i + 1) j = (kn L N i j || nk L x j) := fun j => by rw [kn_succ, ← hx]
      clear hx
      obtain ⟨sl, how, ba, bit⟩ := x
      have g0' : row'.cells[i * 4]? = some (.int .i64 sl) := g0
      have g1' : row'.cells[i * 4 + 1]? = some (.int .i64 how) := g1
      have g2' : row'.cells[i * 4 + 2]? = some (.int .i64 ba) := g2
      clear g0 g1 g2
      by_cases q0 : how < 1
      · simp (disch := omega) only [sN, ↓reduceIte, Nat.reduceEqDiff, Nat.reduceAdd, Nat.reduceMul, Nat.reduceSub, reduceCtorEq, e_none, e_some, e_bindS, h0, h1, h7, h8, k_len hk', ia, p_fieldAddr, Nat.add_zero, hrH', g0', g1', g2', Option.bind_some, Option.map_some]
        refine ret_keep hB.1 ?_
        rw [show rs_rKnows = [.tmp 4, .tmp 5] from rfl, q_tmp2, q_then]
        simp only [e_upd, e_putS, e_putN, e_t, e_c, Nat.reduceEqDiff, ↓reduceIte, reduceCtorEq, Nat.reduceAdd]
        exact fin 2 H hB (by omega) (bad 2 (by unfold nA; rw [if_neg (by dsimp only; omega)]) (by omega))
      by_cases q1 : how > 3
      · simp (disch := omega) only [sN, ↓reduceIte, Nat.reduceEqDiff, Nat.reduceAdd, Nat.reduceMul, Nat.reduceSub, reduceCtorEq, e_none, e_some, e_bindS, h0, h1, h7, h8, k_len hk', ia, p_fieldAddr, Nat.add_zero, hrH', g0', g1', g2', Option.bind_some, Option.map_some]
        refine ret_keep hB.1 ?_
        rw [show rs_rKnows = [.tmp 4, .tmp 5] from rfl, q_tmp2, q_then]
        simp only [e_upd, e_putS, e_putN, e_t, e_c, Nat.reduceEqDiff, ↓reduceIte, reduceCtorEq, Nat.reduceAdd]
        exact fin 2 H hB (by omega) (bad 2 (by unfold nA; rw [if_neg (by dsimp only; omega)]) (by omega))
      simp (disch := omega) only [sN, ↓reduceIte, Nat.reduceEqDiff, Nat.reduceAdd, Nat.reduceMul, Nat.reduceSub, reduceCtorEq, e_none, e_some, e_bindS, h0, h1, h7, h8, k_len hk', ia, p_fieldAddr, Nat.add_zero, hrH', g0', g1', g2', Option.bind_some, Option.map_some, List.map_cons, List.map_nil]
      refine ⟨_, (truth3_calls H ba).g.mono ?_⟩
      rintro v H2 ⟨rfl, hH2⟩
      rw [hH2]
      by_cases q2 : ba = 0 ∨ ba = 1
      case neg =>
        rw [decide_eq_false q2]
        simp (disch := omega) only [sN, ↓reduceIte, Nat.reduceEqDiff, Nat.reduceAdd, Nat.reduceMul, Nat.reduceSub, reduceCtorEq, e_none, e_some, e_bindS, h0, h1, h7, h8]
        refine ret_keep hB.1 ?_
        rw [show rs_rKnows = [.tmp 4, .tmp 5] from rfl, q_tmp2, q_then]
        simp only [e_upd, e_putS, e_putN, e_t, e_c, Nat.reduceEqDiff, ↓reduceIte, reduceCtorEq, Nat.reduceAdd]
        exact fin 2 H hB (by omega) (bad 2 (by unfold nA; rw [if_neg (by dsimp only; omega)]) (by omega))
      rw [decide_eq_true q2]
      by_cases q3 : sl < 0
      · simp (disch := omega) only [sN, ↓reduceIte, Nat.reduceEqDiff, Nat.reduceAdd, Nat.reduceMul, Nat.reduceSub, reduceCtorEq, e_none, e_some, e_bindS, h0, h1, h7, h8]
        refine ret_keep hB.1 ?_
        rw [show rs_rKnows = [.tmp 4, .tmp 5] from rfl, q_tmp2, q_then]
        simp only [e_upd, e_putS, e_putN, e_t, e_c, Nat.reduceEqDiff, ↓reduceIte, reduceCtorEq, Nat.reduceAdd]
        exact fin 3 H hB (by omega) (bad 3 (by unfold nA; rw [if_pos (by dsimp only; omega), if_neg (by dsimp only; omega)]) (by omega))
      by_cases q4 : sl ≥ m
      · simp (disch := omega) only [sN, ↓reduceIte, Nat.reduceEqDiff, Nat.reduceAdd, Nat.reduceMul, Nat.reduceSub, reduceCtorEq, e_none, e_some, e_bindS, h0, h1, h7, h8, k_len hk]
        refine ret_keep hB.1 ?_
        rw [show rs_rKnows = [.tmp 4, .tmp 5] from rfl, q_tmp2, q_then]
        simp only [e_upd, e_putS, e_putN, e_t, e_c, Nat.reduceEqDiff, ↓reduceIte, reduceCtorEq, Nat.reduceAdd]
        exact fin 3 H hB (by omega) (bad 3 (by unfold nA; rw [if_pos (by dsimp only; omega), if_neg (by dsimp only; omega)]) (by omega))
      have hz3 : nA m ⟨sl, how, ba, bit⟩ = 0 := by unfold nA; rw [if_pos (by dsimp only; omega), if_pos (by dsimp only; omega)]
      have done := done hz3
      clear bad hz3
      have g3 := pulse_get (L := L) (i := sl.toNat) (j := 0) (by omega) (by omega)
      obtain ⟨p, hp⟩ : ∃ p, p = L.getD sl.toNat default := ⟨_, rfl⟩
      rw [← hp] at g3
      rw [← hc] at g3
      have g3' : row.cells[sl.toNat * 5]? = some (.int .i64 p.ba) := g3
      obtain ⟨y, hy⟩ : ∃ y, y = p.ba := ⟨_, rfl⟩
      rw [← hy] at g3'
      have ib : aindexAddr 5 (mkS κ r 0 m) (.int .i64 sl) = some (.ptr r (sl.toNat * 5)) := by
        rw [k_idx5 hk (Nat.le_refl m) (by omega) (by omega)]; simp
      have ic : aindexAddr 1 (.slice q 0 m m) (.int .i64 sl) = some (.ptr q sl.toNat) := by
        rw [a_idx (by omega) (by omega)]; simp
      have keep : ∀ j, j < m → ¬ (how = 2 ∨ ba = y) → f j = kn L N (i + 1) j := fun j hj hno => by
        rw [hks, hf j hj]
        have : nk L ⟨sl, how, ba, bit⟩ j = false := by
          unfold nk
          refine decide_eq_false ?_
          rintro ⟨q1, q2⟩
          dsimp only at q1 q2
          refine hno ?_
          rw [hy, hp, show sl.toNat = j by omega]; exact q2
        rw [this, Bool.or_false]
      have put : ∀ j, j < m → (how = 2 ∨ ba = y) → (if j = sl.toNat then true else f j) = kn L N (i + 1) j := fun j hj hyes => by
        rw [hks, hf j hj]
        by_cases hj2 : j = sl.toNat
        · have : nk L ⟨sl, how, ba, bit⟩ j = true := by
            unfold nk
            refine decide_eq_true ⟨?_, ?_⟩
            · dsimp only; omega
            · dsimp only; rw [hj2, ← hp, ← hy]; exact hyes
          rw [if_pos hj2, this, Bool.or_true]
        · have : nk L ⟨sl, how, ba, bit⟩ j = false := by
            unfold nk
            refine decide_eq_false ?_
            rintro ⟨q1, q2⟩
            dsimp only at q1
            omega
          rw [if_neg hj2, this, Bool.or_false]
      clear hp hy hks g3
      by_cases hw : how = 2
      · simp (disch := omega) only [sN, ↓reduceIte, Nat.reduceEqDiff, Nat.reduceAdd, Nat.reduceMul, Nat.reduceSub, reduceCtorEq, e_none, e_some, e_bindS, h0, h1, h7, h8, k_len hk, ia, p_fieldAddr, Nat.add_zero, hrH', g0', g1', g2', Option.bind_some, Option.map_some, ic]
        rw [x_putB (r := q) (off := sl.toNat) (b := true) (n := m) (f := f) (by simp only [e_upd, e_putS, e_putN, e_t, e_c, Nat.reduceEqDiff, ↓reduceIte, reduceCtorEq, Nat.reduceAdd]) (by simp only [e_upd, e_putS, e_putN, e_t, e_c, Nat.reduceEqDiff, ↓reduceIte, reduceCtorEq, Nat.reduceAdd]) hrq (by omega)]
        simp (disch := omega) only [sN, ↓reduceIte, Nat.reduceEqDiff, Nat.reduceAdd, Nat.reduceMul, Nat.reduceSub, reduceCtorEq, e_none, e_some, e_bindS, h0, h1, h7, h8]
        refine loop_keep (m := n - (i + 1)) (by omega) ⟨i + 1, fun j => if j = sl.toNat then true else f j, rfl, by omega, hB.set hq0, done, fun j hj => put j hj (.inl hw), ?_, ?_, ?_, ?_, ?_⟩
        · rw [row_set0 (rowAt_lt hrq)]; rfl
        · simp only [e_upd, e_putS, e_putN, e_t, e_c, Nat.reduceEqDiff, ↓reduceIte, reduceCtorEq, Nat.reduceAdd, h0]
        · simp only [e_upd, e_putS, e_putN, e_t, e_c, Nat.reduceEqDiff, ↓reduceIte, reduceCtorEq, Nat.reduceAdd, h1]
        · simp only [e_upd, e_putS, e_putN, e_t, e_c, Nat.reduceEqDiff, ↓reduceIte, reduceCtorEq, Nat.reduceAdd, h7]
        · simp only [e_upd, e_putS, e_putN, e_t, e_c, Nat.reduceEqDiff, ↓reduceIte, reduceCtorEq, Nat.reduceAdd]; first | done | rfl
      · by_cases hby : ba = y
        · simp (disch := omega) only [sN, ↓reduceIte, Nat.reduceEqDiff, Nat.reduceAdd, Nat.reduceMul, Nat.reduceSub, reduceCtorEq, e_none, e_some, e_bindS, h0, h1, h7, h8, k_len hk, ia, p_fieldAddr, Nat.add_zero, hrH', g0', g1', g2', Option.bind_some, Option.map_some, ib, ic, hrH, g3']
          rw [x_putB (r := q) (off := sl.toNat) (b := true) (n := m) (f := f) (by simp only [e_upd, e_putS, e_putN, e_t, e_c, Nat.reduceEqDiff, ↓reduceIte, reduceCtorEq, Nat.reduceAdd]) (by simp only [e_upd, e_putS, e_putN, e_t, e_c, Nat.reduceEqDiff, ↓reduceIte, reduceCtorEq, Nat.reduceAdd]) hrq (by omega)]
          simp (disch := omega) only [sN, ↓reduceIte, Nat.reduceEqDiff, Nat.reduceAdd, Nat.reduceMul, Nat.reduceSub, reduceCtorEq, e_none, e_some, e_bindS, h0, h1, h7, h8]
          refine loop_keep (m := n - (i + 1)) (by omega) ⟨i + 1, fun j => if j = sl.toNat then true else f j, rfl, by omega, hB.set hq0, done, fun j hj => put j hj (.inr hby), ?_, ?_, ?_, ?_, ?_⟩
          · rw [row_set0 (rowAt_lt hrq)]; rfl
          · simp only [e_upd, e_putS, e_putN, e_t, e_c, Nat.reduceEqDiff, ↓reduceIte, reduceCtorEq, Nat.reduceAdd, h0]
          · simp only [e_upd, e_putS, e_putN, e_t, e_c, Nat.reduceEqDiff, ↓reduceIte, reduceCtorEq, Nat.reduceAdd, h1]
          · simp only [e_upd, e_putS, e_putN, e_t, e_c, Nat.reduceEqDiff, ↓reduceIte, reduceCtorEq, Nat.reduceAdd, h7]
          · simp only [e_upd, e_putS, e_putN, e_t, e_c, Nat.reduceEqDiff, ↓reduceIte, reduceCtorEq, Nat.reduceAdd]; first | done | rfl
        · simp (disch := omega) only [sN, ↓reduceIte, Nat.reduceEqDiff, Nat.reduceAdd, Nat.reduceMul, Nat.reduceSub, reduceCtorEq, e_none, e_some, e_bindS, h0, h1, h7, h8, k_len hk, ia, p_fieldAddr, Nat.add_zero, hrH', g0', g1', g2', Option.bind_some, Option.map_some, ib, ic, hrH, g3']
          refine loop_keep (m := n - (i + 1)) (by omega) ⟨i + 1, f, rfl, by omega, hB, done, fun j hj => keep j hj (by omega), hrq, ?_, ?_, ?_, ?_⟩
          · simp only [e_upd, e_putS, e_putN, e_t, e_c, Nat.reduceEqDiff, ↓reduceIte, reduceCtorEq, Nat.reduceAdd, h0]
          · simp only [e_upd, e_putS, e_putN, e_t, e_c, Nat.reduceEqDiff, ↓reduceIte, reduceCtorEq, Nat.reduceAdd, h1]
          · simp only [e_upd, e_putS, e_putN, e_t, e_c, Nat.reduceEqDiff, ↓reduceIte, reduceCtorEq, Nat.reduceAdd, h7]
          · simp only [e_upd, e_putS, e_putN, e_t, e_c, Nat.reduceEqDiff, ↓reduceIte, reduceCtorEq, Nat.reduceAdd]; first | done | rfl
    · obtain rfl : i = n := by omega
      have hkz : kwE L N = 0 := by rw [hkw]; exact nE_zero fun j hj => hS j (by omega)
      obtain ⟨g, hg⟩ : ∃ g, g = kn L N i := ⟨_, rfl⟩
      rw [bt_congr (g := g) (fun j hj => by rw [hf j hj, hg])] at hrq
      simp (disch := omega) only [sN, ↓reduceIte, Nat.reduceEqDiff, Nat.reduceAdd, Nat.reduceMul, Nat.reduceSub, reduceCtorEq, e_none, e_some, e_bindS, h0, h1, h7, h8, k_len hk']
      refine ⟨fun t s2 H2 => ∃ j : Nat, t = m - j ∧ j ≤ m ∧ Base H H2 ∧ Gs H H2 (s2 10) (trL g j) ∧ s2 0 = mkS κ r 0 m ∧ s2 7 = .slice q 0 m m ∧ s2 11 = .int .i64 (j : Int), m, ⟨0, rfl, by omega, Base.refl, .inl ⟨rfl, ?_⟩, ?_, ?_, ?_⟩, ?_⟩
      · simp only [e_upd, e_putS, e_putN, e_t, e_c, Nat.reduceEqDiff, ↓reduceIte, reduceCtorEq, Nat.reduceAdd]
      · simp only [e_upd, e_putS, e_putN, e_t, e_c, Nat.reduceEqDiff, ↓reduceIte, reduceCtorEq, Nat.reduceAdd, h0]
      · simp only [e_upd, e_putS, e_putN, e_t, e_c, Nat.reduceEqDiff, ↓reduceIte, reduceCtorEq, Nat.reduceAdd, h7]
      · simp only [e_upd, e_putS, e_putN, e_t, e_c, Nat.reduceEqDiff, ↓reduceIte, reduceCtorEq, Nat.reduceAdd]; rfl
      rintro t s2 H2 ⟨j, rfl, hj, hB2, hg2, h57, h58, h59⟩
      by_cases hlt2 : j < m
      · have hrq2 := hB2.row hrq
        have hgj : (bt m g)[j]? = some (.bool (g j)) := bt_get hlt2
        have ic : aindexAddr 1 (.slice q 0 m m) (.int .i64 (j : Int)) = some (.ptr q j) := by
          rw [a_idx (by omega) (by omega)]; simp
        have hst : trL g (j + 1) = trL g j ++ (if g j then [(j : Int)] else []) := rfl
        have hln := trL_len (f := g) j
        cases hgb : g j
        · rw [hgb] at hgj hst
          simp (disch := omega) only [sN, ↓reduceIte, Nat.reduceEqDiff, Nat.reduceAdd, Nat.reduceMul, Nat.reduceSub, reduceCtorEq, e_none, e_some, e_bindS, h57, h58, h59, k_len hk, ic, hrq2, hgj, Option.bind_some]
          refine loop_keep (m := m - (j + 1)) (by omega) ⟨j + 1, rfl, by omega, hB2, ?_, ?_, ?_, ?_⟩
          · rw [hst]; simp only [e_upd, e_putS, e_putN, e_t, e_c, Nat.reduceEqDiff, ↓reduceIte, reduceCtorEq, Nat.reduceAdd]; simpa using hg2
          · simp only [e_upd, e_putS, e_putN, e_t, e_c, Nat.reduceEqDiff, ↓reduceIte, reduceCtorEq, Nat.reduceAdd, h57]
          · simp only [e_upd, e_putS, e_putN, e_t, e_c, Nat.reduceEqDiff, ↓reduceIte, reduceCtorEq, Nat.reduceAdd, h58]
          · simp only [e_upd, e_putS, e_putN, e_t, e_c, Nat.reduceEqDiff, ↓reduceIte, reduceCtorEq, Nat.reduceAdd]; first | done | rfl
        · rw [hgb] at hgj hst
          obtain ⟨v', H'', ea, eg, eb⟩ := x_appGs (H0 := H) (H := H2 ++ [rw_ [.int .i64 (j : Int)]]) (a := (j : Int)) (r := H2.length) (c := 1) (row := ⟨true, false, [.int .i64 (j : Int)]⟩) (hg2.base Base.one) (by simp [Vh.rowAt, rw_]) rfl (by omega) hB2.app
          simp (disch := omega) only [sN, ↓reduceIte, Nat.reduceEqDiff, Nat.reduceAdd, Nat.reduceMul, Nat.reduceSub, reduceCtorEq, e_none, e_some, e_bindS, h57, h58, h59, k_len hk, ic, hrq2, hgj, Option.bind_some]
          rw [x_bs1 (v := .int .i64 (j : Int)) (by simp only [e_upd, e_putS, e_putN, e_t, e_c, Nat.reduceEqDiff, ↓reduceIte, reduceCtorEq, Nat.reduceAdd]) rfl]
          simp (disch := omega) only [sN, ↓reduceIte, Nat.reduceEqDiff, Nat.reduceAdd, Nat.reduceMul, Nat.reduceSub, reduceCtorEq, e_none, e_some, e_bindS, h57, h58, h59]
          rw [ea _ _ _ (by simp only [e_upd, e_putS, e_putN, e_t, e_c, Nat.reduceEqDiff, ↓reduceIte, reduceCtorEq, Nat.reduceAdd]) (by simp only [e_upd, e_putS, e_putN, e_t, e_c, Nat.reduceEqDiff, ↓reduceIte, reduceCtorEq, Nat.reduceAdd])]
          simp (disch := omega) only [sN, ↓reduceIte, Nat.reduceEqDiff, Nat.reduceAdd, Nat.reduceMul, Nat.reduceSub, reduceCtorEq, e_none, e_some, e_bindS, h57, h58, h59]
          refine loop_keep (m := m - (j + 1)) (by omega) ⟨j + 1, rfl, by omega, eb.1, ?_, ?_, ?_, ?_⟩
          · rw [hst]; simp only [e_upd, e_putS, e_putN, e_t, e_c, Nat.reduceEqDiff, ↓reduceIte, reduceCtorEq, Nat.reduceAdd]; simpa using eg
          · simp only [e_upd, e_putS, e_putN, e_t, e_c, Nat.reduceEqDiff, ↓reduceIte, reduceCtorEq, Nat.reduceAdd, h57]
          · simp only [e_upd, e_putS, e_putN, e_t, e_c, Nat.reduceEqDiff, ↓reduceIte, reduceCtorEq, Nat.reduceAdd, h58]
          · simp only [e_upd, e_putS, e_putN, e_t, e_c, Nat.reduceEqDiff, ↓reduceIte, reduceCtorEq, Nat.reduceAdd]; first | done | rfl
      · obtain rfl : j = m := by omega
        simp (disch := omega) only [sN, ↓reduceIte, Nat.reduceEqDiff, Nat.reduceAdd, Nat.reduceMul, Nat.reduceSub, reduceCtorEq, e_none, e_some, e_bindS, h57, h58, h59, k_len hk]
        refine ret_keep (Nat.le_trans hB.1 hB2.1) ?_
        rw [show rs_rKnows = [.tmp 4, .tmp 5] from rfl, q_tmp2, q_then]
        refine ⟨s2 10, ?_, hB.trans hB2, ?_⟩
        · rw [hkz]; simp only [e_upd, e_putS, e_putN, e_t, e_c, Nat.reduceEqDiff, ↓reduceIte, reduceCtorEq, Nat.reduceAdd]
        · unfold kwL; rw [if_pos hkz, hl', hl, ← hg]; exact hg2.low hB.1
  · simp (disch := omega) only [sN, ↓reduceIte, Nat.reduceEqDiff, Nat.reduceAdd, Nat.reduceMul, Nat.reduceSub, reduceCtorEq, e_none, e_some, e_bindS, e0, e1]
    refine ret_keep hB1.1 ?_
    rw [show rs_rKnows = [.tmp 4, .tmp 5] from rfl, q_tmp2, q_then]
    simp only [e_upd, e_putS, e_putN, e_t, e_c, Nat.reduceEqDiff, ↓reduceIte, reduceCtorEq, Nat.reduceAdd]
    exact fin E1 H1 hB1 hz1 (by unfold kwE; rw [← hE1]; simp [fst0, hz1])
end Go.Proofs.Ythbhljolpnbdlaa

