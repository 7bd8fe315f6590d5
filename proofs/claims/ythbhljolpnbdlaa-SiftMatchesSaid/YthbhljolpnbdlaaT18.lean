/- Contracts of stage 4: the reference's Match; the law SiftMatches. -/
import Derived.Test.YthbhljolpnbdlaaVX
import Derived.Test.YthbhljolpnbdlaaT17
set_option linter.unusedSimpArgs false
set_option linter.unusedVariables false
-- NEWSET
namespace Go.Proofs.Ythbhljolpnbdlaa
open Go Go.Vh

set_option maxHeartbeats 4000000 in
theorem rMatch_calls (H0 : AHeap) {κ κ' : SK} {n m r r' : Nat} {L : List Pul} {l : List Int} {row row' : ARow} {a : Int} (hk : okS κ m) (hl : L.length = m) (hm : m ≤ maxLen) (hr : Vh.rowAt H0 r = some row) (hc : row.cells = pcells L)
    (hk' : okS κ' n) (hl' : l.length = n * 2) (hn : n ≤ 400) (hr' : Vh.rowAt H0 r' = some row') (hc' : row'.cells = ints .i64 l) :
    ACalls Try.prog 22 [mkS κ r 0 m, mkS κ' r' 0 n, .int .i64 a] H0 (List.range H0.length) (AnsM H0 L l n a) := by
  refine ACalls.body Try.func22 ent_rMatch ir_rMatch_ok rs_rMatch_ok Try.ntmps22 (by simp) rfl ?_
  unfold ir_rMatch
  have e0 : s0 [mkS κ r 0 m, mkS κ' r' 0 n, .int .i64 a] 0 = mkS κ r 0 m := rfl
  have e1 : s0 [mkS κ r 0 m, mkS κ' r' 0 n, .int .i64 a] 1 = mkS κ' r' 0 n := rfl
  have e2 : s0 [mkS κ r 0 m, mkS κ' r' 0 n, .int .i64 a] 2 = .int .i64 a := rfl
  have hz5 : [AV.int .i64 0, AV.bool false, AV.int .i64 0, AV.int .i64 0, AV.bool false].all AV.cell = true := rfl
  have hm' : (m : Int) ≤ 9223372036854775807 := by unfold maxLen at hm; omega
  have fin : ∀ E : Int, E ≠ 0 → mE L l n a = E → AnsM H0 L l n a (.tuple [.nilslice, .int .i64 E]) H0 := fun E hE he => by
    refine ⟨.nilslice, by rw [he], Base.refl, .inl ⟨?_, rfl⟩⟩
    unfold mL; rw [if_neg (by rw [he]; exact hE)]
  simp (disch := omega) only [sN, ↓reduceIte, Nat.reduceEqDiff, Nat.reduceAdd, Nat.reduceMul, Nat.reduceSub, reduceCtorEq, e_none, e_some, e_bindS, e0, e1, e2, List.map_cons, List.map_nil]
  refine ⟨_, (rPulses_calls H0 hk hl hm hr hc).g.mono ?_⟩
  rintro v H1 ⟨rfl, hH⟩
  rw [hH]
  obtain ⟨E1, hE1⟩ : ∃ e, e = pE L := ⟨_, rfl⟩
  rw [← hE1]
  by_cases hz1 : E1 = 0
  · rw [hz1] at hE1 ⊢
    have hP : m ≤ 4096 := by
      unfold pE at hE1
      split at hE1
      · omega
      · omega
    simp (disch := omega) only [sN, ↓reduceIte, Nat.reduceEqDiff, Nat.reduceAdd, Nat.reduceMul, Nat.reduceSub, reduceCtorEq, e_none, e_some, e_bindS, e0, e1, e2, List.map_cons, List.map_nil]
    refine ⟨_, (rWithin_calls H0 a 4096).g.mono ?_⟩
    rintro v H1 ⟨rfl, hH⟩
    rw [hH]
    by_cases ha : 0 ≤ a ∧ a ≤ 4096
    · rw [decide_eq_true ha]
      simp (disch := omega) only [sN, ↓reduceIte, Nat.reduceEqDiff, Nat.reduceAdd, Nat.reduceMul, Nat.reduceSub, reduceCtorEq, e_none, e_some, e_bindS, e0, e1, e2, k_len hk, List.map_cons, List.map_nil]
      refine ⟨_, (rFault_calls H0 (b := (m : Int)) hk' hl' (by unfold maxLen; omega) hr' hc' (by omega)).g.mono ?_⟩
      rintro v H1 ⟨rfl, hH⟩
      rw [hH]
      have hme : mE L l n a = fE l a m n := by
        unfold mE; rw [← hE1, if_pos ha, hl]; simp [fst0]
        intro h; exact h.symm
      obtain ⟨E, hEE⟩ : ∃ e, e = fE l a m n := ⟨_, rfl⟩
      rw [← hEE] at hme ⊢
      by_cases hz2 : E = 0
      · have hfz : fE l a m n = 0 := by rw [← hEE]; exact hz2
        rw [hz2] at hme
        subst hz2
        simp (disch := omega) only [sN, ↓reduceIte, Nat.reduceEqDiff, Nat.reduceAdd, Nat.reduceMul, Nat.reduceSub, reduceCtorEq, e_none, e_some, e_bindS, e0, e1, e2]
        refine ⟨fun t s H => ∃ i : Nat, t = n - i ∧ i ≤ n ∧ Base H0 H ∧ Gs H0 H (s 8) (mtc L l i) ∧ s 0 = mkS κ r 0 m ∧ s 1 = mkS κ' r' 0 n ∧ s 9 = .int .i64 (i : Int), n, ⟨0, rfl, by omega, Base.refl, .inl ⟨rfl, ?_⟩, ?_, ?_, ?_⟩, ?_⟩
        · simp only [e_upd, e_putS, e_putN, e_t, e_c, Nat.reduceEqDiff, ↓reduceIte, reduceCtorEq, Nat.reduceAdd]
        · simp only [e_upd, e_putS, e_putN, e_t, e_c, Nat.reduceEqDiff, ↓reduceIte, reduceCtorEq, Nat.reduceAdd, e0]
        · simp only [e_upd, e_putS, e_putN, e_t, e_c, Nat.reduceEqDiff, ↓reduceIte, reduceCtorEq, Nat.reduceAdd, e1]
        · simp only [e_upd, e_putS, e_putN, e_t, e_c, Nat.reduceEqDiff, ↓reduceIte, reduceCtorEq, Nat.reduceAdd]; rfl
        rintro t s H ⟨i, rfl, hi, hB, hg, h0, h1, h9⟩
        have next : ∀ (s' : St) (H' : AHeap), Base H0 H' → Gs H0 H' (s' 8) (mtc L l (i + 1)) → i < n → s' 0 = mkS κ r 0 m → s' 1 = mkS κ' r' 0 n → s' 9 = .int .i64 ((i : Int) + 1) →
            loopPost H0.length (fun t s H => ∃ i : Nat, t = n - i ∧ i ≤ n ∧ Base H0 H ∧ Gs H0 H (s 8) (mtc L l i) ∧ s 0 = mkS κ r 0 m ∧ s 1 = mkS κ' r' 0 n ∧ s 9 = .int .i64 (i : Int)) (n - i) s' H' := fun s' H' u1 u2 u3 u4 u5 u6 =>
          loop_keep (m := n - (i + 1)) (by omega) ⟨i + 1, rfl, by omega, u1, u2, u4, u5, by rw [u6]; rfl⟩
        by_cases hlt : i < n
        · have hcb := pair_b hl' hlt
          have hck := pair_k hl' hlt
          rw [← hc'] at hcb hck
          have hrH := hB.row hr
          have hrH' := hB.row hr'
          have hin := fE_ok hfz hlt
          obtain ⟨x, hx⟩ : ∃ x, x = cb l i := ⟨_, rfl⟩
          obtain ⟨y, hy⟩ : ∃ y, y = ck l i := ⟨_, rfl⟩
          have hst : mtc L l (i + 1) = mtc L l i ++ (if (L.getD x.toNat default).seen = true ∧ (L.getD x.toNat default).ba = y then [x] else []) := by rw [hx, hy]; rfl
          rw [← hx] at hin hcb
          rw [← hy] at hck
          obtain ⟨p, hp⟩ : ∃ p, p = L.getD x.toNat default := ⟨_, rfl⟩
          obtain ⟨d1, d2⟩ := p5_load hc (show x.toNat < L.length by omega)
          rw [← hp] at d1 hst
          have ia : aindexAddr 2 (mkS κ' r' 0 n) (.int .i64 (i : Int)) = some (.ptr r' (i * 2)) := by
            rw [k_idx2 hk' (Nat.le_refl n) (by omega) (by omega)]; simp
          have ib : aindexAddr 5 (mkS κ r 0 m) (.int .i64 x) = some (.ptr r (x.toNat * 5)) := by
            rw [k_idx5 hk (Nat.le_refl m) (by omega) (by omega)]; simp
          simp (disch := omega) only [sN, ↓reduceIte, Nat.reduceEqDiff, Nat.reduceAdd, Nat.reduceMul, Nat.reduceSub, reduceCtorEq, e_none, e_some, e_bindS, h0, h1, h9, k_len hk', ia, ib, p_fieldAddr, Nat.add_zero, hrH', hcb, hck, Option.bind_some, Option.map_some]
          rw [x_loadNO (n := 5) (r := r) (off := x.toNat * 5) (l := pcell p) (by simp only [e_upd, e_putS, e_putN, e_t, e_c, Nat.reduceEqDiff, ↓reduceIte, reduceCtorEq, Nat.reduceAdd]) hrH d1 d2]
          simp (disch := omega) only [sN, ↓reduceIte, Nat.reduceEqDiff, Nat.reduceAdd, Nat.reduceMul, Nat.reduceSub, reduceCtorEq, e_none, e_some, e_bindS, h0, h1, h9]
          rw [x_allocA hz5]
          simp (disch := omega) only [sN, ↓reduceIte, Nat.reduceEqDiff, Nat.reduceAdd, Nat.reduceMul, Nat.reduceSub, reduceCtorEq, e_none, e_some, e_bindS, h0, h1, h9]
          rw [x_storeNA (n := 5) (r := H.length) (l := [.int .i64 0, .bool false, .int .i64 0, .int .i64 0, .bool false]) (l' := pcell p) (by simp only [e_upd, e_putS, e_putN, e_t, e_c, Nat.reduceEqDiff, ↓reduceIte, reduceCtorEq, Nat.reduceAdd]) (by simp only [e_upd, e_putS, e_putN, e_t, e_c, Nat.reduceEqDiff, ↓reduceIte, reduceCtorEq, Nat.reduceAdd]) pcell_cell (by simp [Vh.rowAt, rw_]) rfl rfl]
          rw [set_last]
          obtain ⟨H2, hH2⟩ : ∃ h, h = H ++ [rw_ (pcell p)] := ⟨_, rfl⟩
          have hB12 : Base H H2 := by rw [hH2]; exact Base.one
          have hb2 : Vh.rowAt H2 H.length = some ⟨true, false, pcell p⟩ := by rw [hH2]; simp [Vh.rowAt, rw_]
          have hB2 := hB.trans hB12
          have hg2 := hg.base hB12
          have hr2' := hB12.row hrH'
          rw [← hH2]
          obtain ⟨ba, bit, cl, ph, sn⟩ := p
          have hb3 : Vh.rowAt H2 H.length = some ⟨true, false, [.int .i64 ba, .bool bit, .int .i64 cl, .int .i64 ph, .bool sn]⟩ := hb2
          have no : ¬ (sn = true ∧ ba = y) → mtc L l (i + 1) = mtc L l i := fun h => by rw [hst, if_neg h, List.append_nil]
          cases sn
          · simp (disch := omega) only [sN, ↓reduceIte, Nat.reduceEqDiff, Nat.reduceAdd, Nat.reduceMul, Nat.reduceSub, reduceCtorEq, e_none, e_some, e_bindS, h0, h1, h9, p_fieldAddr, Nat.zero_add, Nat.add_zero, hb3, hr2', hcb, hck, Option.bind_some, Option.map_some, List.getElem?_cons_zero, List.getElem?_cons_succ]
            refine next _ _ hB2 ?_ hlt ?_ ?_ ?_
            · rw [no (by simp)]; simp only [e_upd, e_putS, e_putN, e_t, e_c, Nat.reduceEqDiff, ↓reduceIte, reduceCtorEq, Nat.reduceAdd]; exact hg2
            · simp only [e_upd, e_putS, e_putN, e_t, e_c, Nat.reduceEqDiff, ↓reduceIte, reduceCtorEq, Nat.reduceAdd, h0]
            · simp only [e_upd, e_putS, e_putN, e_t, e_c, Nat.reduceEqDiff, ↓reduceIte, reduceCtorEq, Nat.reduceAdd, h1]
            · simp only [e_upd, e_putS, e_putN, e_t, e_c, Nat.reduceEqDiff, ↓reduceIte, reduceCtorEq, Nat.reduceAdd]
          · by_cases hby : ba = y
            · obtain ⟨v', H'', ea, eg, eb, _⟩ := x_appGs (H0 := H0) (H := H2 ++ [rw_ [.int .i64 x]]) (a := x) (r := H2.length) (c := 1) (row := ⟨true, false, [.int .i64 x]⟩) (hg2.base Base.one) (by simp [Vh.rowAt, rw_]) rfl (by have := mtc_len (L := L) (l := l) i; omega) hB2.app
              simp (disch := omega) only [sN, ↓reduceIte, Nat.reduceEqDiff, Nat.reduceAdd, Nat.reduceMul, Nat.reduceSub, reduceCtorEq, e_none, e_some, e_bindS, h0, h1, h9, ia, p_fieldAddr, Nat.zero_add, Nat.add_zero, hb3, hr2', hcb, hck, Option.bind_some, Option.map_some, List.getElem?_cons_zero, List.getElem?_cons_succ]
              rw [x_bs1 (v := .int .i64 x) (by simp only [e_upd, e_putS, e_putN, e_t, e_c, Nat.reduceEqDiff, ↓reduceIte, reduceCtorEq, Nat.reduceAdd]) rfl]
              simp (disch := omega) only [sN, ↓reduceIte, Nat.reduceEqDiff, Nat.reduceAdd, Nat.reduceMul, Nat.reduceSub, reduceCtorEq, e_none, e_some, e_bindS, h0, h1, h9]
              rw [ea _ _ _ (by simp only [e_upd, e_putS, e_putN, e_t, e_c, Nat.reduceEqDiff, ↓reduceIte, reduceCtorEq, Nat.reduceAdd]) (by simp only [e_upd, e_putS, e_putN, e_t, e_c, Nat.reduceEqDiff, ↓reduceIte, reduceCtorEq, Nat.reduceAdd])]
              simp (disch := omega) only [sN, ↓reduceIte, Nat.reduceEqDiff, Nat.reduceAdd, Nat.reduceMul, Nat.reduceSub, reduceCtorEq, e_none, e_some, e_bindS, h0, h1, h9]
              refine next _ _ eb ?_ hlt ?_ ?_ ?_
              · rw [hst, if_pos ⟨rfl, hby⟩]; simp only [e_upd, e_putS, e_putN, e_t, e_c, Nat.reduceEqDiff, ↓reduceIte, reduceCtorEq, Nat.reduceAdd]; exact eg
              · simp only [e_upd, e_putS, e_putN, e_t, e_c, Nat.reduceEqDiff, ↓reduceIte, reduceCtorEq, Nat.reduceAdd, h0]
              · simp only [e_upd, e_putS, e_putN, e_t, e_c, Nat.reduceEqDiff, ↓reduceIte, reduceCtorEq, Nat.reduceAdd, h1]
              · simp only [e_upd, e_putS, e_putN, e_t, e_c, Nat.reduceEqDiff, ↓reduceIte, reduceCtorEq, Nat.reduceAdd]
            · simp (disch := omega) only [sN, ↓reduceIte, Nat.reduceEqDiff, Nat.reduceAdd, Nat.reduceMul, Nat.reduceSub, reduceCtorEq, e_none, e_some, e_bindS, h0, h1, h9, ia, p_fieldAddr, Nat.zero_add, Nat.add_zero, hb3, hr2', hcb, hck, Option.bind_some, Option.map_some, List.getElem?_cons_zero, List.getElem?_cons_succ]
              refine next _ _ hB2 ?_ hlt ?_ ?_ ?_
              · rw [no (by simp [hby])]; simp only [e_upd, e_putS, e_putN, e_t, e_c, Nat.reduceEqDiff, ↓reduceIte, reduceCtorEq, Nat.reduceAdd]; exact hg2
              · simp only [e_upd, e_putS, e_putN, e_t, e_c, Nat.reduceEqDiff, ↓reduceIte, reduceCtorEq, Nat.reduceAdd, h0]
              · simp only [e_upd, e_putS, e_putN, e_t, e_c, Nat.reduceEqDiff, ↓reduceIte, reduceCtorEq, Nat.reduceAdd, h1]
              · simp only [e_upd, e_putS, e_putN, e_t, e_c, Nat.reduceEqDiff, ↓reduceIte, reduceCtorEq, Nat.reduceAdd]
        · obtain rfl : i = n := by omega
          simp (disch := omega) only [sN, ↓reduceIte, Nat.reduceEqDiff, Nat.reduceAdd, Nat.reduceMul, Nat.reduceSub, reduceCtorEq, e_none, e_some, e_bindS, h0, h1, h9, k_len hk']
          refine ret_keep hB.1 ?_
          rw [show rs_rMatch = [.tmp 6, .tmp 7] from rfl, q_tmp2, q_then]
          refine ⟨s 8, ?_, hB, ?_⟩
          · rw [hme]; simp only [e_upd, e_putS, e_putN, e_t, e_c, Nat.reduceEqDiff, ↓reduceIte, reduceCtorEq, Nat.reduceAdd]
          · unfold mL; rw [if_pos hme]; exact hg
      · simp (disch := omega) only [sN, ↓reduceIte, Nat.reduceEqDiff, Nat.reduceAdd, Nat.reduceMul, Nat.reduceSub, reduceCtorEq, e_none, e_some, e_bindS, e0, e1, e2, k_len hk, List.map_cons, List.map_nil]
        refine ⟨_, (rFault_calls H0 (b := (m : Int)) hk' hl' (by unfold maxLen; omega) hr' hc' (by omega)).g.mono ?_⟩
        rintro v H1 ⟨rfl, hH⟩
        rw [hH, ← hEE]
        simp (disch := omega) only [sN, ↓reduceIte, Nat.reduceEqDiff, Nat.reduceAdd, Nat.reduceMul, Nat.reduceSub, reduceCtorEq, e_none, e_some, e_bindS, e0, e1, e2]
        refine ret_keep (by simp) ?_
        rw [show rs_rMatch = [.tmp 6, .tmp 7] from rfl, q_tmp2, q_then]
        simp only [e_upd, e_putS, e_putN, e_t, e_c, Nat.reduceEqDiff, ↓reduceIte, reduceCtorEq, Nat.reduceAdd]
        exact fin E hz2 hme
    · rw [decide_eq_false ha]
      simp (disch := omega) only [sN, ↓reduceIte, Nat.reduceEqDiff, Nat.reduceAdd, Nat.reduceMul, Nat.reduceSub, reduceCtorEq, e_none, e_some, e_bindS, e0, e1, e2]
      refine ret_keep (by simp) ?_
      rw [show rs_rMatch = [.tmp 6, .tmp 7] from rfl, q_tmp2, q_then]
      simp only [e_upd, e_putS, e_putN, e_t, e_c, Nat.reduceEqDiff, ↓reduceIte, reduceCtorEq, Nat.reduceAdd]
      exact fin 3 (by decide) (by unfold mE; rw [← hE1, if_neg ha]; simp [fst0])
  · simp (disch := omega) only [sN, ↓reduceIte, Nat.reduceEqDiff, Nat.reduceAdd, Nat.reduceMul, Nat.reduceSub, reduceCtorEq, e_none, e_some, e_bindS, e0, e1, e2, List.map_cons, List.map_nil]
    refine ⟨_, (rPulses_calls H0 hk hl hm hr hc).g.mono ?_⟩
    rintro v H1 ⟨rfl, hH⟩
    rw [hH, ← hE1]
    simp (disch := omega) only [sN, ↓reduceIte, Nat.reduceEqDiff, Nat.reduceAdd, Nat.reduceMul, Nat.reduceSub, reduceCtorEq, e_none, e_some, e_bindS, e0, e1, e2]
    refine ret_keep (by simp) ?_
    rw [show rs_rMatch = [.tmp 6, .tmp 7] from rfl, q_tmp2, q_then]
    simp only [e_upd, e_putS, e_putN, e_t, e_c, Nat.reduceEqDiff, ↓reduceIte, reduceCtorEq, Nat.reduceAdd]
    exact fin E1 hz1 (by unfold mE; rw [← hE1]; simp [fst0, hz1])

section
variable {K : St → AHeap → Prop} {d : Option Nat} {s : St} {H : AHeap}
theorem call_true' {f : FuncId} {W : List Nat} (h : ACalls Try.prog f [] [] W fun v _ => v = .bool true) (hK : ∀ H', K (putI d s (.bool true)) (H ++ H')) : thenC Try.prog K d s H [] (.func f []) := by
  refine call_do h [] rfl rfl rfl rfl trivial ?_
  rintro v0 H0' rfl
  rw [n_bool, m_merge, m_nil]
  exact hK _
end

set_option maxHeartbeats 2000000 in
theorem lawMat_calls {Ww : List Nat} (hw : ACalls Try.prog 11 [] [] Ww fun v _ => v = .bool true) (κ κ' : SK) (m n : Nat) (L : List Pul) (l : List Int) (a : Int) (hk : okS κ m) (hl : L.length = m) (hm : m ≤ maxLen) (hk' : okS κ' n) (hl' : l.length = n * 2) (hn : n ≤ maxLen) :
    ACalls Try.prog 5 [mkS κ 0 0 m, mkS κ' 1 0 n, .int .i64 a] [ro (pcells L), ro (ints .i64 l)] (List.range 2) fun v _ => v = .bool true := by
  refine ACalls.body Try.func5 ent_lawMat ir_lawMat_ok rs_lawMat_ok Try.ntmps5 (by simp) rfl ?_
  unfold ir_lawMat
  have e0 : s0 [mkS κ 0 0 m, mkS κ' 1 0 n, .int .i64 a] 0 = mkS κ 0 0 m := rfl
  have e1 : s0 [mkS κ 0 0 m, mkS κ' 1 0 n, .int .i64 a] 1 = mkS κ' 1 0 n := rfl
  have e2 : s0 [mkS κ 0 0 m, mkS κ' 1 0 n, .int .i64 a] 2 = .int .i64 a := rfl
  have hm' : (m : Int) ≤ 9223372036854775807 := by unfold maxLen at hm; omega
  have hn' : (n : Int) ≤ 9223372036854775807 := by unfold maxLen at hn; omega
  obtain ⟨H1, hH1⟩ : ∃ h, h = [ro (pcells L), ro (ints .i64 l)] := ⟨_, rfl⟩
  have r0 : Vh.rowAt H1 0 = some ⟨false, false, pcells L⟩ := by rw [hH1]; simp [Vh.rowAt, ro]
  have r1 : Vh.rowAt H1 1 = some ⟨false, false, ints .i64 l⟩ := by rw [hH1]; simp [Vh.rowAt, ro]
  have hlen : 2 ≤ H1.length := by rw [hH1]; simp
  rw [← hH1]
  by_cases hb : m ≤ 400
  · by_cases hb' : n ≤ 400
    · simp (disch := omega) only [sN, ↓reduceIte, Nat.reduceEqDiff, Nat.reduceAdd, Nat.reduceMul, Nat.reduceSub, reduceCtorEq, e_none, e_some, e_bindS, e0, e1, e2, k_len hk, k_len hk', List.map_cons, List.map_nil]
      refine ⟨_, (match_calls H1 hk hl hm r0 rfl hk' hl' hb' r1 rfl).g.mono ?_⟩
      rintro v H2 ⟨w, rfl, hB2, hg2⟩
      simp (disch := omega) only [sN, ↓reduceIte, Nat.reduceEqDiff, Nat.reduceAdd, Nat.reduceMul, Nat.reduceSub, reduceCtorEq, e_none, e_some, e_bindS, e0, e1, e2, List.getElem?_cons_zero, List.getElem?_cons_succ, List.map_cons, List.map_nil]
      refine ⟨_, (rMatch_calls H2 hk hl hm (hB2.row r0) rfl hk' hl' hb' (hB2.row r1) rfl).g.mono ?_⟩
      rintro v H3 ⟨w', rfl, hB3, hg3⟩
      have hg2' := hg2.base hB3
      have hll : (mL L l n a).length ≤ 100000 := by
        unfold mL
        split
        · have := mtc_len (L := L) (l := l) n
          omega
        · simp
      obtain ⟨E, hE⟩ : ∃ e, e = mE L l n a := ⟨_, rfl⟩
      rw [← hE]
      simp (disch := omega) only [sN, ↓reduceIte, Nat.reduceEqDiff, Nat.reduceAdd, Nat.reduceMul, Nat.reduceSub, reduceCtorEq, e_none, e_some, e_bindS, e0, e1, e2, List.getElem?_cons_zero, List.getElem?_cons_succ, List.map_cons, List.map_nil]
      refine ⟨_, (ints_calls H3 hg2' hg3 hll).g.mono ?_⟩
      rintro v H4 ⟨rfl, hH⟩
      rw [hH]
      simp (disch := omega) only [sN, ↓reduceIte, Nat.reduceEqDiff, Nat.reduceAdd, Nat.reduceMul, Nat.reduceSub, reduceCtorEq, e_none, e_some, e_bindS]
      refine call_true' hw fun H' => ?_
      simp (disch := omega) only [sN, ↓reduceIte, Nat.reduceEqDiff, Nat.reduceAdd, Nat.reduceMul, Nat.reduceSub, reduceCtorEq, e_none, e_some, e_bindS]
      have hL2 := hB2.1
      have hL3 := hB3.1
      refine ret_keep (by rw [List.length_append]; omega) ?_
      simp only [q_tmp, q_then, rs_lawMat, e_upd, e_putS, e_putN, e_t, e_c, Nat.reduceEqDiff, ↓reduceIte, reduceCtorEq, Nat.reduceAdd]
    · simp (disch := omega) only [sN, ↓reduceIte, Nat.reduceEqDiff, Nat.reduceAdd, Nat.reduceMul, Nat.reduceSub, reduceCtorEq, e_none, e_some, e_bindS, e0, e1, e2, k_len hk, k_len hk', List.map_nil]
      refine call_true' hw fun H' => ?_
      simp (disch := omega) only [sN, ↓reduceIte, Nat.reduceEqDiff, Nat.reduceAdd, Nat.reduceMul, Nat.reduceSub, reduceCtorEq, e_none, e_some, e_bindS]
      refine ret_keep (by rw [List.length_append]; omega) ?_
      simp only [q_tmp, q_then, rs_lawMat, e_upd, e_putS, e_putN, e_t, e_c, Nat.reduceEqDiff, ↓reduceIte, reduceCtorEq, Nat.reduceAdd]
  · simp (disch := omega) only [sN, ↓reduceIte, Nat.reduceEqDiff, Nat.reduceAdd, Nat.reduceMul, Nat.reduceSub, reduceCtorEq, e_none, e_some, e_bindS, e0, e1, e2, k_len hk, k_len hk', List.map_nil]
    refine call_true' hw fun H' => ?_
    simp (disch := omega) only [sN, ↓reduceIte, Nat.reduceEqDiff, Nat.reduceAdd, Nat.reduceMul, Nat.reduceSub, reduceCtorEq, e_none, e_some, e_bindS]
    refine ret_keep (by rw [List.length_append]; omega) ?_
    simp only [q_tmp, q_then, rs_lawMat, e_upd, e_putS, e_putN, e_t, e_c, Nat.reduceEqDiff, ↓reduceIte, reduceCtorEq, Nat.reduceAdd]
end Go.Proofs.Ythbhljolpnbdlaa

