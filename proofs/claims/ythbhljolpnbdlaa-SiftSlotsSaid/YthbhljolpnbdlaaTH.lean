/- Contracts of stage 4: the reference's slots of a class; the sender's bits. -/
import Derived.Test.YthbhljolpnbdlaaVX
import Derived.Test.YthbhljolpnbdlaaTG
set_option linter.unusedSimpArgs false
set_option linter.unusedVariables false
-- NEWSET
namespace Go.Proofs.Ythbhljolpnbdlaa
open Go Go.Vh

set_option maxHeartbeats 4000000 in
theorem rClass_calls (H0 : AHeap) {κ κ' : SK} {n m r r' : Nat} {L : List Pul} {l : List Int} {row row' : ARow} {c : Int} (hk : okS κ m) (hl : L.length = m) (hm : m ≤ maxLen) (hr : Vh.rowAt H0 r = some row) (hc : row.cells = pcells L)
    (hk' : okS κ' n) (hl' : l.length = n) (hn : n ≤ 400) (hr' : Vh.rowAt H0 r' = some row') (hc' : row'.cells = ints .i64 l) :
    ACalls Try.prog 25 [mkS κ r 0 m, mkS κ' r' 0 n, .int .i64 c] H0 (List.range H0.length) (AnsC H0 L l c) := by
  refine ACalls.body Try.func25 ent_rClass ir_rClass_ok rs_rClass_ok Try.ntmps25 (by simp) rfl ?_
  unfold ir_rClass
  have e0 : s0 [mkS κ r 0 m, mkS κ' r' 0 n, .int .i64 c] 0 = mkS κ r 0 m := rfl
  have e1 : s0 [mkS κ r 0 m, mkS κ' r' 0 n, .int .i64 c] 1 = mkS κ' r' 0 n := rfl
  have e2 : s0 [mkS κ r 0 m, mkS κ' r' 0 n, .int .i64 c] 2 = .int .i64 c := rfl
  have fin : ∀ (E : Int), E ≠ 0 → cE4 L l c = E → AnsC H0 L l c (.tuple [.nilslice, .int .i64 E]) H0 := fun E hE he => by
    refine ⟨.nilslice, by rw [he], Base.refl, .inl ⟨?_, rfl⟩⟩
    unfold cL4; rw [if_neg (by rw [he]; exact hE)]
  simp (disch := omega) only [sN, ↓reduceIte, Nat.reduceEqDiff, Nat.reduceAdd, Nat.reduceMul, Nat.reduceSub, reduceCtorEq, e_none, e_some, e_bindS, e0, e1, e2, List.map_cons, List.map_nil]
  refine ⟨_, (rPulses_calls H0 hk hl hm hr hc).g.mono ?_⟩
  rintro v H1 ⟨rfl, hH⟩
  rw [hH]
  obtain ⟨E1, hE1⟩ : ∃ e, e = pE L := ⟨_, rfl⟩
  rw [← hE1]
  by_cases hz1 : E1 = 0
  · rw [hz1] at hE1 ⊢
    have hm4 := pE_zero hE1.symm
    simp (disch := omega) only [sN, ↓reduceIte, Nat.reduceEqDiff, Nat.reduceAdd, Nat.reduceMul, Nat.reduceSub, reduceCtorEq, e_none, e_some, e_bindS, e0, e1, e2, List.map_cons, List.map_nil]
    refine ⟨_, (rWithin_calls H0 c 2).g.mono ?_⟩
    rintro v H1 ⟨rfl, hH⟩
    rw [hH]
    by_cases hc2 : 0 ≤ c ∧ c ≤ 2
    · rw [decide_eq_true hc2]
      have hce : cE4 L l c = gE l 0 m n := by
        unfold cE4; rw [← hE1, if_pos hc2, hl, hl']; simp [fst0]
        intro h; exact h.symm
      simp (disch := omega) only [sN, ↓reduceIte, Nat.reduceEqDiff, Nat.reduceAdd, Nat.reduceMul, Nat.reduceSub, reduceCtorEq, e_none, e_some, e_bindS, e0, e1, e2, k_len hk, List.map_cons, List.map_nil]
      refine ⟨_, (rSlots_calls H0 (b := (m : Int)) hk' hl' (by unfold maxLen; omega) hr' hc' (by omega)).g.mono ?_⟩
      rintro v H1 ⟨rfl, hH⟩
      rw [hH]
      obtain ⟨E, hEE⟩ : ∃ e, e = gE l 0 m n := ⟨_, rfl⟩
      rw [← hEE] at hce ⊢
      by_cases hz2 : E = 0
      · have hfz : gE l 0 m n = 0 := by rw [← hEE]; exact hz2
        rw [hz2] at hce
        subst hz2
        simp (disch := omega) only [sN, ↓reduceIte, Nat.reduceEqDiff, Nat.reduceAdd, Nat.reduceMul, Nat.reduceSub, reduceCtorEq, e_none, e_some, e_bindS, e0, e1, e2]
        refine ⟨fun t s H => ∃ i : Nat, t = n - i ∧ i ≤ n ∧ Base H0 H ∧ Gs H0 H (s 8) (clsL L l c i) ∧ s 0 = mkS κ r 0 m ∧ s 1 = mkS κ' r' 0 n ∧ s 2 = .int .i64 c ∧ s 9 = .int .i64 (i : Int), n, ⟨0, rfl, by omega, Base.refl, .inl ⟨rfl, ?_⟩, ?_, ?_, ?_, ?_⟩, ?_⟩
        · simp only [e_upd, e_putS, e_putN, e_t, e_c, Nat.reduceEqDiff, ↓reduceIte, reduceCtorEq, Nat.reduceAdd]
        · simp only [e_upd, e_putS, e_putN, e_t, e_c, Nat.reduceEqDiff, ↓reduceIte, reduceCtorEq, Nat.reduceAdd, e0]
        · simp only [e_upd, e_putS, e_putN, e_t, e_c, Nat.reduceEqDiff, ↓reduceIte, reduceCtorEq, Nat.reduceAdd, e1]
        · simp only [e_upd, e_putS, e_putN, e_t, e_c, Nat.reduceEqDiff, ↓reduceIte, reduceCtorEq, Nat.reduceAdd, e2]
        · simp only [e_upd, e_putS, e_putN, e_t, e_c, Nat.reduceEqDiff, ↓reduceIte, reduceCtorEq, Nat.reduceAdd]; rfl
        rintro t s H ⟨i, rfl, hi, hB, hg, h0, h1, h2, h9⟩
        have next : ∀ (s' : St) (H' : AHeap), Base H0 H' → Gs H0 H' (s' 8) (clsL L l c (i + 1)) → i < n → s' 0 = mkS κ r 0 m → s' 1 = mkS κ' r' 0 n → s' 2 = .int .i64 c → s' 9 = .int .i64 ((i : Int) + 1) →
            loopPost H0.length (fun t s H => ∃ i : Nat, t = n - i ∧ i ≤ n ∧ Base H0 H ∧ Gs H0 H (s 8) (clsL L l c i) ∧ s 0 = mkS κ r 0 m ∧ s 1 = mkS κ' r' 0 n ∧ s 2 = .int .i64 c ∧ s 9 = .int .i64 (i : Int)) (n - i) s' H' := fun s' H' u1 u2 u3 u4 u5 u6 u7 =>
          loop_keep (m := n - (i + 1)) (by omega) ⟨i + 1, rfl, by omega, u1, u2, u4, u5, u6, by rw [u7]; rfl⟩
        by_cases hlt : i < n
        · have hin := gE_ok hfz hlt
          have hgx : row'.cells[i]? = some (.int .i64 (l.getD i 0)) := by rw [hc']; exact ints_get (by omega)
          obtain ⟨x, hx⟩ : ∃ x, x = l.getD i 0 := ⟨_, rfl⟩
          have hst : clsL L l c (i + 1) = clsL L l c i ++ (if (L.getD x.toNat default).cl = c then [x] else []) := by rw [hx]; rfl
          rw [← hx] at hin hgx
          have hrH := hB.row hr
          have hrH' := hB.row hr'
          have g2 := pulse_get (L := L) (i := x.toNat) (j := 2) (by omega) (by omega)
          obtain ⟨p, hp⟩ : ∃ p, p = L.getD x.toNat default := ⟨_, rfl⟩
          rw [← hp] at g2 hst
          rw [← hc] at g2
          have g2' : row.cells[x.toNat * 5 + 2]? = some (.int .i64 p.cl) := g2
          obtain ⟨y, hy⟩ : ∃ y, y = p.cl := ⟨_, rfl⟩
          rw [← hy] at g2' hst
          have ia : aindexAddr 1 (mkS κ' r' 0 n) (.int .i64 (i : Int)) = some (.ptr r' i) := by
            rw [k_idx hk' (Nat.le_refl n) (by omega) (by omega)]; simp
          have ib : aindexAddr 5 (mkS κ r 0 m) (.int .i64 x) = some (.ptr r (x.toNat * 5)) := by
            rw [k_idx5 hk (Nat.le_refl m) (by omega) (by omega)]; simp
          by_cases hyc : y = c
          · obtain ⟨v', H'', ea, eg, eb, _⟩ := x_appGs (H0 := H0) (H := H ++ [rw_ [.int .i64 x]]) (a := x) (r := H.length) (c := 1) (row := ⟨true, false, [.int .i64 x]⟩) (hg.base Base.one) (by simp [Vh.rowAt, rw_]) rfl (by have := clsL_len (L := L) (l := l) (c := c) i; omega) hB.app
            simp (disch := omega) only [sN, ↓reduceIte, Nat.reduceEqDiff, Nat.reduceAdd, Nat.reduceMul, Nat.reduceSub, reduceCtorEq, e_none, e_some, e_bindS, h0, h1, h2, h9, k_len hk', ia, ib, hrH', hgx, hrH, p_fieldAddr, g2', Option.bind_some, Option.map_some]
            rw [x_bs1 (v := .int .i64 x) (by simp only [e_upd, e_putS, e_putN, e_t, e_c, Nat.reduceEqDiff, ↓reduceIte, reduceCtorEq, Nat.reduceAdd]) rfl]
            simp (disch := omega) only [sN, ↓reduceIte, Nat.reduceEqDiff, Nat.reduceAdd, Nat.reduceMul, Nat.reduceSub, reduceCtorEq, e_none, e_some, e_bindS, h0, h1, h2, h9]
            rw [ea _ _ _ (by simp only [e_upd, e_putS, e_putN, e_t, e_c, Nat.reduceEqDiff, ↓reduceIte, reduceCtorEq, Nat.reduceAdd]) (by simp only [e_upd, e_putS, e_putN, e_t, e_c, Nat.reduceEqDiff, ↓reduceIte, reduceCtorEq, Nat.reduceAdd])]
            simp (disch := omega) only [sN, ↓reduceIte, Nat.reduceEqDiff, Nat.reduceAdd, Nat.reduceMul, Nat.reduceSub, reduceCtorEq, e_none, e_some, e_bindS, h0, h1, h2, h9]
            refine next _ _ eb ?_ hlt ?_ ?_ ?_ ?_
            · rw [hst, if_pos hyc]; simp only [e_upd, e_putS, e_putN, e_t, e_c, Nat.reduceEqDiff, ↓reduceIte, reduceCtorEq, Nat.reduceAdd]; exact eg
            · simp only [e_upd, e_putS, e_putN, e_t, e_c, Nat.reduceEqDiff, ↓reduceIte, reduceCtorEq, Nat.reduceAdd, h0]
            · simp only [e_upd, e_putS, e_putN, e_t, e_c, Nat.reduceEqDiff, ↓reduceIte, reduceCtorEq, Nat.reduceAdd, h1]
            · simp only [e_upd, e_putS, e_putN, e_t, e_c, Nat.reduceEqDiff, ↓reduceIte, reduceCtorEq, Nat.reduceAdd, h2]
            · simp only [e_upd, e_putS, e_putN, e_t, e_c, Nat.reduceEqDiff, ↓reduceIte, reduceCtorEq, Nat.reduceAdd]
          · simp (disch := omega) only [sN, ↓reduceIte, Nat.reduceEqDiff, Nat.reduceAdd, Nat.reduceMul, Nat.reduceSub, reduceCtorEq, e_none, e_some, e_bindS, h0, h1, h2, h9, k_len hk', ia, ib, hrH', hgx, hrH, p_fieldAddr, g2', Option.bind_some, Option.map_some]
            refine next _ _ hB ?_ hlt ?_ ?_ ?_ ?_
            · rw [hst, if_neg hyc, List.append_nil]; simp only [e_upd, e_putS, e_putN, e_t, e_c, Nat.reduceEqDiff, ↓reduceIte, reduceCtorEq, Nat.reduceAdd]; exact hg
            · simp only [e_upd, e_putS, e_putN, e_t, e_c, Nat.reduceEqDiff, ↓reduceIte, reduceCtorEq, Nat.reduceAdd, h0]
            · simp only [e_upd, e_putS, e_putN, e_t, e_c, Nat.reduceEqDiff, ↓reduceIte, reduceCtorEq, Nat.reduceAdd, h1]
            · simp only [e_upd, e_putS, e_putN, e_t, e_c, Nat.reduceEqDiff, ↓reduceIte, reduceCtorEq, Nat.reduceAdd, h2]
            · simp only [e_upd, e_putS, e_putN, e_t, e_c, Nat.reduceEqDiff, ↓reduceIte, reduceCtorEq, Nat.reduceAdd]
        · obtain rfl : i = n := by omega
          simp (disch := omega) only [sN, ↓reduceIte, Nat.reduceEqDiff, Nat.reduceAdd, Nat.reduceMul, Nat.reduceSub, reduceCtorEq, e_none, e_some, e_bindS, h0, h1, h2, h9, k_len hk']
          refine ret_keep hB.1 ?_
          rw [show rs_rClass = [.tmp 6, .tmp 7] from rfl, q_tmp2, q_then]
          refine ⟨s 8, ?_, hB, ?_⟩
          · rw [hce]; simp only [e_upd, e_putS, e_putN, e_t, e_c, Nat.reduceEqDiff, ↓reduceIte, reduceCtorEq, Nat.reduceAdd]
          · unfold cL4; rw [if_pos hce, hl']; exact hg
      · simp (disch := omega) only [sN, ↓reduceIte, Nat.reduceEqDiff, Nat.reduceAdd, Nat.reduceMul, Nat.reduceSub, reduceCtorEq, e_none, e_some, e_bindS, e0, e1, e2, k_len hk, List.map_cons, List.map_nil]
        refine ⟨_, (rSlots_calls H0 (b := (m : Int)) hk' hl' (by unfold maxLen; omega) hr' hc' (by omega)).g.mono ?_⟩
        rintro v H1 ⟨rfl, hH⟩
        rw [hH, ← hEE]
        simp (disch := omega) only [sN, ↓reduceIte, Nat.reduceEqDiff, Nat.reduceAdd, Nat.reduceMul, Nat.reduceSub, reduceCtorEq, e_none, e_some, e_bindS, e0, e1, e2]
        refine ret_keep (by simp) ?_
        rw [show rs_rClass = [.tmp 6, .tmp 7] from rfl, q_tmp2, q_then]
        simp only [e_upd, e_putS, e_putN, e_t, e_c, Nat.reduceEqDiff, ↓reduceIte, reduceCtorEq, Nat.reduceAdd]
        exact fin E hz2 hce
    · rw [decide_eq_false hc2]
      simp (disch := omega) only [sN, ↓reduceIte, Nat.reduceEqDiff, Nat.reduceAdd, Nat.reduceMul, Nat.reduceSub, reduceCtorEq, e_none, e_some, e_bindS, e0, e1, e2]
      refine ret_keep (by simp) ?_
      rw [show rs_rClass = [.tmp 6, .tmp 7] from rfl, q_tmp2, q_then]
      simp only [e_upd, e_putS, e_putN, e_t, e_c, Nat.reduceEqDiff, ↓reduceIte, reduceCtorEq, Nat.reduceAdd]
      exact fin 2 (by decide) (by unfold cE4; rw [← hE1, if_neg hc2]; simp [fst0])
  · simp (disch := omega) only [sN, ↓reduceIte, Nat.reduceEqDiff, Nat.reduceAdd, Nat.reduceMul, Nat.reduceSub, reduceCtorEq, e_none, e_some, e_bindS, e0, e1, e2, List.map_cons, List.map_nil]
    refine ⟨_, (rPulses_calls H0 hk hl hm hr hc).g.mono ?_⟩
    rintro v H1 ⟨rfl, hH⟩
    rw [hH, ← hE1]
    simp (disch := omega) only [sN, ↓reduceIte, Nat.reduceEqDiff, Nat.reduceAdd, Nat.reduceMul, Nat.reduceSub, reduceCtorEq, e_none, e_some, e_bindS, e0, e1, e2]
    refine ret_keep (by simp) ?_
    rw [show rs_rClass = [.tmp 6, .tmp 7] from rfl, q_tmp2, q_then]
    simp only [e_upd, e_putS, e_putN, e_t, e_c, Nat.reduceEqDiff, ↓reduceIte, reduceCtorEq, Nat.reduceAdd]
    exact fin E1 hz1 (by unfold cE4; rw [← hE1]; simp [fst0, hz1])

/-- truths that were appended one by one -/
def bools (xs : List Bool) : List AV := xs.map AV.bool
def Gb (H0 H : AHeap) (v : AV) (xs : List Bool) : Prop := (xs = [] ∧ v = .nilslice) ∨ ∃ q, 0 < xs.length ∧ v = .sliceU q 0 xs.length 1 ∧ H0.length ≤ q ∧ Vh.rowAt H q = some ⟨true, true, bools xs⟩
theorem Gb.base {H0 H H' : AHeap} {v : AV} {l : List Bool} (h : Gb H0 H v l) (hb : Base H H') : Gb H0 H' v l := by
  rcases h with h | ⟨q, h1, h2, h3, h4⟩
  · exact .inl h
  · exact .inr ⟨q, h1, h2, h3, hb.row h4⟩
theorem x_appGb {H0 H : AHeap} {v : AV} {xs : List Bool} {a : Bool} {r c : Nat} {row : ARow} (hv : Gb H0 H v xs) (hr : Vh.rowAt H r = some row) (hc : row.cells = [.bool a]) (hn : xs.length ≤ 100000) (hb : Base H0 H) :
    ∃ v' H', (∀ (s : St) (x y : Opd), evo s x = v → evo s y = .slice r 0 1 c → ieff (.append 1 1 x y) s H = some (v', H')) ∧ Gb H0 H' v' (xs ++ [a]) ∧ Base H0 H' := by
  rcases hv with ⟨rfl, rfl⟩ | ⟨q, h1, rfl, h4, h5⟩
  · refine ⟨.sliceU H.length 0 1 1, H ++ [sl [.bool a]], fun s x y hx hy => ?_, .inr ⟨H.length, by simp, rfl, hb.1, by simp [Vh.rowAt, sl, bools]⟩, hb.app⟩
    exact x_appN hx hy hr (by rw [hc]; rfl) (by rw [hc]; simp) (by omega) rfl
  · refine ⟨.sliceU H.length 0 (xs.length + 1) 1, H.set q none ++ [sl (bools (xs ++ [a]))], fun s x y hx hy => ?_, .inr ⟨H.length, by simp, by simp, hb.1, ?_⟩, (hb.set h4).app⟩
    · have := x_appU (bytes := 1) (xs := [.bool a]) hx hy h5 (by simp [bools]) hr (by rw [hc]; rfl) (by rw [hc]; simp) (by omega) rfl
      rw [this]
      simp [bools]
    · rw [row_new]; rfl

/-- the sender's bits -/
def sntL (L : List Pul) (l : List Int) : Nat → List Bool
  | 0 => []
  | i + 1 => sntL L l i ++ [(L.getD (l.getD i 0).toNat default).bit]
theorem sntL_len {L : List Pul} {l : List Int} : ∀ n, (sntL L l n).length = n
  | 0 => rfl
  | n + 1 => by simp [sntL, sntL_len n]
end Go.Proofs.Ythbhljolpnbdlaa


/- Contracts of stage 4: the sender's bits. -/
-- NEWSET
namespace Go.Proofs.Ythbhljolpnbdlaa
open Go Go.Vh

def sE (L : List Pul) (l : List Int) : Int := fst0 [pE L, gE l 0 L.length l.length]
def sL (L : List Pul) (l : List Int) : List Bool := if sE L l = 0 then sntL L l l.length else []

set_option maxHeartbeats 4000000 in
theorem rSent_calls (H0 : AHeap) {κ κ' : SK} {n m r r' : Nat} {L : List Pul} {l : List Int} {row row' : ARow} (hk : okS κ m) (hl : L.length = m) (hm : m ≤ maxLen) (hr : Vh.rowAt H0 r = some row) (hc : row.cells = pcells L)
    (hk' : okS κ' n) (hl' : l.length = n) (hn : n ≤ 400) (hr' : Vh.rowAt H0 r' = some row') (hc' : row'.cells = ints .i64 l) :
    ACalls Try.prog 27 [mkS κ r 0 m, mkS κ' r' 0 n] H0 (List.range H0.length) fun v H => ∃ w, v = .tuple [w, .int .i64 (sE L l)] ∧ Base H0 H ∧ Gb H0 H w (sL L l) := by
  refine ACalls.body Try.func27 ent_rSent ir_rSent_ok rs_rSent_ok Try.ntmps27 (by simp) rfl ?_
  unfold ir_rSent
  have e0 : s0 [mkS κ r 0 m, mkS κ' r' 0 n] 0 = mkS κ r 0 m := rfl
  have e1 : s0 [mkS κ r 0 m, mkS κ' r' 0 n] 1 = mkS κ' r' 0 n := rfl
  have fin : ∀ (E : Int), E ≠ 0 → sE L l = E → ∃ w, AV.tuple [.nilslice, .int .i64 E] = .tuple [w, .int .i64 (sE L l)] ∧ Base H0 H0 ∧ Gb H0 H0 w (sL L l) := fun E hE he => by
    refine ⟨.nilslice, by rw [he], Base.refl, .inl ⟨?_, rfl⟩⟩
    unfold sL; rw [if_neg (by rw [he]; exact hE)]
  simp (disch := omega) only [sN, ↓reduceIte, Nat.reduceEqDiff, Nat.reduceAdd, Nat.reduceMul, Nat.reduceSub, reduceCtorEq, e_none, e_some, e_bindS, e0, e1, List.map_cons, List.map_nil]
  refine ⟨_, (rPulses_calls H0 hk hl hm hr hc).g.mono ?_⟩
  rintro v H1 ⟨rfl, hH⟩
  rw [hH]
  obtain ⟨E1, hE1⟩ : ∃ e, e = pE L := ⟨_, rfl⟩
  rw [← hE1]
  by_cases hz1 : E1 = 0
  · rw [hz1] at hE1 ⊢
    have hm4 := pE_zero hE1.symm
    have hse : sE L l = gE l 0 m n := by
      unfold sE; rw [← hE1, hl, hl']; simp [fst0]
      intro h; exact h.symm
    simp (disch := omega) only [sN, ↓reduceIte, Nat.reduceEqDiff, Nat.reduceAdd, Nat.reduceMul, Nat.reduceSub, reduceCtorEq, e_none, e_some, e_bindS, e0, e1, k_len hk, List.map_cons, List.map_nil]
    refine ⟨_, (rSlots_calls H0 (b := (m : Int)) hk' hl' (by unfold maxLen; omega) hr' hc' (by omega)).g.mono ?_⟩
    rintro v H1 ⟨rfl, hH⟩
    rw [hH]
    obtain ⟨E, hEE⟩ : ∃ e, e = gE l 0 m n := ⟨_, rfl⟩
    rw [← hEE] at hse ⊢
    by_cases hz2 : E = 0
    · have hfz : gE l 0 m n = 0 := by rw [← hEE]; exact hz2
      rw [hz2] at hse
      subst hz2
      simp (disch := omega) only [sN, ↓reduceIte, Nat.reduceEqDiff, Nat.reduceAdd, Nat.reduceMul, Nat.reduceSub, reduceCtorEq, e_none, e_some, e_bindS, e0, e1]
      refine ⟨fun t s H => ∃ i : Nat, t = n - i ∧ i ≤ n ∧ Base H0 H ∧ Gb H0 H (s 6) (sntL L l i) ∧ s 0 = mkS κ r 0 m ∧ s 1 = mkS κ' r' 0 n ∧ s 7 = .int .i64 (i : Int), n, ⟨0, rfl, by omega, Base.refl, .inl ⟨rfl, ?_⟩, ?_, ?_, ?_⟩, ?_⟩
      · simp only [e_upd, e_putS, e_putN, e_t, e_c, Nat.reduceEqDiff, ↓reduceIte, reduceCtorEq, Nat.reduceAdd]
      · simp only [e_upd, e_putS, e_putN, e_t, e_c, Nat.reduceEqDiff, ↓reduceIte, reduceCtorEq, Nat.reduceAdd, e0]
      · simp only [e_upd, e_putS, e_putN, e_t, e_c, Nat.reduceEqDiff, ↓reduceIte, reduceCtorEq, Nat.reduceAdd, e1]
      · simp only [e_upd, e_putS, e_putN, e_t, e_c, Nat.reduceEqDiff, ↓reduceIte, reduceCtorEq, Nat.reduceAdd]; rfl
      rintro t s H ⟨i, rfl, hi, hB, hg, h0, h1, h7⟩
      by_cases hlt : i < n
      · have hin := gE_ok hfz hlt
        have hgx : row'.cells[i]? = some (.int .i64 (l.getD i 0)) := by rw [hc']; exact ints_get (by omega)
        obtain ⟨x, hx⟩ : ∃ x, x = l.getD i 0 := ⟨_, rfl⟩
        have hst : sntL L l (i + 1) = sntL L l i ++ [(L.getD x.toNat default).bit] := by rw [hx]; rfl
        rw [← hx] at hin hgx
        have hrH := hB.row hr
        have hrH' := hB.row hr'
        have g2 := pulse_get (L := L) (i := x.toNat) (j := 1) (by omega) (by omega)
        obtain ⟨p, hp⟩ : ∃ p, p = L.getD x.toNat default := ⟨_, rfl⟩
        rw [← hp] at g2 hst
        rw [← hc] at g2
        have g2' : row.cells[x.toNat * 5 + 1]? = some (.bool p.bit) := g2
        obtain ⟨y, hy⟩ : ∃ y, y = p.bit := ⟨_, rfl⟩
        rw [← hy] at g2' hst
        have ia : aindexAddr 1 (mkS κ' r' 0 n) (.int .i64 (i : Int)) = some (.ptr r' i) := by
          rw [k_idx hk' (Nat.le_refl n) (by omega) (by omega)]; simp
        have ib : aindexAddr 5 (mkS κ r 0 m) (.int .i64 x) = some (.ptr r (x.toNat * 5)) := by
          rw [k_idx5 hk (Nat.le_refl m) (by omega) (by omega)]; simp
        obtain ⟨v', H'', ea, eg, eb⟩ := x_appGb (H0 := H0) (H := H ++ [rw_ [.bool y]]) (a := y) (r := H.length) (c := 1) (row := ⟨true, false, [.bool y]⟩) (hg.base Base.one) (by simp [Vh.rowAt, rw_]) rfl (by rw [sntL_len]; omega) hB.app
        simp (disch := omega) only [sN, ↓reduceIte, Nat.reduceEqDiff, Nat.reduceAdd, Nat.reduceMul, Nat.reduceSub, reduceCtorEq, e_none, e_some, e_bindS, h0, h1, h7, k_len hk', ia, ib, hrH', hgx, hrH, p_fieldAddr, g2', Option.bind_some, Option.map_some]
        rw [x_bs1 (v := .bool y) (by simp only [e_upd, e_putS, e_putN, e_t, e_c, Nat.reduceEqDiff, ↓reduceIte, reduceCtorEq, Nat.reduceAdd]) rfl]
        simp (disch := omega) only [sN, ↓reduceIte, Nat.reduceEqDiff, Nat.reduceAdd, Nat.reduceMul, Nat.reduceSub, reduceCtorEq, e_none, e_some, e_bindS, h0, h1, h7]
        rw [ea _ _ _ (by simp only [e_upd, e_putS, e_putN, e_t, e_c, Nat.reduceEqDiff, ↓reduceIte, reduceCtorEq, Nat.reduceAdd]) (by simp only [e_upd, e_putS, e_putN, e_t, e_c, Nat.reduceEqDiff, ↓reduceIte, reduceCtorEq, Nat.reduceAdd])]
        simp (disch := omega) only [sN, ↓reduceIte, Nat.reduceEqDiff, Nat.reduceAdd, Nat.reduceMul, Nat.reduceSub, reduceCtorEq, e_none, e_some, e_bindS, h0, h1, h7]
        refine loop_keep (m := n - (i + 1)) (by omega) ⟨i + 1, rfl, by omega, eb, ?_, ?_, ?_, ?_⟩
        · rw [hst]; simp only [e_upd, e_putS, e_putN, e_t, e_c, Nat.reduceEqDiff, ↓reduceIte, reduceCtorEq, Nat.reduceAdd]; exact eg
        · simp only [e_upd, e_putS, e_putN, e_t, e_c, Nat.reduceEqDiff, ↓reduceIte, reduceCtorEq, Nat.reduceAdd, h0]
        · simp only [e_upd, e_putS, e_putN, e_t, e_c, Nat.reduceEqDiff, ↓reduceIte, reduceCtorEq, Nat.reduceAdd, h1]
        · simp only [e_upd, e_putS, e_putN, e_t, e_c, Nat.reduceEqDiff, ↓reduceIte, reduceCtorEq, Nat.reduceAdd]; first | done | rfl
      · obtain rfl : i = n := by omega
        simp (disch := omega) only [sN, ↓reduceIte, Nat.reduceEqDiff, Nat.reduceAdd, Nat.reduceMul, Nat.reduceSub, reduceCtorEq, e_none, e_some, e_bindS, h0, h1, h7, k_len hk']
        refine ret_keep hB.1 ?_
        rw [show rs_rSent = [.tmp 4, .tmp 5] from rfl, q_tmp2, q_then]
        refine ⟨s 6, ?_, hB, ?_⟩
        · rw [hse]; simp only [e_upd, e_putS, e_putN, e_t, e_c, Nat.reduceEqDiff, ↓reduceIte, reduceCtorEq, Nat.reduceAdd]
        · unfold sL; rw [if_pos hse, hl']; exact hg
    · simp (disch := omega) only [sN, ↓reduceIte, Nat.reduceEqDiff, Nat.reduceAdd, Nat.reduceMul, Nat.reduceSub, reduceCtorEq, e_none, e_some, e_bindS, e0, e1, k_len hk, List.map_cons, List.map_nil]
      refine ⟨_, (rSlots_calls H0 (b := (m : Int)) hk' hl' (by unfold maxLen; omega) hr' hc' (by omega)).g.mono ?_⟩
      rintro v H1 ⟨rfl, hH⟩
      rw [hH, ← hEE]
      simp (disch := omega) only [sN, ↓reduceIte, Nat.reduceEqDiff, Nat.reduceAdd, Nat.reduceMul, Nat.reduceSub, reduceCtorEq, e_none, e_some, e_bindS, e0, e1]
      refine ret_keep (by simp) ?_
      rw [show rs_rSent = [.tmp 4, .tmp 5] from rfl, q_tmp2, q_then]
      simp only [e_upd, e_putS, e_putN, e_t, e_c, Nat.reduceEqDiff, ↓reduceIte, reduceCtorEq, Nat.reduceAdd]
      exact fin E hz2 hse
  · simp (disch := omega) only [sN, ↓reduceIte, Nat.reduceEqDiff, Nat.reduceAdd, Nat.reduceMul, Nat.reduceSub, reduceCtorEq, e_none, e_some, e_bindS, e0, e1, List.map_cons, List.map_nil]
    refine ⟨_, (rPulses_calls H0 hk hl hm hr hc).g.mono ?_⟩
    rintro v H1 ⟨rfl, hH⟩
    rw [hH, ← hE1]
    simp (disch := omega) only [sN, ↓reduceIte, Nat.reduceEqDiff, Nat.reduceAdd, Nat.reduceMul, Nat.reduceSub, reduceCtorEq, e_none, e_some, e_bindS, e0, e1]
    refine ret_keep (by simp) ?_
    rw [show rs_rSent = [.tmp 4, .tmp 5] from rfl, q_tmp2, q_then]
    simp only [e_upd, e_putS, e_putN, e_t, e_c, Nat.reduceEqDiff, ↓reduceIte, reduceCtorEq, Nat.reduceAdd]
    exact fin E1 hz1 (by unfold sE; rw [← hE1]; simp [fst0, hz1])
end Go.Proofs.Ythbhljolpnbdlaa


/- Contracts of stage 4: sift's bits of the sender. -/
-- NEWSET
namespace Go.Proofs.Ythbhljolpnbdlaa
open Go Go.Vh

/-- what is handed out where a list is made first and then filled -/
def Mb (H0 H : AHeap) (v : AV) (n : Nat) (f : Nat → Bool) : Prop := ∃ q, v = .slice q 0 n n ∧ H0.length ≤ q ∧ Vh.rowAt H q = some ⟨true, false, bt n f⟩
def sntF (L : List Pul) (l : List Int) (i : Nat) : Bool := (L.getD (l.getD i 0).toNat default).bit
theorem sntL_bt {L : List Pul} {l : List Int} : ∀ n, bools (sntL L l n) = bt n (sntF L l)
  | 0 => rfl
  | n + 1 => by
    have := sntL_bt (L := L) (l := l) n
    simp only [sntL, bools, List.map_append, bt, List.range_succ] at this ⊢
    rw [this]; rfl

set_option maxHeartbeats 4000000 in
theorem sent_calls (H0 : AHeap) {κ κ' : SK} {n m r r' : Nat} {L : List Pul} {l : List Int} {row row' : ARow} (hk : okS κ m) (hl : L.length = m) (hm : m ≤ maxLen) (hr : Vh.rowAt H0 r = some row) (hc : row.cells = pcells L)
    (hk' : okS κ' n) (hl' : l.length = n) (hn : n ≤ 400) (hr' : Vh.rowAt H0 r' = some row') (hc' : row'.cells = ints .i64 l) :
    ACalls Try.prog 26 [mkS κ r 0 m, mkS κ' r' 0 n] H0 (List.range H0.length) fun v H => ∃ w, v = .tuple [w, .int .i64 (sE L l)] ∧ Base H0 H ∧ ((sE L l = 0 ∧ Mb H0 H w n (sntF L l)) ∨ (sE L l ≠ 0 ∧ w = .nilslice)) := by
  refine ACalls.body Try.func26 ent_sent ir_sent_ok rs_sent_ok Try.ntmps26 (by simp) rfl ?_
  unfold ir_sent
  have e0 : s0 [mkS κ r 0 m, mkS κ' r' 0 n] 0 = mkS κ r 0 m := rfl
  have e1 : s0 [mkS κ r 0 m, mkS κ' r' 0 n] 1 = mkS κ' r' 0 n := rfl
  simp (disch := omega) only [sN, ↓reduceIte, Nat.reduceEqDiff, Nat.reduceAdd, Nat.reduceMul, Nat.reduceSub, reduceCtorEq, e_none, e_some, e_bindS, e0, e1, List.map_cons, List.map_nil]
  refine ⟨_, (checkPulses_calls H0 hk hl hm hr hc).g.mono ?_⟩
  rintro v H1 ⟨rfl, hB1⟩
  simp (disch := omega) only [sN, ↓reduceIte, Nat.reduceEqDiff, Nat.reduceAdd, Nat.reduceMul, Nat.reduceSub, reduceCtorEq, e_none, e_some, e_bindS, e0, e1, List.map_cons, List.map_nil]
  refine ⟨_, (slotsOf_calls H1 hk).g.mono ?_⟩
  rintro v H2 ⟨rfl, hH2⟩
  have hB2 : Base H1 H2 := by rw [hH2]; exact Base.one.app
  have rp : Vh.rowAt H2 H1.length = some ⟨true, false, [.int .i64 0]⟩ := by rw [hH2, rowAt_append_left (by simp)]; simp [Vh.rowAt, rw_]
  have rq : Vh.rowAt H2 (H1.length + 1) = some ⟨true, false, [.int .i64 (m : Int)]⟩ := by
    rw [hH2, show H1.length + 1 = (H1 ++ [rw_ [AV.int .i64 0]]).length by simp]; simp [Vh.rowAt, rw_]
  have hB12 := hB1.trans hB2
  clear hH2
  simp (disch := omega) only [sN, ↓reduceIte, Nat.reduceEqDiff, Nat.reduceAdd, Nat.reduceMul, Nat.reduceSub, reduceCtorEq, e_none, e_some, e_bindS, e0, e1, List.map_cons, List.map_nil]
  refine ⟨_, (checkSlots_calls H2 hk' hl' (by unfold maxLen; omega) (hB12.row hr') hc' rp rfl rq rfl).g.mono ?_⟩
  rintro v H3 ⟨rfl, hB3⟩
  have hB := hB12.trans hB3
  clear rp rq hB1 hB2 hB12 hB3
  obtain ⟨E1, hE1⟩ : ∃ e, e = pE L := ⟨_, rfl⟩
  obtain ⟨E2, hE2⟩ : ∃ e, e = gE l 0 m n := ⟨_, rfl⟩
  have hse : sE L l = fst0 [E1, E2] := by unfold sE; rw [hE1, hE2, hl, hl']
  rw [← hE1, ← hE2]
  simp (disch := omega) only [sN, ↓reduceIte, Nat.reduceEqDiff, Nat.reduceAdd, Nat.reduceMul, Nat.reduceSub, reduceCtorEq, e_none, e_some, e_bindS, e0, e1]
  rw [x_bs2 (v := .int .i64 E1) (u := .int .i64 E2) (by simp only [e_upd, e_putS, e_putN, e_t, e_c, Nat.reduceEqDiff, ↓reduceIte, reduceCtorEq, Nat.reduceAdd]) (by simp only [e_upd, e_putS, e_putN, e_t, e_c, Nat.reduceEqDiff, ↓reduceIte, reduceCtorEq, Nat.reduceAdd]) rfl rfl rfl]
  simp (disch := omega) only [sN, ↓reduceIte, Nat.reduceEqDiff, Nat.reduceAdd, Nat.reduceMul, Nat.reduceSub, reduceCtorEq, e_none, e_some, e_bindS, e0, e1, List.map_cons, List.map_nil]
  refine ⟨_, (firstError_calls (H3 ++ [rw_ [.int .i64 E1, .int .i64 E2]]) (n := 2) (r := H3.length) (l := [E1, E2]) (row := ⟨true, false, [.int .i64 E1, .int .i64 E2]⟩) rfl (by omega) (by simp [Vh.rowAt, rw_]) rfl).g.mono ?_⟩
  rintro v H4 ⟨rfl, hB4⟩
  have hB5 := hB.app.trans hB4
  clear hB hB4
  rw [← hse]
  obtain ⟨E, hEE⟩ : ∃ e, e = sE L l := ⟨_, rfl⟩
  rw [← hEE]
  by_cases hz : E = 0
  · have hfz : gE l 0 m n = 0 := by
      rw [← hE2]
      rw [hEE, hse] at hz
      by_cases h1 : E1 = 0
      · by_cases h2 : E2 = 0
        · exact h2
        · simp [fst0, h1, h2] at hz
      · simp [fst0, h1] at hz
    subst hz
    simp (disch := omega) only [sN, ↓reduceIte, Nat.reduceEqDiff, Nat.reduceAdd, Nat.reduceMul, Nat.reduceSub, reduceCtorEq, e_none, e_some, e_bindS, e0, e1, k_len hk']
    rw [x_makeB (n := n) (by simp only [e_upd, e_putS, e_putN, e_t, e_c, Nat.reduceEqDiff, ↓reduceIte, reduceCtorEq, Nat.reduceAdd]) (by omega) (by omega)]
    simp (disch := omega) only [sN, ↓reduceIte, Nat.reduceEqDiff, Nat.reduceAdd, Nat.reduceMul, Nat.reduceSub, reduceCtorEq, e_none, e_some, e_bindS, e0, e1, k_len hk']
    obtain ⟨q, hq⟩ : ∃ q, q = H4.length := ⟨_, rfl⟩
    have hq0 : H0.length ≤ q := by rw [hq]; exact hB5.1
    refine ⟨fun t s H => ∃ (i : Nat) (f : Nat → Bool), t = n - i ∧ i ≤ n ∧ Base H0 H ∧ (∀ j, j < i → f j = sntF L l j) ∧ Vh.rowAt H q = some ⟨true, false, bt n f⟩ ∧ s 0 = mkS κ r 0 m ∧ s 7 = .slice q 0 n n ∧ s 24 = mkS κ' r' 0 n ∧ s 25 = .int .i64 n ∧ s 26 = .int .i64 (i : Int), n, ⟨0, fun _ => false, rfl, by omega, hB5.app, fun j h => by omega, by rw [hq]; simp [Vh.rowAt, rw_], ?_, ?_, ?_, ?_, ?_⟩, ?_⟩
    · simp only [e_upd, e_putS, e_putN, e_t, e_c, Nat.reduceEqDiff, ↓reduceIte, reduceCtorEq, Nat.reduceAdd, e0]
    · simp only [e_upd, e_putS, e_putN, e_t, e_c, Nat.reduceEqDiff, ↓reduceIte, reduceCtorEq, Nat.reduceAdd, hq]
    · simp only [e_upd, e_putS, e_putN, e_t, e_c, Nat.reduceEqDiff, ↓reduceIte, reduceCtorEq, Nat.reduceAdd]
    · simp only [e_upd, e_putS, e_putN, e_t, e_c, Nat.reduceEqDiff, ↓reduceIte, reduceCtorEq, Nat.reduceAdd]
    · simp only [e_upd, e_putS, e_putN, e_t, e_c, Nat.reduceEqDiff, ↓reduceIte, reduceCtorEq, Nat.reduceAdd]; rfl
    clear hB5
    rintro t s H ⟨i, f, rfl, hi, hB, hf, hrq, h0, h7, h24, h25, h26⟩
    by_cases hlt : i < n
    · have hin := gE_ok hfz hlt
      have hgx : row'.cells[i]? = some (.int .i64 (l.getD i 0)) := by rw [hc']; exact ints_get (by omega)
      obtain ⟨x, hx⟩ : ∃ x, x = l.getD i 0 := ⟨_, rfl⟩
      have hsf : sntF L l i = (L.getD x.toNat default).bit := by rw [hx]; rfl
      rw [← hx] at hin hgx
      have hrH := hB.row hr
      have hrH' := hB.row hr'
      have g2 := pulse_get (L := L) (i := x.toNat) (j := 1) (by omega) (by omega)
      obtain ⟨p, hp⟩ : ∃ p, p = L.getD x.toNat default := ⟨_, rfl⟩
      rw [← hp] at g2 hsf
      rw [← hc] at g2
      have g2' : row.cells[x.toNat * 5 + 1]? = some (.bool p.bit) := g2
      obtain ⟨y, hy⟩ : ∃ y, y = p.bit := ⟨_, rfl⟩
      rw [← hy] at g2' hsf
      have ia : aindexAddr 1 (mkS κ' r' 0 n) (.int .i64 (i : Int)) = some (.ptr r' i) := by
        rw [k_idx hk' (Nat.le_refl n) (by omega) (by omega)]; simp
      have ib : aindexAddr 5 (mkS κ r 0 m) (.int .i64 x) = some (.ptr r (x.toNat * 5)) := by
        rw [k_idx5 hk (Nat.le_refl m) (by omega) (by omega)]; simp
      have ic : aindexAddr 1 (.slice q 0 n n) (.int .i64 (i : Int)) = some (.ptr q i) := by
        rw [a_idx (by omega) (by omega)]; simp
      simp (disch := omega) only [sN, ↓reduceIte, Nat.reduceEqDiff, Nat.reduceAdd, Nat.reduceMul, Nat.reduceSub, reduceCtorEq, e_none, e_some, e_bindS, h0, h7, h24, h25, h26, ia, ib, ic, hrH', hgx, hrH, p_fieldAddr, g2', Option.bind_some, Option.map_some]
      rw [x_putB (r := q) (off := i) (b := y) (n := n) (f := f) (by simp only [e_upd, e_putS, e_putN, e_t, e_c, Nat.reduceEqDiff, ↓reduceIte, reduceCtorEq, Nat.reduceAdd]) (by simp only [e_upd, e_putS, e_putN, e_t, e_c, Nat.reduceEqDiff, ↓reduceIte, reduceCtorEq, Nat.reduceAdd]) hrq hlt]
      simp (disch := omega) only [sN, ↓reduceIte, Nat.reduceEqDiff, Nat.reduceAdd, Nat.reduceMul, Nat.reduceSub, reduceCtorEq, e_none, e_some, e_bindS, h0, h7, h24, h25, h26]
      refine loop_keep (m := n - (i + 1)) (by omega) ⟨i + 1, fun j => if j = i then y else f j, rfl, by omega, hB.set hq0, fun j hj => ?_, ?_, ?_, ?_, ?_, ?_, ?_⟩
      · show (if j = i then y else f j) = _
        by_cases hji : j = i
        · rw [if_pos hji, hji, hsf]
        · rw [if_neg hji]; exact hf j (by omega)
      · rw [row_set0 (rowAt_lt hrq)]; rfl
      · simp only [e_upd, e_putS, e_putN, e_t, e_c, Nat.reduceEqDiff, ↓reduceIte, reduceCtorEq, Nat.reduceAdd, h0]
      · simp only [e_upd, e_putS, e_putN, e_t, e_c, Nat.reduceEqDiff, ↓reduceIte, reduceCtorEq, Nat.reduceAdd, h7]
      · simp only [e_upd, e_putS, e_putN, e_t, e_c, Nat.reduceEqDiff, ↓reduceIte, reduceCtorEq, Nat.reduceAdd, h24]
      · simp only [e_upd, e_putS, e_putN, e_t, e_c, Nat.reduceEqDiff, ↓reduceIte, reduceCtorEq, Nat.reduceAdd, h25]
      · simp only [e_upd, e_putS, e_putN, e_t, e_c, Nat.reduceEqDiff, ↓reduceIte, reduceCtorEq, Nat.reduceAdd]; first | done | rfl
    · obtain rfl : i = n := by omega
      simp (disch := omega) only [sN, ↓reduceIte, Nat.reduceEqDiff, Nat.reduceAdd, Nat.reduceMul, Nat.reduceSub, reduceCtorEq, e_none, e_some, e_bindS, h7, h25, h26]
      refine ret_keep hB.1 ?_
      rw [show rs_sent = [.tmp 4, .tmp 5] from rfl, q_tmp2, q_then]
      refine ⟨.slice q 0 i i, ?_, hB, .inl ⟨trivial, q, rfl, hq0, ?_⟩⟩
      · simp only [e_upd, e_putS, e_putN, e_t, e_c, Nat.reduceEqDiff, ↓reduceIte, reduceCtorEq, Nat.reduceAdd]
      · rw [hrq, bt_congr hf]
  · simp (disch := omega) only [sN, ↓reduceIte, Nat.reduceEqDiff, Nat.reduceAdd, Nat.reduceMul, Nat.reduceSub, reduceCtorEq, e_none, e_some, e_bindS, e0, e1]
    refine ret_keep hB5.1 ?_
    rw [show rs_sent = [.tmp 4, .tmp 5] from rfl, q_tmp2, q_then]
    refine ⟨.nilslice, ?_, hB5, .inr ⟨hz, rfl⟩⟩
    simp only [e_upd, e_putS, e_putN, e_t, e_c, Nat.reduceEqDiff, ↓reduceIte, reduceCtorEq, Nat.reduceAdd]
end Go.Proofs.Ythbhljolpnbdlaa

