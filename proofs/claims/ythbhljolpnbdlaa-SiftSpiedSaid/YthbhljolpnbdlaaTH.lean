/- Contracts of stage 4: the reference's slots of a class; the sender's bits. -/
import Derived.Test.YthbhljolpnbdlaaVX
import Derived.Test.YthbhljolpnbdlaaTG
set_option linter.unusedSimpArgs false
set_option linter.unusedVariables false
-- NEWSET
namespace Go.Proofs.Ythbhljolpnbdlaa
open Go Go.Vh

/-- truths that were appended one by one -/
def bools (xs : List Bool) : List AV := xs.map AV.bool
def Gb (H0 H : AHeap) (v : AV) (xs : List Bool) : Prop := (xs = [] ∧ v = .nilslice) ∨ ∃ q, 0 < xs.length ∧ v = .sliceU q 0 xs.length 1 ∧ H0.length ≤ q ∧ Vh.rowAt H q = some ⟨true, true, bools xs⟩
theorem Gb.base {H0 H H' : AHeap} {v : AV} {l : List Bool} (h : Gb H0 H v l) (hb : Base H H') : Gb H0 H' v l := by
  rcases h with h | ⟨q, h1, h2, h3, h4⟩
  · exact .inl h
  · exact .inr ⟨q, h1, h2, h3, hb.row h4⟩
theorem x_appGb {H0 H : AHeap} {v : AV} {xs : List Bool} {a : Bool} {r c : Nat} {row : ARow} (hv : Gb H0 H v xs) (hr : Vh.rowAt H r = some row) (hc : row.cells = [.bool a]) (hn : xs.length ≤ 100000) (hb : Base H0 H) :
    ∃ v' H', (∀ (s : St) (x y : Opd), evo s x = v → evo s y = .slice r 0 1 c → ieff (.append 1 1 x y) s H = some (v', H')) ∧ Gb H0 H' v' (xs ++ [a]) ∧ Base H0 H' := by
  rcases hv with ⟨rfl, rfl⟩ | ⟨q, h1, rfl, h4, h5⟩
  · refine ⟨.sliceU H.length 0 1 1, H ++ [sl [.bool a]], fun s x y hx hy => ?_, .inr ⟨H.length, by simp, rfl, hb.1, by simp [Vh.rowAt, sl, bools]⟩, hb.app⟩
    exact x_appN hx hy hr (by rw [hc]; rfl) (by rw [hc]; simp) (by omega) rfl
  · refine ⟨.sliceU H.length 0 (xs.length + 1) 1, H.set q none ++ [sl (bools (xs ++ [a]))], fun s x y hx hy => ?_, .inr ⟨H.length, by simp, by simp, hb.1, ?_⟩, (hb.set h4).app⟩
    · have := x_appU (bytes := 1) (xs := [.bool a]) hx hy h5 (by simp [bools]) hr (by rw [hc]; rfl) (by rw [hc]; simp) (by omega) rfl
      rw [this]
      simp [bools]
    · rw [row_new]; rfl

/-- the sender's bits -/
def sntL (L : List Pul) (l : List Int) : Nat → List Bool
  | 0 => []
  | i + 1 => sntL L l i ++ [(L.getD (l.getD i 0).toNat default).bit]
theorem sntL_len {L : List Pul} {l : List Int} : ∀ n, (sntL L l n).length = n
  | 0 => rfl
  | n + 1 => by simp [sntL, sntL_len n]
end Go.Proofs.Ythbhljolpnbdlaa


/- Contracts of stage 4: the sender's bits. -/
-- NEWSET
namespace Go.Proofs.Ythbhljolpnbdlaa
open Go Go.Vh

def sE (L : List Pul) (l : List Int) : Int := fst0 [pE L, gE l 0 L.length l.length]
def sL (L : List Pul) (l : List Int) : List Bool := if sE L l = 0 then sntL L l l.length else []

set_option maxHeartbeats 4000000 in
theorem rSent_calls (H0 : AHeap) {κ κ' : SK} {n m r r' : Nat} {L : List Pul} {l : List Int} {row row' : ARow} (hk : okS κ m) (hl : L.length = m) (hm : m ≤ maxLen) (hr : Vh.rowAt H0 r = some row) (hc : row.cells = pcells L)
    (hk' : okS κ' n) (hl' : l.length = n) (hn : n ≤ 400) (hr' : Vh.rowAt H0 r' = some row') (hc' : row'.cells = ints .i64 l) :
    ACalls Try.prog 27 [mkS κ r 0 m, mkS κ' r' 0 n] H0 (List.range H0.length) fun v H => ∃ w, v = .tuple [w, .int .i64 (sE L l)] ∧ Base H0 H ∧ Gb H0 H w (sL L l) := by
  refine ACalls.body Try.func27 ent_rSent ir_rSent_ok rs_rSent_ok Try.ntmps27 (by simp) rfl ?_
  unfold ir_rSent
  have e0 : s0 [mkS κ r 0 m, mkS κ' r' 0 n] 0 = mkS κ r 0 m := rfl
  have e1 : s0 [mkS κ r 0 m, mkS κ' r' 0 n] 1 = mkS κ' r' 0 n := rfl
  have fin : ∀ (E : Int), E ≠ 0 → sE L l = E → ∃ w, AV.tuple [.nilslice, .int .i64 E] = .tuple [w, .int .i64 (sE L l)] ∧ Base H0 H0 ∧ Gb H0 H0 w (sL L l) := fun E hE he => by
    refine ⟨.nilslice, by rw [he], Base.refl, .inl ⟨?_, rfl⟩⟩
    unfold sL; rw [if_neg (by rw [he]; exact hE)]
  simp (disch := omega) only [sN, ↓reduceIte, Nat.reduceEqDiff, Nat.reduceAdd, Nat.reduceMul, Nat.reduceSub, reduceCtorEq, e_none, e_some, e_bindS, e0, e1, List.map_cons, List.map_nil]
  refine ⟨_, (rPulses_calls H0 hk hl hm hr hc).g.mono ?_⟩
  rintro v H1 ⟨rfl, hH⟩
  rw [hH]
  obtain ⟨E1, hE1⟩ : ∃ e, e = pE L := ⟨_, rfl⟩
  rw [← hE1]
  by_cases hz1 : E1 = 0
  · rw [hz1] at hE1 ⊢
    have hm4 := pE_zero hE1.symm
    have hse : sE L l = gE l 0 m n := by
      unfold sE; rw [← hE1, hl, hl']; simp [fst0]
      intro h; exact h.symm
    simp (disch := omega) only [sN, ↓reduceIte, Nat.reduceEqDiff, Nat.reduceAdd, Nat.reduceMul, Nat.reduceSub, reduceCtorEq, e_none, e_some, e_bindS, e0, e1, k_len hk, List.map_cons, List.map_nil]
    refine ⟨_, (rSlots_calls H0 (b := (m : Int)) hk' hl' (by unfold maxLen; omega) hr' hc' (by omega)).g.mono ?_⟩
    rintro v H1 ⟨rfl, hH⟩
    rw [hH]
    obtain ⟨E, hEE⟩ : ∃ e, e = gE l 0 m n := ⟨_, rfl⟩
    rw [← hEE] at hse ⊢
    by_cases hz2 : E = 0
    · have hfz : gE l 0 m n = 0 := by rw [← hEE]; exact hz2
      rw [hz2] at hse
      subst hz2
      simp (disch := omega) only [sN, ↓reduceIte, Nat.reduceEqDiff, Nat.reduceAdd, Nat.reduceMul, Nat.reduceSub, reduceCtorEq, e_none, e_some, e_bindS, e0, e1]
      refine ⟨fun t s H => ∃ i : Nat, t = n - i ∧ i ≤ n ∧ Base H0 H ∧ Gb H0 H (s 6) (sntL L l i) ∧ s 0 = mkS κ r 0 m ∧ s 1 = mkS κ' r' 0 n ∧ s 7 = .int .i64 (i : Int), n, ⟨0, rfl, by omega, Base.refl, .inl ⟨rfl, ?_⟩, ?_, ?_, ?_⟩, ?_⟩
      · simp only [e_upd, e_putS, e_putN, e_t, e_c, Nat.reduceEqDiff, ↓reduceIte, reduceCtorEq, Nat.reduceAdd]
      · simp only [e_upd, e_putS, e_putN, e_t, e_c, Nat.reduceEqDiff, ↓reduceIte, reduceCtorEq, Nat.reduceAdd, e0]
      · simp only [e_upd, e_putS, e_putN, e_t, e_c, Nat.reduceEqDiff, ↓reduceIte, reduceCtorEq, Nat.reduceAdd, e1]
      · simp only [e_upd, e_putS, e_putN, e_t, e_c, Nat.reduceEqDiff, ↓reduceIte, reduceCtorEq, Nat.reduceAdd]; rfl
      rintro t s H ⟨i, rfl, hi, hB, hg, h0, h1, h7⟩
      by_cases hlt : i < n
      · have hin := gE_ok hfz hlt
        have hgx : row'.cells[i]? = some (.int .i64 (l.getD i 0)) := by rw [hc']; exact ints_get (by omega)
        obtain ⟨x, hx⟩ : ∃ x, x = l.getD i 0 := ⟨_, rfl⟩
        have hst : sntL L l (i + 1) = sntL L l i ++ [(L.getD x.toNat default).bit] := by rw [hx]; rfl
        rw [← hx] at hin hgx
        have hrH := hB.row hr
        have hrH' := hB.row hr'
        have g2 := pulse_get (L := L) (i := x.toNat) (j := 1) (by omega) (by omega)
        obtain ⟨p, hp⟩ : ∃ p, p = L.getD x.toNat default := ⟨_, rfl⟩
        rw [← hp] at g2 hst
        rw [← hc] at g2
        have g2' : row.cells[x.toNat * 5 + 1]? = some (.bool p.bit) := g2
        obtain ⟨y, hy⟩ : ∃ y, y = p.bit := ⟨_, rfl⟩
        rw [← hy] at g2' hst
        have ia : aindexAddr 1 (mkS κ' r' 0 n) (.int .i64 (i : Int)) = some (.ptr r' i) := by
          rw [k_idx hk' (Nat.le_refl n) (by omega) (by omega)]; simp
        have ib : aindexAddr 5 (mkS κ r 0 m) (.int .i64 x) = some (.ptr r (x.toNat * 5)) := by
          rw [k_idx5 hk (Nat.le_refl m) (by omega) (by omega)]; simp
        obtain ⟨v', H'', ea, eg, eb⟩ := x_appGb (H0 := H0) (H := H ++ [rw_ [.bool y]]) (a := y) (r := H.length) (c := 1) (row := ⟨true, false, [.bool y]⟩) (hg.base Base.one) (by simp [Vh.rowAt, rw_]) rfl (by rw [sntL_len]; omega) hB.app
        simp (disch := omega) only [sN, ↓reduceIte, Nat.reduceEqDiff, Nat.reduceAdd, Nat.reduceMul, Nat.reduceSub, reduceCtorEq, e_none, e_some, e_bindS, h0, h1, h7, k_len hk', ia, ib, hrH', hgx, hrH, p_fieldAddr, g2', Option.bind_some, Option.map_some]
        rw [x_bs1 (v := .bool y) (by simp only [e_upd, e_putS, e_putN, e_t, e_c, Nat.reduceEqDiff, ↓reduceIte, reduceCtorEq, Nat.reduceAdd]) rfl]
        simp (disch := omega) only [sN, ↓reduceIte, Nat.reduceEqDiff, Nat.reduceAdd, Nat.reduceMul, Nat.reduceSub, reduceCtorEq, e_none, e_some, e_bindS, h0, h1, h7]
        rw [ea _ _ _ (by simp only [e_upd, e_putS, e_putN, e_t, e_c, Nat.reduceEqDiff, ↓reduceIte, reduceCtorEq, Nat.reduceAdd]) (by simp only [e_upd, e_putS, e_putN, e_t, e_c, Nat.reduceEqDiff, ↓reduceIte, reduceCtorEq, Nat.reduceAdd])]
        simp (disch := omega) only [sN, ↓reduceIte, Nat.reduceEqDiff, Nat.reduceAdd, Nat.reduceMul, Nat.reduceSub, reduceCtorEq, e_none, e_some, e_bindS, h0, h1, h7]
        refine loop_keep (m := n - (i + 1)) (by omega) ⟨i + 1, rfl, by omega, eb, ?_, ?_, ?_, ?_⟩
        · rw [hst]; simp only [e_upd, e_putS, e_putN, e_t, e_c, Nat.reduceEqDiff, ↓reduceIte, reduceCtorEq, Nat.reduceAdd]; exact eg
        · simp only [e_upd, e_putS, e_putN, e_t, e_c, Nat.reduceEqDiff, ↓reduceIte, reduceCtorEq, Nat.reduceAdd, h0]
        · simp only [e_upd, e_putS, e_putN, e_t, e_c, Nat.reduceEqDiff, ↓reduceIte, reduceCtorEq, Nat.reduceAdd, h1]
        · simp only [e_upd, e_putS, e_putN, e_t, e_c, Nat.reduceEqDiff, ↓reduceIte, reduceCtorEq, Nat.reduceAdd]; first | done | rfl
      · obtain rfl : i = n := by omega
        simp (disch := omega) only [sN, ↓reduceIte, Nat.reduceEqDiff, Nat.reduceAdd, Nat.reduceMul, Nat.reduceSub, reduceCtorEq, e_none, e_some, e_bindS, h0, h1, h7, k_len hk']
        refine ret_keep hB.1 ?_
        rw [show rs_rSent = [.tmp 4, .tmp 5] from rfl, q_tmp2, q_then]
        refine ⟨s 6, ?_, hB, ?_⟩
        · rw [hse]; simp only [e_upd, e_putS, e_putN, e_t, e_c, Nat.reduceEqDiff, ↓reduceIte, reduceCtorEq, Nat.reduceAdd]
        · unfold sL; rw [if_pos hse, hl']; exact hg
    · simp (disch := omega) only [sN, ↓reduceIte, Nat.reduceEqDiff, Nat.reduceAdd, Nat.reduceMul, Nat.reduceSub, reduceCtorEq, e_none, e_some, e_bindS, e0, e1, k_len hk, List.map_cons, List.map_nil]
      refine ⟨_, (rSlots_calls H0 (b := (m : Int)) hk' hl' (by unfold maxLen; omega) hr' hc' (by omega)).g.mono ?_⟩
      rintro v H1 ⟨rfl, hH⟩
      rw [hH, ← hEE]
      simp (disch := omega) only [sN, ↓reduceIte, Nat.reduceEqDiff, Nat.reduceAdd, Nat.reduceMul, Nat.reduceSub, reduceCtorEq, e_none, e_some, e_bindS, e0, e1]
      refine ret_keep (by simp) ?_
      rw [show rs_rSent = [.tmp 4, .tmp 5] from rfl, q_tmp2, q_then]
      simp only [e_upd, e_putS, e_putN, e_t, e_c, Nat.reduceEqDiff, ↓reduceIte, reduceCtorEq, Nat.reduceAdd]
      exact fin E hz2 hse
  · simp (disch := omega) only [sN, ↓reduceIte, Nat.reduceEqDiff, Nat.reduceAdd, Nat.reduceMul, Nat.reduceSub, reduceCtorEq, e_none, e_some, e_bindS, e0, e1, List.map_cons, List.map_nil]
    refine ⟨_, (rPulses_calls H0 hk hl hm hr hc).g.mono ?_⟩
    rintro v H1 ⟨rfl, hH⟩
    rw [hH, ← hE1]
    simp (disch := omega) only [sN, ↓reduceIte, Nat.reduceEqDiff, Nat.reduceAdd, Nat.reduceMul, Nat.reduceSub, reduceCtorEq, e_none, e_some, e_bindS, e0, e1]
    refine ret_keep (by simp) ?_
    rw [show rs_rSent = [.tmp 4, .tmp 5] from rfl, q_tmp2, q_then]
    simp only [e_upd, e_putS, e_putN, e_t, e_c, Nat.reduceEqDiff, ↓reduceIte, reduceCtorEq, Nat.reduceAdd]
    exact fin E1 hz1 (by unfold sE; rw [← hE1]; simp [fst0, hz1])
end Go.Proofs.Ythbhljolpnbdlaa


/- Contracts of stage 4: sift's bits of the sender. -/
-- NEWSET
namespace Go.Proofs.Ythbhljolpnbdlaa
open Go Go.Vh

end Go.Proofs.Ythbhljolpnbdlaa

