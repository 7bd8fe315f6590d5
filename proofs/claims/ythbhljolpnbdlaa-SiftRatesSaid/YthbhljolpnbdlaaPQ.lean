/- Contracts: the reference's Bound. -/
import Derived.Test.YthbhljolpnbdlaaVX
import Derived.Test.YthbhljolpnbdlaaPP
import Derived.Test.YthbhljolpnbdlaaPH
import Derived.Test.YthbhljolpnbdlaaV8
import Derived.Test.YthbhljolpnbdlaaChecked
import Derived.Test.YthbhljolpnbdlaaVY
import Derived.Test.YthbhljolpnbdlaaPG
import Derived.Test.YthbhljolpnbdlaaPN
set_option linter.unusedSimpArgs false
set_option linter.unusedVariables false
-- NEWSET
namespace Go.Proofs.Ythbhljolpnbdlaa.S1
open Go Go.Vh

theorem AtO.frame {H H' : AHeap} {v : AV} {n r : Nat} (h : AtO H' v n r) : AtD (H ++ H'.map (renRow (sig [] H.length))) (v.ren (sig [] H.length)) n (H.length + r) := by
  obtain ⟨⟨κ, row, h1, rfl, h3, h4⟩, row', h5, h6⟩ := h
  rw [h3] at h5; cases h5
  have hr : H'[r]? = some (some row) := by
    unfold Vh.rowAt at h3
    cases hq : H'[r]? with
    | none => rw [hq] at h3; simp at h3
    | some z => rw [hq] at h3; simp at h3; rw [h3]
  refine ⟨κ, ⟨true, row.slack, renL (sig [] H.length) row.cells⟩, h1, ?_, ?_, ?_⟩
  · rw [n_mkS0 (r' := H.length + r) (by simp [sig])]
  · unfold Vh.rowAt
    rw [List.getElem?_append_right (by omega), Nat.add_sub_cancel_left, List.getElem?_map, hr]
    simp [renRow, h6]
  · show (renL _ row.cells).take _ = _
    rw [renL_take, h4, flatL_ren ints_flat]

section
variable {K : St → AHeap → Prop} {d : Option Nat} {s : St} {H : AHeap}
theorem call_ways0 {b g k : Nat} {seen : Int} (hbg : b + g ≤ 512) (hk : k ≤ b + g) (hs0 : -9223372036854775808 ≤ seen) (hs1 : seen ≤ 9223372036854775807) (hK : ∀ R v r, AtD (H ++ R) v (wN b g k seen) r → K (putI d s v) (H ++ R)) :
    thenC0 Try.prog K d s H [.int .i64 ((b + g : Nat) : Int), .int .i64 (b : Int), .int .i64 (k : Int), .int .i64 seen] (.func 121 []) := by
  refine call_do0 (rwaysO_calls [] b g k seen hbg hk hs0 hs1) [] rfl rfl rfl rfl rfl trivial fun v0 H0' ⟨_, r, hq⟩ => ?_
  rw [m_merge, m_nil]
  exact hK _ _ _ hq.frame
theorem call_digV0 {x : Int} {n : Nat} {w : AV} (hu : AtX H w x n) (hn : n ≤ 100000) (hK : ∀ R v r, AtD (H ++ R) v x.toNat r → v.cell = true → K (putI d s v) (H ++ R)) : thenC0 Try.prog K d s H [w] (.func 118 []) := by
  obtain ⟨κ, l, row, r, h1, rfl, h3, h4, h5, rfl, rfl⟩ := hu
  have hlen := digs_length l
  have htr := Dg.trim_dg (dl_digs h5)
  rw [num_digs h5, hlen, ← tz_dg] at htr
  have hle := tz_le (digs l) (4 * l.length)
  have hll : tz (digs l) (4 * l.length) = (Dg.dg (num l).toNat).length := by
    have := congrArg List.length htr
    rw [List.length_take, hlen] at this
    omega
  refine call_do0 (rdigits_calls κ l h1 (by omega) h5) [(r, 0)] rfl ?_ rfl rfl ?_ ⟨seen_limbs h3 h4, trivial⟩ ?_
  · simp [underL, mkS_under]
  · rw [n_lcons, n_mkS0 (r' := r) rfl]; rfl
  rintro v0 H0' ⟨rfl, rfl⟩
  rw [m_merge, m_ro, m_nil]
  by_cases hl : l = []
  · subst hl
    have := hK [] .nilslice r (by rw [List.append_nil]; exact AtD.zero h3) rfl
    rw [List.append_nil] at this
    rw [show ((digH []).drop [ro (ints .u32 [])].length) = [] from rfl, List.map_nil, List.append_nil]
    exact this
  · have hk : digK l = .u := by rw [digK, if_neg hl]
    have hh : (digH l).drop [ro (ints .u32 l)].length = [sl (ints .i64 (digs l))] := by rw [digH, if_neg hl]; rfl
    rw [hk, hh, hll, n_mkS0 (r' := H.length) (by simp [sig]), List.map_cons, List.map_nil, show renRow (sig [(r, 0)] H.length) (sl (ints .i64 (digs l))) = sl (ints .i64 (digs l)) from flat_row ints_flat rfl]
    refine hK [sl (ints .i64 (digs l))] _ H.length ⟨.u, ⟨true, true, ints .i64 (digs l)⟩, okS_u, rfl, by simp [Vh.rowAt, sl], ?_⟩ mkS_cell
    rw [ints_take, ← hll, htr]
end
theorem AtX.dgl {H : AHeap} {w : AV} {x : Int} {n : Nat} (h : AtX H w x n) : 0 ≤ x ∧ (Dg.dg x.toNat).length ≤ 4 * n := by
  obtain ⟨r, hk⟩ := h.k (Nat.le_refl n)
  have h0 := hk.nonneg
  exact ⟨h0, dg_fits.2 (by rw [Int.toNat_of_nonneg h0]; exact hk.lt_pow)⟩
theorem dg_mul_len {x y a b : Nat} (hx : (Dg.dg x).length ≤ 4 * a) (hy : (Dg.dg y).length ≤ 4 * b) : (Dg.dg (x * y)).length ≤ 4 * (a + b) := by
  rw [dg_fits] at *
  rw [Int.natCast_mul]
  exact mul_pow (by omega) (by omega) hx hy

set_option maxHeartbeats 1000000 in
theorem rBound_calls (H0 : AHeap) {q : Fr} (hq : q.ok H0) (total sample seen : Int) (h0 : -9223372036854775808 ≤ total ∧ total ≤ 9223372036854775807) (h1 : -9223372036854775808 ≤ sample ∧ sample ≤ 9223372036854775807) (h2 : -9223372036854775808 ≤ seen ∧ seen ≤ 9223372036854775807) :
    ACalls Try.prog 76 [.int .i64 total, .int .i64 sample, .int .i64 seen, .agg [q.w, q.w2]] H0 (List.range H0.length) fun v H => v = .tuple [.int .i64 (bdV q total sample seen), .int .i64 (bdE q total sample seen)] ∧ Base H0 H := by
  refine ACalls.body Try.func76 ent_rBound ir_rBound_ok rs_rBound_ok Try.ntmps76 (by simp) rfl ?_
  unfold ir_rBound
  have e0 : s0 [.int .i64 total, .int .i64 sample, .int .i64 seen, .agg [q.w, q.w2]] 0 = .int .i64 total := rfl
  have e1 : s0 [.int .i64 total, .int .i64 sample, .int .i64 seen, .agg [q.w, q.w2]] 1 = .int .i64 sample := rfl
  have e2 : s0 [.int .i64 total, .int .i64 sample, .int .i64 seen, .agg [q.w, q.w2]] 2 = .int .i64 seen := rfl
  have e3 : s0 [.int .i64 total, .int .i64 sample, .int .i64 seen, .agg [q.w, q.w2]] 3 = .agg [q.w, q.w2] := rfl
  simp (disch := omega) only [sN, ↓reduceIte, Nat.reduceEqDiff, Nat.reduceAdd, Nat.reduceMul, Nat.reduceSub, reduceCtorEq, e_none, e_some, e_bindS, e0, e1, e2, e3]
  rw [x_boxN (l := [q.w, q.w2]) (by simp only [e_upd, e_putS, e_putN, e_t, e_c, Nat.reduceEqDiff, ↓reduceIte, reduceCtorEq, Nat.reduceAdd, e3]) (by simp [hq.1.cell, hq.2.1.cell])]
  obtain ⟨H1, hH1⟩ : ∃ h, h = H0 ++ [rw_ [q.w, q.w2]] := ⟨_, rfl⟩
  have r7 : Vh.rowAt H1 H0.length = some ⟨true, false, [q.w, q.w2]⟩ := by rw [hH1]; simp [Vh.rowAt, rw_]
  have hB1 : Base H0 H1 := by rw [hH1]; exact Base.one
  rw [← hH1]
  simp (disch := omega) only [sN, ↓reduceIte, Nat.reduceEqDiff, Nat.reduceAdd, Nat.reduceMul, Nat.reduceSub, reduceCtorEq, e_none, e_some, e_bindS]
  rw [x_loadNA (n := 2) (r := H0.length) (l := [q.w, q.w2]) (by simp only [e_upd, e_putS, e_putN, e_t, e_c, Nat.reduceEqDiff, ↓reduceIte, reduceCtorEq, Nat.reduceAdd]) r7 rfl rfl]
  simp (disch := omega) only [sN, ↓reduceIte, Nat.reduceEqDiff, Nat.reduceAdd, Nat.reduceMul, Nat.reduceSub, reduceCtorEq, e_none, e_some, e_bindS, List.map_cons, List.map_nil]
  refine ⟨_, (rCheckFrac_calls H1 (hq.base hB1)).g.mono ?_⟩
  rintro v H ⟨rfl, hB2⟩
  have hBH := hB1.trans hB2
  have q7 := hB2.row r7
  have hqH := hq.base hBH
  clear r7 hB2 hH1
  by_cases he : cfE [q] = 0
  case neg =>
    have hE : bdE q total sample seen = cfE [q] := by unfold bdE; rw [if_neg he]
    have hV : bdV q total sample seen = 0 := by unfold bdV; rw [if_neg (by rw [hE]; exact he)]
    rw [hE, hV]
    simp (disch := omega) only [sN, ↓reduceIte, Nat.reduceEqDiff, Nat.reduceAdd, Nat.reduceMul, Nat.reduceSub, reduceCtorEq, e_none, e_some, e_bindS, e0, e1, e2]
    refine ret_keep hBH.1 ?_
    rw [rs_rBound, q_tmp2, q_then]
    refine ⟨?_, hBH⟩
    simp only [e_upd, e_putS, e_putN, e_t, e_c, Nat.reduceEqDiff, ↓reduceIte, reduceCtorEq, Nat.reduceAdd]
  case pos =>
  obtain ⟨l1, l2, l3⟩ := cfE1_short he
  rw [he]
  have hbad : ¬ bdOK total sample seen → bdE q total sample seen = 3 ∧ bdV q total sample seen = 0 := fun hok => by
    have hE : bdE q total sample seen = 3 := by unfold bdE; rw [if_pos he, if_neg hok]
    exact ⟨hE, by unfold bdV; rw [if_neg (by rw [hE]; decide)]⟩
  by_cases c0 : 0 ≤ total
  case neg =>
    obtain ⟨hE, hV⟩ := hbad (fun h => by obtain ⟨g0, g1, g2, g3, g4, g5⟩ := h; omega)
    rw [hE, hV]
    simp (disch := omega) only [sN, ↓reduceIte, Nat.reduceEqDiff, Nat.reduceAdd, Nat.reduceMul, Nat.reduceSub, reduceCtorEq, e_none, e_some, e_bindS, e0, e1, e2]
    refine ret_keep hBH.1 ?_
    rw [rs_rBound, q_tmp2, q_then]
    refine ⟨?_, hBH⟩
    simp only [e_upd, e_putS, e_putN, e_t, e_c, Nat.reduceEqDiff, ↓reduceIte, reduceCtorEq, Nat.reduceAdd]
  case pos =>
  by_cases c1' : total ≤ 512
  case neg =>
    obtain ⟨hE, hV⟩ := hbad (fun h => by obtain ⟨g0, g1, g2, g3, g4, g5⟩ := h; omega)
    rw [hE, hV]
    simp (disch := omega) only [sN, ↓reduceIte, Nat.reduceEqDiff, Nat.reduceAdd, Nat.reduceMul, Nat.reduceSub, reduceCtorEq, e_none, e_some, e_bindS, e0, e1, e2]
    refine ret_keep hBH.1 ?_
    rw [rs_rBound, q_tmp2, q_then]
    refine ⟨?_, hBH⟩
    simp only [e_upd, e_putS, e_putN, e_t, e_c, Nat.reduceEqDiff, ↓reduceIte, reduceCtorEq, Nat.reduceAdd]
  case pos =>
  by_cases c2' : 0 ≤ sample
  case neg =>
    obtain ⟨hE, hV⟩ := hbad (fun h => by obtain ⟨g0, g1, g2, g3, g4, g5⟩ := h; omega)
    rw [hE, hV]
    simp (disch := omega) only [sN, ↓reduceIte, Nat.reduceEqDiff, Nat.reduceAdd, Nat.reduceMul, Nat.reduceSub, reduceCtorEq, e_none, e_some, e_bindS, e0, e1, e2]
    refine ret_keep hBH.1 ?_
    rw [rs_rBound, q_tmp2, q_then]
    refine ⟨?_, hBH⟩
    simp only [e_upd, e_putS, e_putN, e_t, e_c, Nat.reduceEqDiff, ↓reduceIte, reduceCtorEq, Nat.reduceAdd]
  case pos =>
  by_cases c3 : sample ≤ total
  case neg =>
    obtain ⟨hE, hV⟩ := hbad (fun h => by obtain ⟨g0, g1, g2, g3, g4, g5⟩ := h; omega)
    rw [hE, hV]
    simp (disch := omega) only [sN, ↓reduceIte, Nat.reduceEqDiff, Nat.reduceAdd, Nat.reduceMul, Nat.reduceSub, reduceCtorEq, e_none, e_some, e_bindS, e0, e1, e2]
    refine ret_keep hBH.1 ?_
    rw [rs_rBound, q_tmp2, q_then]
    refine ⟨?_, hBH⟩
    simp only [e_upd, e_putS, e_putN, e_t, e_c, Nat.reduceEqDiff, ↓reduceIte, reduceCtorEq, Nat.reduceAdd]
  case pos =>
  by_cases c4 : 0 ≤ seen
  case neg =>
    obtain ⟨hE, hV⟩ := hbad (fun h => by obtain ⟨g0, g1, g2, g3, g4, g5⟩ := h; omega)
    rw [hE, hV]
    simp (disch := omega) only [sN, ↓reduceIte, Nat.reduceEqDiff, Nat.reduceAdd, Nat.reduceMul, Nat.reduceSub, reduceCtorEq, e_none, e_some, e_bindS, e0, e1, e2]
    refine ret_keep hBH.1 ?_
    rw [rs_rBound, q_tmp2, q_then]
    refine ⟨?_, hBH⟩
    simp only [e_upd, e_putS, e_putN, e_t, e_c, Nat.reduceEqDiff, ↓reduceIte, reduceCtorEq, Nat.reduceAdd]
  case pos =>
  by_cases c5 : seen ≤ sample
  case neg =>
    obtain ⟨hE, hV⟩ := hbad (fun h => by obtain ⟨g0, g1, g2, g3, g4, g5⟩ := h; omega)
    rw [hE, hV]
    simp (disch := omega) only [sN, ↓reduceIte, Nat.reduceEqDiff, Nat.reduceAdd, Nat.reduceMul, Nat.reduceSub, reduceCtorEq, e_none, e_some, e_bindS, e0, e1, e2]
    refine ret_keep hBH.1 ?_
    rw [rs_rBound, q_tmp2, q_then]
    refine ⟨?_, hBH⟩
    simp only [e_upd, e_putS, e_putN, e_t, e_c, Nat.reduceEqDiff, ↓reduceIte, reduceCtorEq, Nat.reduceAdd]
  case pos =>
  clear hbad
  obtain ⟨x0, xl⟩ := hqH.1.dgl
  obtain ⟨y0, yl⟩ := hqH.2.1.dgl
  simp (disch := omega) only [sN, ↓reduceIte, Nat.reduceEqDiff, Nat.reduceAdd, Nat.reduceMul, Nat.reduceSub, reduceCtorEq, e_none, e_some, e_bindS, e0, e1, e2, q7, p_fieldAddr, Nat.zero_add, Option.bind_some, Option.map_some, List.getElem?_cons_zero, List.getElem?_cons_succ, List.map_cons, List.map_nil]
  refine call_digV0 hqH.1 (by have := (cfE1_short he).1; omega) fun R1 v1 r1 a1 c1 => ?_
  simp (disch := omega) only [sN, ↓reduceIte, Nat.reduceEqDiff, Nat.reduceAdd, Nat.reduceMul, Nat.reduceSub, reduceCtorEq, e_none, e_some, e_bindS, e0, e1, e2, List.map_cons, List.map_nil]
  refine call_digV (hqH.2.1.base Base.one) (by have := (cfE1_short he).2.1; omega) fun R2 v2 r2 a2 c2 => ?_
  simp (disch := omega) only [sN, ↓reduceIte, Nat.reduceEqDiff, Nat.reduceAdd, Nat.reduceMul, Nat.reduceSub, reduceCtorEq, e_none, e_some, e_bindS, e0, e1, e2, List.map_cons, List.map_nil]
  refine call_cmp (Nat.le_trans xl (by omega)) (Nat.le_trans yl (by omega)) (a1.base Base.one) a2 ?_
  obtain ⟨H2, hH2⟩ : ∃ h, h = H ++ R1 ++ R2 := ⟨_, rfl⟩
  have hB2 : Base H H2 := by rw [hH2]; exact Base.one.app
  rw [← hH2]
  clear a1 a2 hH2
  have hBH2 := hBH.trans hB2
  have q7' := hB2.row q7
  have hqH2 := hqH.base hB2
  have hqq : bdOK total sample seen := ⟨c0, c1', c2', c3, c4, c5⟩
  rw [Int.toNat_of_nonneg x0, Int.toNat_of_nonneg y0]
  by_cases hxy : q.x < q.y
  case neg =>
    have hc : 0 ≤ Dg.cmpI q.x q.y := by unfold Dg.cmpI; rw [if_neg hxy]; split <;> omega
    have hE : bdE q total sample seen = 2 := by unfold bdE; rw [if_pos he, if_pos hqq, if_neg hxy]
    have hV : bdV q total sample seen = 0 := by unfold bdV; rw [if_neg (by rw [hE]; decide)]
    rw [hE, hV]
    simp (disch := omega) only [sN, ↓reduceIte, Nat.reduceEqDiff, Nat.reduceAdd, Nat.reduceMul, Nat.reduceSub, reduceCtorEq, e_none, e_some, e_bindS, e0, e1, e2]
    refine ret_keep hBH2.1 ?_
    rw [rs_rBound, q_tmp2, q_then]
    refine ⟨?_, hBH2⟩
    simp only [e_upd, e_putS, e_putN, e_t, e_c, Nat.reduceEqDiff, ↓reduceIte, reduceCtorEq, Nat.reduceAdd]
  case pos =>
  have hc : Dg.cmpI q.x q.y = -1 := by unfold Dg.cmpI; rw [if_pos hxy]
  have hE : bdE q total sample seen = 0 := by unfold bdE; rw [if_pos he, if_pos hqq, if_pos hxy]
  have hV : bdV q total sample seen = ((lastF (exclP total.toNat sample.toNat seen q.x q.y) total.toNat : Nat) : Int) := by unfold bdV; rw [if_pos hE]
  rw [hE, hV, hc]
  obtain ⟨n, rfl⟩ := Int.eq_ofNat_of_zero_le c0
  obtain ⟨k, rfl⟩ := Int.eq_ofNat_of_zero_le c2'
  rw [Int.toNat_natCast, Int.toNat_natCast]
  have hn : n ≤ 512 := by omega
  have hk : k ≤ n := by omega
  obtain ⟨sn, rfl⟩ := Int.eq_ofNat_of_zero_le c4
  have hcl := cnk_dg (k := k) hn
  simp (disch := omega) only [sN, ↓reduceIte, Nat.reduceEqDiff, Nat.reduceAdd, Nat.reduceMul, Nat.reduceSub, reduceCtorEq, e_none, e_some, e_bindS, e0, e1, e2, q7', p_fieldAddr, Nat.zero_add, Option.bind_some, Option.map_some, List.getElem?_cons_zero, List.getElem?_cons_succ, List.map_cons, List.map_nil]
  refine call_digV hqH2.1 (by have := (cfE1_short he).1; omega) fun R3 v3 r3 a3 c3' => ?_
  simp (disch := omega) only [sN, ↓reduceIte, Nat.reduceEqDiff, Nat.reduceAdd, Nat.reduceMul, Nat.reduceSub, reduceCtorEq, e_none, e_some, e_bindS, e0, e1, e2, List.map_cons, List.map_nil]
  refine ⟨_, (rrowB_calls (H2 ++ R3) n hn).g.mono ?_⟩
  rintro v4 H4 ⟨D, cells, rfl, rD, hR, hB4, hD⟩
  obtain ⟨x1, rx, b1, b2, b3, b4⟩ := hR.2 k (by omega)
  have hi := dblS_idx (D := D) (k := n + 1) (j := k) (by omega)
  simp (disch := omega) only [sN, ↓reduceIte, Nat.reduceEqDiff, Nat.reduceAdd, Nat.reduceMul, Nat.reduceSub, reduceCtorEq, e_none, e_some, e_bindS, e0, e1, e2, hi, rD, b1, Option.bind_some, Option.map_some, List.map_cons, List.map_nil]
  refine call_mul (Nat.le_trans xl (by omega)) (Nat.le_trans hcl (by omega)) (a3.base hB4) b3 ?_
  intro w5 row5 o5 f5 a5 c5'
  obtain ⟨H5, hH5⟩ : ∃ h, h = H4 ++ [some row5] := ⟨_, rfl⟩
  have hB5 : Base H2 H5 := by rw [hH5]; exact (Base.one.trans hB4).app
  rw [← hH5] at a5 ⊢
  have hBH5 := hBH2.trans hB5
  have p7 := hB5.row q7'
  have hqH5 := hqH2.base hB5
  obtain ⟨rl, hrl⟩ : ∃ r, r = H4.length := ⟨_, rfl⟩
  rw [← hrl] at a5
  clear a3 hB4 rD hR b1 b2 b3 b4 hi hH5 hrl q7' hqH2 hB5
  have hpl := dg_mul_len (a := 64) (b := 25) (Nat.le_trans xl (by omega)) (Nat.le_trans hcl (by omega))
  simp (disch := omega) only [sN, ↓reduceIte, Nat.reduceEqDiff, Nat.reduceAdd, Nat.reduceMul, Nat.reduceSub, reduceCtorEq, e_none, e_some, e_bindS, e0, e1, e2]
  refine ⟨fun t s H => ∃ lo hi : Nat, t = hi - lo ∧ lo ≤ hi ∧ hi ≤ n ∧ exclP n k sn q.x q.y lo = false ∧ (∀ i, hi < i → i ≤ n → exclP n k sn q.x q.y i = true) ∧ Base H5 H ∧ s 0 = .int .i64 (n : Int) ∧ s 1 = .int .i64 (k : Int) ∧ s 2 = .int .i64 (sn : Int) ∧ s 7 = .ptr H0.length 0 ∧ s 11 = w5 ∧ s 12 = .int .i64 (lo : Int) ∧ s 13 = .int .i64 (hi : Int), n - sn, ⟨sn, n, rfl, by omega, by omega, excl_zero hk (by omega) hxy (by omega) (by omega), fun i h1 h2 => by omega, Base.refl, ?_, ?_, ?_, ?_, ?_, ?_, ?_⟩, ?_⟩
  · simp only [e_upd, e_putS, e_putN, e_t, e_c, Nat.reduceEqDiff, ↓reduceIte, reduceCtorEq, Nat.reduceAdd, e0]
  · simp only [e_upd, e_putS, e_putN, e_t, e_c, Nat.reduceEqDiff, ↓reduceIte, reduceCtorEq, Nat.reduceAdd, e1]
  · simp only [e_upd, e_putS, e_putN, e_t, e_c, Nat.reduceEqDiff, ↓reduceIte, reduceCtorEq, Nat.reduceAdd, e2]
  · simp only [e_upd, e_putS, e_putN, e_t, e_c, Nat.reduceEqDiff, ↓reduceIte, reduceCtorEq, Nat.reduceAdd]
  · simp only [e_upd, e_putS, e_putN, e_t, e_c, Nat.reduceEqDiff, ↓reduceIte, reduceCtorEq, Nat.reduceAdd]
  · simp only [e_upd, e_putS, e_putN, e_t, e_c, Nat.reduceEqDiff, ↓reduceIte, reduceCtorEq, Nat.reduceAdd, e2]
  · simp only [e_upd, e_putS, e_putN, e_t, e_c, Nat.reduceEqDiff, ↓reduceIte, reduceCtorEq, Nat.reduceAdd, e0]
  rintro t s H6 ⟨lo, hi, rfl, d1, d2, d3, d4, hB6, t0, t1, t2, t7, t11, t12, t13⟩
  have hBH6 := hBH5.trans hB6
  by_cases hlt : lo < hi
  case neg =>
    obtain rfl : lo = hi := by omega
    simp (disch := omega) only [sN, ↓reduceIte, Nat.reduceEqDiff, Nat.reduceAdd, Nat.reduceMul, Nat.reduceSub, reduceCtorEq, e_none, e_some, e_bindS, e0, e1, e2, t0, t1, t2, t7, t11, t12, t13]
    refine ret_keep hBH6.1 ?_
    rw [rs_rBound, q_tmp2, q_then]
    refine ⟨?_, hBH6⟩
    rw [lastF_eq (r := lo) (by omega) (fun _ => d3) fun i h3 h4 => d4 i h3 h4]
    simp only [e_upd, e_putS, e_putN, e_t, e_c, Nat.reduceEqDiff, ↓reduceIte, reduceCtorEq, Nat.reduceAdd]
  case pos =>
    obtain ⟨mid, hmid⟩ : ∃ mid, mid = (lo + hi + 1) / 2 := ⟨_, rfl⟩
    have hm1 : ((lo : Int) + (hi : Int) + 1) / 2 = (mid : Int) := by omega
    have hm2 : lo < mid ∧ mid ≤ hi := by omega
    obtain ⟨g, hg⟩ : ∃ g, n = mid + g := ⟨n - mid, by omega⟩
    have hwT : wT n mid k sn = wN mid g k sn := by unfold wT; rw [show n - mid = g by omega]
    have hm3 : ((mid : Nat) : Int) - 1 = ((mid - 1 : Nat) : Int) := by omega
    have t0' : s 0 = .int .i64 ((mid + g : Nat) : Int) := by rw [t0, hg]
    simp (disch := omega) only [sN, ↓reduceIte, Nat.reduceEqDiff, Nat.reduceAdd, Nat.reduceMul, Nat.reduceSub, reduceCtorEq, e_none, e_some, e_bindS, e0, e1, e2, t0', t1, t2, t7, t11, t12, t13, hm1, hB6.row p7, p_fieldAddr, Nat.zero_add, Option.bind_some, Option.map_some, List.getElem?_cons_zero, List.getElem?_cons_succ, List.map_cons, List.map_nil, b_quo]
    refine call_ways0 (b := mid) (g := g) (k := k) (by omega) (by omega) h2.1 h2.2 fun R7 v7 r7 a7 => ?_
    simp (disch := omega) only [sN, ↓reduceIte, Nat.reduceEqDiff, Nat.reduceAdd, Nat.reduceMul, Nat.reduceSub, reduceCtorEq, e_none, e_some, e_bindS, e0, e1, e2, List.map_cons, List.map_nil]
    refine call_digV ((hqH5.2.1.base hB6).base Base.one) (by have := (cfE1_short he).2.1; omega) fun R8 v8 r8 a8 c8 => ?_
    simp (disch := omega) only [sN, ↓reduceIte, Nat.reduceEqDiff, Nat.reduceAdd, Nat.reduceMul, Nat.reduceSub, reduceCtorEq, e_none, e_some, e_bindS, e0, e1, e2, List.map_cons, List.map_nil]
    have hwl : (Dg.dg (wN mid g k sn)).length ≤ 4 * 25 := dg_fits.2 (Int.lt_of_lt_of_le (wN_bb (b := mid) (g := g) (k := k) (by omega) (by omega)) (BB_mono (by omega)))
    refine call_mul (Nat.le_trans hwl (by omega)) (Nat.le_trans yl (by omega)) (a7.base Base.one) a8 ?_
    intro w9 row9 o9 f9 a9 c9
    have hwl2 := dg_mul_len hwl yl
    simp (disch := omega) only [sN, ↓reduceIte, Nat.reduceEqDiff, Nat.reduceAdd, Nat.reduceMul, Nat.reduceSub, reduceCtorEq, e_none, e_some, e_bindS, e0, e1, e2, List.map_cons, List.map_nil]
    refine call_cmp (Nat.le_trans hwl2 (by omega)) (Nat.le_trans hpl (by omega)) a9 (((a5.base hB6).base Base.one.app).base Base.one) ?_
    have hcx : exclP n k sn q.x q.y mid = decide (Dg.cmpI (((wN mid g k sn * q.y.toNat : Nat)) : Int) ((q.x.toNat * cnk n k : Nat) : Int) ≤ 0) := by
      unfold exclP
      rw [hwT, Int.natCast_mul, Int.natCast_mul, Int.toNat_of_nonneg x0, Int.toNat_of_nonneg y0]
      refine decide_eq_decide.2 ?_
      unfold Dg.cmpI
      constructor
      · intro h; split
        · omega
        · split <;> omega
      · intro h; split at h
        · omega
        · split at h <;> omega
    by_cases hx : Dg.cmpI (((wN mid g k sn * q.y.toNat : Nat)) : Int) ((q.x.toNat * cnk n k : Nat) : Int) ≤ 0
    · rw [decide_eq_true hx] at hcx
      simp (disch := omega) only [sN, ↓reduceIte, Nat.reduceEqDiff, Nat.reduceAdd, Nat.reduceMul, Nat.reduceSub, reduceCtorEq, e_none, e_some, e_bindS, e0, e1, e2, hm3]
      refine loop_keep (m := mid - 1 - lo) (by omega) ⟨lo, mid - 1, rfl, by omega, by omega, d3, fun i h3 h4 => ?_, (hB6.app.app).app, ?_, ?_, ?_, ?_, ?_, ?_, ?_⟩
      · have hm := exclP_mono (n := n) (k := k) (seen := sn) (x := q.x) (y := q.y) (by omega)
        exact hm mid i (by omega) (by omega) hcx
      · simp only [e_upd, e_putS, e_putN, e_t, e_c, Nat.reduceEqDiff, ↓reduceIte, reduceCtorEq, Nat.reduceAdd, t0]
      · simp only [e_upd, e_putS, e_putN, e_t, e_c, Nat.reduceEqDiff, ↓reduceIte, reduceCtorEq, Nat.reduceAdd, t1]
      · simp only [e_upd, e_putS, e_putN, e_t, e_c, Nat.reduceEqDiff, ↓reduceIte, reduceCtorEq, Nat.reduceAdd, t2]
      · simp only [e_upd, e_putS, e_putN, e_t, e_c, Nat.reduceEqDiff, ↓reduceIte, reduceCtorEq, Nat.reduceAdd, t7]
      · simp only [e_upd, e_putS, e_putN, e_t, e_c, Nat.reduceEqDiff, ↓reduceIte, reduceCtorEq, Nat.reduceAdd, t11]
      · simp only [e_upd, e_putS, e_putN, e_t, e_c, Nat.reduceEqDiff, ↓reduceIte, reduceCtorEq, Nat.reduceAdd, t12]
      · simp only [e_upd, e_putS, e_putN, e_t, e_c, Nat.reduceEqDiff, ↓reduceIte, reduceCtorEq, Nat.reduceAdd, hm3]
    · rw [decide_eq_false hx] at hcx
      simp (disch := omega) only [sN, ↓reduceIte, Nat.reduceEqDiff, Nat.reduceAdd, Nat.reduceMul, Nat.reduceSub, reduceCtorEq, e_none, e_some, e_bindS, e0, e1, e2]
      refine loop_keep (m := hi - mid) (by omega) ⟨mid, hi, rfl, by omega, by omega, hcx, d4, (hB6.app.app).app, ?_, ?_, ?_, ?_, ?_, ?_, ?_⟩
      · simp only [e_upd, e_putS, e_putN, e_t, e_c, Nat.reduceEqDiff, ↓reduceIte, reduceCtorEq, Nat.reduceAdd, t0]
      · simp only [e_upd, e_putS, e_putN, e_t, e_c, Nat.reduceEqDiff, ↓reduceIte, reduceCtorEq, Nat.reduceAdd, t1]
      · simp only [e_upd, e_putS, e_putN, e_t, e_c, Nat.reduceEqDiff, ↓reduceIte, reduceCtorEq, Nat.reduceAdd, t2]
      · simp only [e_upd, e_putS, e_putN, e_t, e_c, Nat.reduceEqDiff, ↓reduceIte, reduceCtorEq, Nat.reduceAdd, t7]
      · simp only [e_upd, e_putS, e_putN, e_t, e_c, Nat.reduceEqDiff, ↓reduceIte, reduceCtorEq, Nat.reduceAdd, t11]
      · simp only [e_upd, e_putS, e_putN, e_t, e_c, Nat.reduceEqDiff, ↓reduceIte, reduceCtorEq, Nat.reduceAdd]
      · simp only [e_upd, e_putS, e_putN, e_t, e_c, Nat.reduceEqDiff, ↓reduceIte, reduceCtorEq, Nat.reduceAdd, t13]
end Go.Proofs.Ythbhljolpnbdlaa.S1



/- Contracts: slices.Reverse of bytes. -/
-- NEWSET
namespace Go.Proofs.Ythbhljolpnbdlaa.S1
open Go Go.Vh

end Go.Proofs.Ythbhljolpnbdlaa.S1



/- Contracts: strings.TrimLeft, of one byte. -/
-- NEWSET
namespace Go.Proofs.Ythbhljolpnbdlaa.S1
open Go Go.Vh

end Go.Proofs.Ythbhljolpnbdlaa.S1



/- Numbers to the base 10, the lowest digit first. -/
namespace Go.Dt

def tz (l : List Int) : Nat → Nat
  | 0 => 0
  | k+1 => if l.getD k 0 = 0 then tz l k else k+1

theorem tz_le (l : List Int) : ∀ n, tz l n ≤ n
  | 0 => Nat.le_refl _
  | n + 1 => by unfold tz; split; exact Nat.le_succ_of_le (tz_le l n); exact Nat.le_refl _

theorem tz_zero (l : List Int) : ∀ n i, tz l n ≤ i → i < n → l.getD i 0 = 0
  | 0, i, _, h => by omega
  | n + 1, i, h1, h2 => by
    unfold tz at h1
    split at h1
    · rename_i hz
      rcases Nat.lt_or_ge i n with h | h
      · exact tz_zero l n i h1 h
      · obtain rfl : i = n := by omega
        exact hz
    · omega
theorem tz_last (l : List Int) : ∀ n, tz l n ≠ 0 → l.getD (tz l n - 1) 0 ≠ 0
  | 0, h => (h rfl).elim
  | n + 1, h => by
    unfold tz at h ⊢
    split
    · rename_i hz; rw [if_pos hz] at h; exact tz_last l n h
    · rename_i hz; simpa using hz
theorem tz_uniq (l : List Int) (n m : Nat) (h1 : m ≤ n) (h2 : m ≠ 0 → l.getD (m - 1) 0 ≠ 0) (h3 : ∀ i, m ≤ i → i < n → l.getD i 0 = 0) : tz l n = m := by
  rcases Nat.lt_trichotomy (tz l n) m with h | h | h
  · exact (h2 (by omega) (tz_zero l n (m - 1) (by omega) (by omega))).elim
  · exact h
  · exact (tz_last l n (by omega) (h3 _ (by omega) (by have := tz_le l n; omega))).elim
theorem getD_take (l : List Int) (n m i : Nat) (h : ∀ j, m ≤ j → j < n → l.getD j 0 = 0) (hn : l.length ≤ n) : (l.take m).getD i 0 = l.getD i 0 := by
  rcases Nat.lt_or_ge i m with h1 | h1
  · simp [List.getD_eq_getElem?_getD, List.getElem?_take, h1]
  · have e1 : (l.take m).getD i 0 = 0 := by
      rw [List.getD_eq_getElem?_getD, List.getElem?_eq_none (by rw [List.length_take]; omega)]; rfl
    rw [e1]
    rcases Nat.lt_or_ge i n with h2 | h2
    · exact (h i h1 h2).symm
    · rw [List.getD_eq_getElem?_getD, List.getElem?_eq_none (by omega)]; rfl

def DL (l : List Int) : Prop := ∀ i, 0 ≤ l.getD i 0 ∧ l.getD i 0 ≤ 9
theorem getD_set (l : List Int) (i j : Nat) (x : Int) : (l.set i x).getD j 0 = if i = j ∧ i < l.length then x else l.getD j 0 := by
  simp only [List.getD_eq_getElem?_getD, List.getElem?_set]
  by_cases h : i = j
  · subst h
    by_cases h2 : i < l.length
    · simp [h2]
    · simp [h2]
  · simp [h]
/-- one digit's worth -/
def DB : Int := 10
theorem DB_pos (k : Nat) : 0 < DB ^ k := Int.pow_pos (by decide)
/-- the number of the first k digits -/
def nv (l : List Int) : Nat → Int
  | 0 => 0
  | k + 1 => nv l k + l.getD k 0 * DB ^ k
theorem nv_bound {l : List Int} (h : DL l) : ∀ k, 0 ≤ nv l k ∧ nv l k < DB ^ k
  | 0 => by simp [nv]
  | k + 1 => by
    obtain ⟨h1, h2⟩ := nv_bound h k
    obtain ⟨h3, h4⟩ := h k
    have hp := DB_pos k
    simp only [nv]
    rw [Int.pow_succ]
    have h5 : l.getD k 0 * DB ^ k ≤ (DB - 1) * DB ^ k := Int.mul_le_mul_of_nonneg_right (by simp only [DB]; omega) (by omega)
    have h6 : 0 ≤ l.getD k 0 * DB ^ k := Int.mul_nonneg h3 (by omega)
    have h7 : (DB - 1) * DB ^ k = DB ^ k * DB - DB ^ k := by rw [Int.sub_mul, Int.mul_comm DB, Int.one_mul]
    omega
theorem nv_zeros (l : List Int) {n : Nat} : ∀ m, n ≤ m → (∀ i, n ≤ i → i < m → l.getD i 0 = 0) → nv l m = nv l n
  | 0, h, _ => by obtain rfl : n = 0 := by omega
                  rfl
  | m + 1, h, hz => by
    rcases Nat.eq_or_lt_of_le h with e | e
    · rw [e]
    · simp only [nv]
      rw [hz m (by omega) (by omega), nv_zeros l m (by omega) (fun i h1 h2 => hz i h1 (by omega))]
      omega
theorem nv_tz (l : List Int) (n : Nat) : nv l (tz l n) = nv l n := (nv_zeros l n (tz_le l n) (tz_zero l n)).symm
/-- beyond the list nothing comes -/
theorem nv_long (l : List Int) {m : Nat} (h : l.length ≤ m) : nv l m = nv l l.length := nv_zeros l m h fun i h1 _ => by
  rw [List.getD_eq_getElem?_getD, List.getElem?_eq_none h1]; rfl
theorem nv_congr {l l' : List Int} : ∀ k, (∀ i, i < k → l.getD i 0 = l'.getD i 0) → nv l k = nv l' k
  | 0, _ => rfl
  | k + 1, h => by simp only [nv]; rw [nv_congr k (fun i hi => h i (by omega)), h k (by omega)]
theorem nv_take (l : List Int) (n k : Nat) (h : k ≤ n) : nv (l.take n) k = nv l k := nv_congr k fun i hi => by
  simp [List.getD_eq_getElem?_getD, List.getElem?_take, show i < n by omega]
/-- The number. -/
def num (l : List Int) : Int := nv l l.length
theorem num_nonneg {l : List Int} (h : DL l) : 0 ≤ num l := (nv_bound h _).1
theorem num_take {l : List Int} : num (l.take (tz l l.length)) = num l := by
  have := tz_le l l.length
  simp only [num, List.length_take, Nat.min_eq_left this]
  rw [nv_take l _ _ (Nat.le_refl _), nv_tz]
/-- A number that has its last digit is at least that. -/
theorem nv_ge {l : List Int} (h : DL l) {k : Nat} (hk : l.getD k 0 ≠ 0) : DB ^ k ≤ nv l (k + 1) := by
  obtain ⟨h1, _⟩ := nv_bound h k
  obtain ⟨h3, _⟩ := h k
  have : 1 * DB ^ k ≤ l.getD k 0 * DB ^ k := Int.mul_le_mul_of_nonneg_right (by omega) (by have := DB_pos k; omega)
  simp only [nv]
  omega
theorem DB_mono {i j : Nat} (h : i ≤ j) : DB ^ i ≤ DB ^ j := by
  obtain ⟨d, rfl⟩ := Nat.exists_eq_add_of_le h
  have h1 := DB_pos i
  have h2 := DB_pos d
  have h3 : DB ^ i * 1 ≤ DB ^ i * DB ^ d := Int.mul_le_mul_of_nonneg_left (by omega) (by omega)
  rw [Int.pow_add]
  omega
/-- Numbers without zeros at the end: the longer one is greater. -/
theorem nv_len_lt {a b : List Int} (ha : DL a) (hb : DL b) {n m : Nat} (h : n < m) (hl : b.getD (m - 1) 0 ≠ 0) : nv a n < nv b m := by
  have h1 := (nv_bound ha n).2
  have h2 := nv_ge hb hl
  rw [show m - 1 + 1 = m by omega] at h2
  have h3 : DB ^ n ≤ DB ^ (m - 1) := DB_mono (by omega)
  omega
theorem nv_top_lt {a b : List Int} (ha : DL a) (hb : DL b) {k : Nat} (h : a.getD k 0 < b.getD k 0) : nv a (k + 1) < nv b (k + 1) := by
  have h1 := (nv_bound ha k).2
  have h2 := (nv_bound hb k).1
  have h3 : (a.getD k 0 + 1) * DB ^ k ≤ b.getD k 0 * DB ^ k := Int.mul_le_mul_of_nonneg_right (by omega) (by have := DB_pos k; omega)
  rw [Int.add_mul, Int.one_mul] at h3
  simp only [nv]
  omega
theorem nv_sum_eq {a b : List Int} {k : Nat} : ∀ n, k ≤ n → (∀ i, k ≤ i → i < n → a.getD i 0 = b.getD i 0) → nv a n - nv b n = nv a k - nv b k
  | 0, h, _ => by obtain rfl : k = 0 := by omega
                  rfl
  | n + 1, h, he => by
    rcases Nat.eq_or_lt_of_le h with e | e
    · rw [e]
    · have := nv_sum_eq n (by omega) (fun i h1 h2 => he i h1 (by omega))
      simp only [nv]
      rw [he n (by omega) (by omega)]
      omega
/-- Normal numbers are equal as lists if they are as numbers. -/
theorem num_inj {a b : List Int} (ha : DL a) (hb : DL b) (h : num a = num b) : a.take (tz a a.length) = b.take (tz b b.length) := by
  rw [← num_take (l := a), ← num_take (l := b)] at h
  have la : ((a.take (tz a a.length)).length) = tz a a.length := by rw [List.length_take]; have := tz_le a a.length; omega
  have lb : ((b.take (tz b b.length)).length) = tz b b.length := by rw [List.length_take]; have := tz_le b b.length; omega
  simp only [num, la, lb] at h
  rw [nv_take _ _ _ (Nat.le_refl _), nv_take _ _ _ (Nat.le_refl _)] at h
  have hl : tz a a.length = tz b b.length := by
    rcases Nat.lt_trichotomy (tz a a.length) (tz b b.length) with h1 | h1 | h1
    · have := nv_len_lt ha hb h1 (tz_last b b.length (by omega)); omega
    · exact h1
    · have := nv_len_lt hb ha h1 (tz_last a a.length (by omega)); omega
  rw [← hl] at h
  have key : ∀ n, nv a n = nv b n → ∀ i, i < n → a.getD i 0 = b.getD i 0 := by
    intro n
    induction n with
    | zero => intro _ i hi; omega
    | succ n ih =>
      intro he i hi
      have : a.getD n 0 = b.getD n 0 := by
        rcases Int.lt_trichotomy (a.getD n 0) (b.getD n 0) with h1 | h1 | h1
        · have := nv_top_lt ha hb h1; omega
        · exact h1
        · have := nv_top_lt hb ha h1; omega
      rcases Nat.lt_or_ge i n with h2 | h2
      · refine ih ?_ i h2
        simp only [nv, this] at he
        omega
      · obtain rfl : i = n := by omega
        exact this
  refine List.ext_getElem (by rw [la, lb, hl]) fun i hi hi' => ?_
  rw [la] at hi
  have := key _ h i hi
  have h1 := tz_le a a.length
  have h2 := tz_le b b.length
  simp only [List.getElem_take]
  simpa [List.getD_eq_getElem?_getD, show i < a.length by omega, show i < b.length by omega] using this

theorem dl_nil : DL [] := fun i => by simp
theorem nv_cons (x : Int) (l : List Int) : ∀ k, nv (x :: l) (k + 1) = x + 10 * nv l k
  | 0 => by simp [nv]
  | k + 1 => by
    have ih := nv_cons x l k
    rw [nv, ih, nv, Int.pow_succ]
    have e : (x :: l).getD (k + 1) 0 = l.getD k 0 := by simp
    rw [e, Int.mul_add, show DB = 10 from rfl, Int.mul_comm 10 (l.getD k 0 * 10 ^ k), Int.mul_assoc]
    omega
theorem num_cons (x : Int) (l : List Int) : num (x :: l) = x + 10 * num l := by
  simp only [num, List.length_cons]; exact nv_cons x l l.length
/-- the digits of a number -/
def dg : Nat → List Int
  | 0 => []
  | n + 1 => ((((n + 1) % 10 : Nat)) : Int) :: dg ((n + 1) / 10)
decreasing_by omega
theorem dg_zero : dg 0 = [] := by unfold dg; rfl
theorem dg_pos {n : Nat} (h : 0 < n) : dg n = ((n % 10 : Nat) : Int) :: dg (n / 10) := by
  cases n with
  | zero => omega
  | succ n => rw [dg]
theorem dg_dl : ∀ n, DL (dg n) := by
  intro n
  induction n using Nat.strongRecOn with
  | ind n ih =>
    rcases Nat.eq_zero_or_pos n with rfl | h
    · rw [dg_zero]; exact dl_nil
    · intro i
      rw [dg_pos h]
      cases i with
      | zero => simp; omega
      | succ i => simpa using ih (n / 10) (by omega) i
theorem dg_num : ∀ n, num (dg n) = (n : Int) := by
  intro n
  induction n using Nat.strongRecOn with
  | ind n ih =>
    rcases Nat.eq_zero_or_pos n with rfl | h
    · rw [dg_zero]; rfl
    · rw [dg_pos h, num_cons, ih (n / 10) (by omega)]; omega
theorem dg_last : ∀ n, 0 < n → (dg n).getD ((dg n).length - 1) 0 ≠ 0 := by
  intro n
  induction n using Nat.strongRecOn with
  | ind n ih =>
    intro h
    rw [dg_pos h]
    rcases Nat.eq_zero_or_pos (n / 10) with h0 | h0
    · rw [h0, dg_zero]; simp; omega
    · have := ih (n / 10) (by omega) h0
      have hl : 0 < (dg (n / 10)).length := by rw [dg_pos h0]; simp
      rw [show (((n % 10 : Nat) : Int) :: dg (n / 10)).length - 1 = ((dg (n / 10)).length - 1) + 1 by simp; omega]
      simpa using this
theorem dg_tz (n : Nat) : tz (dg n) (dg n).length = (dg n).length := by
  refine tz_uniq _ _ _ (Nat.le_refl _) (fun h => ?_) fun i h1 h2 => by omega
  rcases Nat.eq_zero_or_pos n with rfl | h0
  · rw [dg_zero] at h; simp at h
  · exact dg_last n h0
/-- What is trimmed is what its number has. -/
theorem trim_dg {l : List Int} (h : DL l) : l.take (tz l l.length) = dg (num l).toNat := by
  have hn := num_nonneg h
  have := num_inj h (dg_dl (num l).toNat) (by rw [dg_num]; omega)
  rw [this, dg_tz, List.take_length]
theorem dg_len_le {n k : Nat} (h : n < 10 ^ k) : (dg n).length ≤ k := by
  rcases Nat.lt_or_ge k (dg n).length with h1 | h1
  · exfalso
    have h0 : 0 < n := by
      rcases Nat.eq_zero_or_pos n with rfl | h0
      · rw [dg_zero] at h1; simp at h1
      · exact h0
    have hge := nv_ge (dg_dl n) (dg_last n h0)
    rw [show (dg n).length - 1 + 1 = (dg n).length by omega] at hge
    have hnum := dg_num n
    simp only [num] at hnum
    rw [hnum] at hge
    have hm : DB ^ k ≤ DB ^ ((dg n).length - 1) := DB_mono (by omega)
    have e : DB ^ k = ((10 ^ k : Nat) : Int) := by rw [Int.natCast_pow]; rfl
    rw [e] at hm
    have : ((n : Nat) : Int) < ((10 ^ k : Nat) : Int) := by exact_mod_cast h
    omega
  · exact h1

theorem getD_snoc (l : List Int) (x : Int) (i : Nat) : (l ++ [x]).getD i 0 = if i = l.length then x else l.getD i 0 := by
  simp only [List.getD_eq_getElem?_getD, List.getElem?_append]
  by_cases h : i < l.length
  · rw [if_pos h, if_neg (by omega)]
  · rw [if_neg h]
    by_cases h2 : i = l.length
    · subst h2; simp
    · rw [if_neg h2, List.getElem?_eq_none (by simp; omega), List.getElem?_eq_none (by omega)]
theorem nv_snoc (l : List Int) (x : Int) : nv (l ++ [x]) (l.length + 1) = nv l l.length + x * DB ^ l.length := by
  simp only [nv]
  rw [getD_snoc, if_pos rfl, nv_congr (l := l ++ [x]) (l' := l) l.length fun i hi => by rw [getD_snoc, if_neg (by omega)]]
end Go.Dt



/- Contracts: exact's digits: the decimal text of a number. -/
-- NEWSET
namespace Go.Proofs.Ythbhljolpnbdlaa.S1
open Go Go.Vh

/-- the bytes of digits -/
def tb (D : List Int) : List Int := D.map fun x => 48 + x
/-- A text that is appended to. -/
def TextAt (H : AHeap) (t : AV) (T : List Int) (q : Nat) : Prop := (T = [] ∧ t = .nilslice) ∨ (T ≠ [] ∧ t = .sliceU q 0 T.length 1 ∧ Vh.rowAt H q = some ⟨true, true, ints .u8 T⟩)
end Go.Proofs.Ythbhljolpnbdlaa.S1



/- Contracts: exact's digits, walked. -/
-- NEWSET
namespace Go.Proofs.Ythbhljolpnbdlaa.S1
open Go Go.Vh

/-- A normal number in the row r. -/
def RestAt (H : AHeap) (w : AV) (z : Int) (r : Nat) : Prop := ∃ κ l row, okS κ l.length ∧ w = mkS κ r 0 l.length ∧ Vh.rowAt H r = some row ∧ row.cells.take l.length = ints .u32 l ∧ Limbs l ∧ num l = z ∧ tz l l.length = l.length ∧ l.length ≤ 1000000
theorem RestAt.keep {H H' : AHeap} {w : AV} {z : Int} {r : Nat} (h : RestAt H w z r) (he : Vh.rowAt H' r = Vh.rowAt H r) : RestAt H' w z r := by
  obtain ⟨κ, l, row, h1, h2, h3, h4⟩ := h
  exact ⟨κ, l, row, h1, h2, by rw [he, h3], h4⟩
theorem RestAt.lt {H : AHeap} {w : AV} {z : Int} {r : Nat} (h : RestAt H w z r) : r < H.length := by
  obtain ⟨κ, l, row, h1, h2, h3, h4⟩ := h
  exact row_lt h3
theorem TextAt.app {H R : AHeap} {t : AV} {T : List Int} {q : Nat} (h : TextAt H t T q) : TextAt (H ++ R) t T q := by
  rcases h with h | ⟨h1, h2, h3⟩
  · exact .inl h
  · exact .inr ⟨h1, h2, by rw [rowAt_append_left (row_lt h3)]; exact h3⟩
end Go.Proofs.Ythbhljolpnbdlaa.S1



/- Contracts: the reference's text: the decimal text of a number. -/
-- NEWSET
namespace Go.Proofs.Ythbhljolpnbdlaa.S1
open Go Go.Vh

end Go.Proofs.Ythbhljolpnbdlaa.S1



/- Contracts: Reduce, on both sides. -/
-- NEWSET
namespace Go.Proofs.Ythbhljolpnbdlaa.S1
open Go Go.Vh

end Go.Proofs.Ythbhljolpnbdlaa.S1



/- Contracts: FracText, on both sides. -/
-- NEWSET
namespace Go.Proofs.Ythbhljolpnbdlaa.S1
open Go Go.Vh

section
variable {K : St → AHeap → Prop} {d : Option Nat} {s : St} {H : AHeap}
end
end Go.Proofs.Ythbhljolpnbdlaa.S1


