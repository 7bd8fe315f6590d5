/- Texts of code of this program, checked against its dump. -/
import Derived.Test.YthbhljolpnbdlaaV8
import Derived.Test.YthbhljolpnbdlaaChecked
import Derived.Test.YthbhljolpnbdlaaVX
import Derived.Test.YthbhljolpnbdlaaPQ
set_option linter.unusedSimpArgs false
set_option linter.unusedVariables false
namespace Go.Proofs.Ythbhljolpnbdlaa.S1
open Go Go.Vh
def ir_rpair : IR := (.seq (.ops [⟨(some 2), none, (.eff (.box (.t 0)))⟩, ⟨(some 3), none, (.eff (.box (.t 1)))⟩, ⟨(some 4), none, (.pure (.move (.c (.int .i64 0))))⟩]) (.seq (.seq (.ops [⟨(some 5), none, (.eff (.loadN 2 (.t 2)))⟩, ⟨(some 6), none, (.call (.c (.func 80 [])) [(.t 5)])⟩, ⟨(some 7), none, (.pure (.bin .eql (.t 6) (.c (.int .i64 4))))⟩, ⟨(some 8), none, (.pure (.move (.t 7)))⟩, ⟨(some 9), (some (8, false)), (.eff (.loadN 2 (.t 3)))⟩, ⟨(some 10), (some (8, false)), (.call (.c (.func 80 [])) [(.t 9)])⟩, ⟨(some 11), (some (8, false)), (.pure (.bin .eql (.t 10) (.c (.int .i64 4))))⟩, ⟨(some 12), none, (.pure (.pick (.t 8) (.c (.bool true)) (.t 11)))⟩]) (.cond (.t 12) (.seq (.ops [⟨(some 4), none, (.pure (.move (.c (.int .i64 4))))⟩]) .ret) .skip)) (.seq (.seq (.ops [⟨(some 13), none, (.eff (.loadN 2 (.t 2)))⟩, ⟨(some 14), none, (.call (.c (.func 80 [])) [(.t 13)])⟩, ⟨(some 15), none, (.pure (.bin .neq (.t 14) (.c (.int .i64 0))))⟩, ⟨(some 16), none, (.pure (.move (.t 15)))⟩, ⟨(some 17), (some (16, false)), (.eff (.loadN 2 (.t 3)))⟩, ⟨(some 18), (some (16, false)), (.call (.c (.func 80 [])) [(.t 17)])⟩, ⟨(some 19), (some (16, false)), (.pure (.bin .neq (.t 18) (.c (.int .i64 0))))⟩, ⟨(some 20), none, (.pure (.pick (.t 16) (.c (.bool true)) (.t 19)))⟩]) (.cond (.t 20) (.seq (.ops [⟨(some 4), none, (.pure (.move (.c (.int .i64 7))))⟩]) .ret) .skip)) (.seq (.ops [⟨(some 4), none, (.pure (.move (.c (.int .i64 0))))⟩]) .ret))))
def rs_rpair : List IRes := [(.tmp 4)]
theorem ir_rpair_ok : (Func.body Try.f124).bind (irOf Try.prog Try.f124.ntmps) = some ir_rpair := by kernel_rfl
theorem rs_rpair_ok : Try.f124.results.toList.mapM (resOf Try.prog) = some rs_rpair := by kernel_rfl
theorem ent_rpair : enters Try.prog 124 = true := by kernel_rfl

def ir_rFracCompare : IR := (.seq (.ops [⟨(some 2), none, (.eff (.box (.t 0)))⟩, ⟨(some 3), none, (.eff (.box (.t 1)))⟩, ⟨(some 4), none, (.pure (.move (.c (.int .i64 0))))⟩, ⟨(some 5), none, (.pure (.move (.c (.int .i64 0))))⟩]) (.seq (.ops [⟨(some 7), none, (.eff (.loadN 2 (.t 2)))⟩, ⟨(some 8), none, (.eff (.loadN 2 (.t 3)))⟩, ⟨(some 9), none, (.call (.c (.func 124 [])) [(.t 7), (.t 8)])⟩, ⟨(some 6), none, (.pure (.move (.t 9)))⟩]) (.seq (.seq (.ops [⟨(some 10), none, (.pure (.move (.t 6)))⟩, ⟨(some 11), none, (.pure (.bin .neq (.t 10) (.c (.int .i64 0))))⟩]) (.cond (.t 11) (.seq (.ops [⟨(some 12), none, (.pure (.move (.t 6)))⟩, ⟨(some 4), none, (.pure (.move (.c (.int .i64 0))))⟩, ⟨(some 5), none, (.pure (.move (.t 12)))⟩]) .ret) .skip)) (.seq (.dops [⟨⟨(some 13), none, (.pure (.fieldAddr 0 (.t 2)))⟩, 0, 0⟩, ⟨⟨(some 14), none, (.eff (.load1 (.t 13)))⟩, 1, 1⟩, ⟨⟨(some 16), none, (.pure (.fieldAddr 1 (.t 3)))⟩, 3, 0⟩, ⟨⟨(some 17), none, (.eff (.load1 (.t 16)))⟩, 4, 1⟩, ⟨⟨(some 20), none, (.pure (.fieldAddr 0 (.t 3)))⟩, 7, 0⟩, ⟨⟨(some 21), none, (.eff (.load1 (.t 20)))⟩, 8, 1⟩, ⟨⟨(some 23), none, (.pure (.fieldAddr 1 (.t 2)))⟩, 10, 0⟩, ⟨⟨(some 24), none, (.eff (.load1 (.t 23)))⟩, 11, 1⟩, ⟨⟨(some 15), none, (.call (.c (.func 118 [])) [(.t 14)])⟩, 2, 2⟩, ⟨⟨(some 18), none, (.call (.c (.func 118 [])) [(.t 17)])⟩, 5, 2⟩, ⟨⟨(some 19), none, (.call (.c (.func 119 [])) [(.t 15), (.t 18)])⟩, 6, 2⟩, ⟨⟨(some 22), none, (.call (.c (.func 118 [])) [(.t 21)])⟩, 9, 2⟩, ⟨⟨(some 25), none, (.call (.c (.func 118 [])) [(.t 24)])⟩, 12, 3⟩, ⟨⟨(some 26), none, (.call (.c (.func 119 [])) [(.t 22), (.t 25)])⟩, 13, 3⟩, ⟨⟨(some 27), none, (.call (.c (.func 117 [])) [(.t 19), (.t 26)])⟩, 14, 3⟩, ⟨⟨(some 4), none, (.pure (.move (.t 27)))⟩, 15, 0⟩, ⟨⟨(some 5), none, (.pure (.move (.c (.int .i64 0))))⟩, 16, 0⟩]) .ret))))
def rs_rFracCompare : List IRes := [(.tmp 4), (.tmp 5)]
theorem ir_rFracCompare_ok : (Func.body Try.f81).bind (irOf Try.prog Try.f81.ntmps) = some ir_rFracCompare := by kernel_rfl
theorem rs_rFracCompare_ok : Try.f81.results.toList.mapM (resOf Try.prog) = some rs_rFracCompare := by kernel_rfl
theorem ent_rFracCompare : enters Try.prog 81 = true := by kernel_rfl

def ir_xCheckFrac : IR := (.seq (.ops [⟨(some 1), none, (.eff (.box (.t 0)))⟩, ⟨(some 2), none, (.pure (.move (.c (.int .i64 0))))⟩]) (.seq (.ops [⟨(some 3), none, (.eff (.loadN 2 (.t 1)))⟩, ⟨(some 4), none, (.eff (.buildSlice 1 [.nilslice, .nilslice] [(0, (2, (.t 3)))]))⟩, ⟨(some 5), none, (.call (.c (.func 109 [])) [(.t 4)])⟩, ⟨(some 2), none, (.pure (.move (.t 5)))⟩]) .ret))
def rs_xCheckFrac : List IRes := [(.tmp 2)]
theorem ir_xCheckFrac_ok : (Func.body Try.f77).bind (irOf Try.prog Try.f77.ntmps) = some ir_xCheckFrac := by kernel_rfl
theorem rs_xCheckFrac_ok : Try.f77.results.toList.mapM (resOf Try.prog) = some rs_xCheckFrac := by kernel_rfl
theorem ent_xCheckFrac : enters Try.prog 77 = true := by kernel_rfl

end Go.Proofs.Ythbhljolpnbdlaa.S1



/- Contracts: the reference's pair and the sums, differences and products of fractions. -/
-- NEWSET
namespace Go.Proofs.Ythbhljolpnbdlaa.S1
open Go Go.Vh

section
variable {f : FuncId} {K : St → AHeap → Prop} {d : Option Nat} {s : St} {H : AHeap}
theorem call_DD0 {x y n : Nat} {u v : AV} {a b : Nat} (h : ∀ κ κ', okS κ (Dg.dg x).length → okS κ' (Dg.dg y).length → ACalls Try.prog f [mkS κ 0 0 (Dg.dg x).length, mkS κ' 1 0 (Dg.dg y).length] [ro (ints .i64 (Dg.dg x)), ro (ints .i64 (Dg.dg y))] (List.range 2) (DNew [ro (ints .i64 (Dg.dg x)), ro (ints .i64 (Dg.dg y))] n))
    (hu : AtD H u x a) (hv : AtD H v y b) (hK : ∀ w row, AtD (H ++ [some row]) w n H.length → w.cell = true → K (putI d s w) (H ++ [some row])) : thenC0 Try.prog K d s H [u, v] (.func f []) := by
  obtain ⟨κ, ra, h1, rfl, h3, h4⟩ := hu
  obtain ⟨κ', rb, k1, rfl, k3, k4⟩ := hv
  refine call_do0 (h κ κ' h1 k1) [(a, 0), (b, 0)] rfl ?_ rfl rfl ?_ ⟨seen_ro (n := 2) (σ := sig [(a, 0), (b, 0)] H.length) h3 (by rw [ints_length, Nat.zero_add]; exact AtD.len (H := H) (v := .any) (r := 0) h4) (by rw [flatL_ren ints_flat, List.drop_zero, ints_length, h4]) (flatL_under ints_flat), seen_ro (n := 2) (σ := sig [(a, 0), (b, 0)] H.length) k3 (by rw [ints_length, Nat.zero_add]; exact AtD.len (H := H) (v := .any) (r := 0) k4) (by rw [flatL_ren ints_flat, List.drop_zero, ints_length, k4]) (flatL_under ints_flat), trivial⟩ fun v0 H0' ⟨κ2, row, q1, q2, q3, q4, q5, q6⟩ => ?_
  · simp [underL, mkS_under]
  · rw [n_lcons, n_lcons, n_mkS0 (r' := a) rfl, n_mkS0 (r' := b) rfl]; rfl
  · subst q2; subst q3
    rw [m_merge, m_ro, m_ro, m_nil, n_mkS0 (r' := H.length) (by simp [sig]), show ([ro (ints .i64 (Dg.dg x)), ro (ints .i64 (Dg.dg y))] ++ [some row]).drop [ro (ints .i64 (Dg.dg x)), ro (ints .i64 (Dg.dg y))].length = [some row] from rfl, List.map_cons, List.map_nil, flat_row q6 q4]
    exact hK _ row ⟨κ2, row, q1, rfl, by simp [Vh.rowAt], q5⟩ mkS_cell
theorem call_mul0 {x y : Nat} {u v : AV} {a b : Nat} (hx : (Dg.dg x).length ≤ 100000) (hy : (Dg.dg y).length ≤ 100000) (hu : AtD H u x a) (hv : AtD H v y b) (hK : ∀ w row, AtD (H ++ [some row]) w (x * y) H.length → w.cell = true → K (putI d s w) (H ++ [some row])) : thenC0 Try.prog K d s H [u, v] (.func 119 []) :=
  call_DD0 (fun κ κ' h1 h2 => rmul_calls κ κ' (Dg.dg x) (Dg.dg y) x y h1 h2 hx hy (Dg.dg_dl x) (Dg.dg_dl y) (Dg.dg_num x) (Dg.dg_num y)) hu hv hK
end
theorem cfE_one (q : Fr) : cfE [q] = if q.short then (if q.den then 0 else 7) else 4 := by simp [cfE]
theorem cfE_two (q p : Fr) : cfE [q, p] = if q.short && p.short then (if q.den && p.den then 0 else 7) else 4 := by simp [cfE]

set_option maxHeartbeats 1000000 in
theorem rpair_calls (H0 : AHeap) {q p : Fr} (hq : q.ok H0) (hp : p.ok H0) : ACalls Try.prog 124 [.agg [q.w, q.w2], .agg [p.w, p.w2]] H0 (List.range H0.length) fun v H => v = .int .i64 (cfE [q, p]) ∧ Base H0 H := by
  refine ACalls.body Try.func124 ent_rpair ir_rpair_ok rs_rpair_ok Try.ntmps124 (by simp) rfl ?_
  unfold ir_rpair
  have e0 : s0 [.agg [q.w, q.w2], .agg [p.w, p.w2]] 0 = .agg [q.w, q.w2] := rfl
  have e1 : s0 [.agg [q.w, q.w2], .agg [p.w, p.w2]] 1 = .agg [p.w, p.w2] := rfl
  have hz : [AV.nilslice, AV.nilslice].all AV.cell = true := rfl
  simp (disch := omega) only [sN, ↓reduceIte, Nat.reduceEqDiff, Nat.reduceAdd, Nat.reduceMul, Nat.reduceSub, reduceCtorEq, e_none, e_some, e_bindS, e0, e1]
  rw [x_boxN (l := [q.w, q.w2]) (by simp only [e_upd, e_putS, e_putN, e_t, e_c, Nat.reduceEqDiff, ↓reduceIte, reduceCtorEq, Nat.reduceAdd, e0]) (by simp [hq.1.cell, hq.2.1.cell])]
  simp (disch := omega) only [sN, ↓reduceIte, Nat.reduceEqDiff, Nat.reduceAdd, Nat.reduceMul, Nat.reduceSub, reduceCtorEq, e_none, e_some, e_bindS, e0, e1]
  rw [x_boxN (l := [p.w, p.w2]) (by simp only [e_upd, e_putS, e_putN, e_t, e_c, Nat.reduceEqDiff, ↓reduceIte, reduceCtorEq, Nat.reduceAdd, e1]) (by simp [hp.1.cell, hp.2.1.cell])]
  obtain ⟨p2, hp2⟩ : ∃ r, r = (H0 ++ [rw_ [q.w, q.w2]]).length := ⟨_, rfl⟩
  have hp2' : H0.length ≤ p2 := by rw [hp2]; simp
  obtain ⟨H1, hH1⟩ : ∃ h, h = H0 ++ [rw_ [q.w, q.w2]] ++ [rw_ [p.w, p.w2]] := ⟨_, rfl⟩
  have hB1 : Base H0 H1 := by rw [hH1]; exact Base.one.app
  have r1 : Vh.rowAt H1 H0.length = some ⟨true, false, [q.w, q.w2]⟩ := by rw [hH1, rowAt_append_left (by simp)]; simp [Vh.rowAt, rw_]
  have r2 : Vh.rowAt H1 p2 = some ⟨true, false, [p.w, p.w2]⟩ := by rw [hH1, hp2]; simp [Vh.rowAt, rw_]
  rw [← hp2, ← hH1]
  clear hH1 hp2
  simp (disch := omega) only [sN, ↓reduceIte, Nat.reduceEqDiff, Nat.reduceAdd, Nat.reduceMul, Nat.reduceSub, reduceCtorEq, e_none, e_some, e_bindS]
  have fin : ∀ {c : Int} {H : AHeap} {s : St}, Base H0 H → cfE [q, p] = c → s 4 = .int .i64 c → retPost H0.length rs_rpair (fun v H => v = .int .i64 (cfE [q, p]) ∧ Base H0 H) .ret s H := fun {c H s} hb hc h4 => by
    refine ret_keep hb.1 ?_
    rw [rs_rpair, q_tmp, q_then, h4, hc]
    exact ⟨rfl, hb⟩
  rw [x_loadNA (n := 2) (r := H0.length) (l := [q.w, q.w2]) (by simp only [e_upd, e_putS, e_putN, e_t, e_c, Nat.reduceEqDiff, ↓reduceIte, reduceCtorEq, Nat.reduceAdd]) r1 rfl rfl]
  simp (disch := omega) only [sN, ↓reduceIte, Nat.reduceEqDiff, Nat.reduceAdd, Nat.reduceMul, Nat.reduceSub, reduceCtorEq, e_none, e_some, e_bindS, List.map_cons, List.map_nil]
  refine ⟨_, (rCheckFrac_calls H1 (hq.base hB1)).g.mono ?_⟩
  rintro v H ⟨rfl, hB2⟩
  have hb2 := hB1.trans hB2
  cases hs : q.short with
  | false =>
    have h1 : cfE [q] = 4 := by rw [cfE_one, hs]; rfl
    rw [h1]
    simp (disch := omega) only [sN, ↓reduceIte, Nat.reduceEqDiff, Nat.reduceAdd, Nat.reduceMul, Nat.reduceSub, reduceCtorEq, e_none, e_some, e_bindS, beq_self_eq_true]
    refine fin (c := 4) hb2 (by rw [cfE_two, hs]; rfl) ?_
    simp only [e_upd, e_putS, e_putN, e_t, e_c, Nat.reduceEqDiff, ↓reduceIte, reduceCtorEq, Nat.reduceAdd]
  | true =>
    have h1 : (cfE [q] == (4 : Int)) = false := by rw [cfE_one, hs]; cases q.den <;> rfl
    simp (disch := omega) only [sN, ↓reduceIte, Nat.reduceEqDiff, Nat.reduceAdd, Nat.reduceMul, Nat.reduceSub, reduceCtorEq, e_none, e_some, e_bindS, h1]
    rw [x_loadNA (n := 2) (r := p2) (l := [p.w, p.w2]) (by simp only [e_upd, e_putS, e_putN, e_t, e_c, Nat.reduceEqDiff, ↓reduceIte, reduceCtorEq, Nat.reduceAdd]) (hB2.row r2) rfl rfl]
    simp (disch := omega) only [sN, ↓reduceIte, Nat.reduceEqDiff, Nat.reduceAdd, Nat.reduceMul, Nat.reduceSub, reduceCtorEq, e_none, e_some, e_bindS, List.map_cons, List.map_nil]
    refine ⟨_, (rCheckFrac_calls H (hp.base hb2)).g.mono ?_⟩
    rintro v H3 ⟨rfl, hB3⟩
    have hb3 := hb2.trans hB3
    cases ht : p.short with
    | false =>
      have h2 : cfE [p] = 4 := by rw [cfE_one, ht]; rfl
      rw [h2]
      simp (disch := omega) only [sN, ↓reduceIte, Nat.reduceEqDiff, Nat.reduceAdd, Nat.reduceMul, Nat.reduceSub, reduceCtorEq, e_none, e_some, e_bindS, beq_self_eq_true]
      refine fin (c := 4) hb3 (by rw [cfE_two, hs, ht]; rfl) ?_
      simp only [e_upd, e_putS, e_putN, e_t, e_c, Nat.reduceEqDiff, ↓reduceIte, reduceCtorEq, Nat.reduceAdd]
    | true =>
      have h2 : (cfE [p] == (4 : Int)) = false := by rw [cfE_one, ht]; cases p.den <;> rfl
      simp (disch := omega) only [sN, ↓reduceIte, Nat.reduceEqDiff, Nat.reduceAdd, Nat.reduceMul, Nat.reduceSub, reduceCtorEq, e_none, e_some, e_bindS, h2]
      rw [x_loadNA (n := 2) (r := H0.length) (l := [q.w, q.w2]) (by simp only [e_upd, e_putS, e_putN, e_t, e_c, Nat.reduceEqDiff, ↓reduceIte, reduceCtorEq, Nat.reduceAdd]) ((hB2.trans hB3).row r1) rfl rfl]
      simp (disch := omega) only [sN, ↓reduceIte, Nat.reduceEqDiff, Nat.reduceAdd, Nat.reduceMul, Nat.reduceSub, reduceCtorEq, e_none, e_some, e_bindS, List.map_cons, List.map_nil]
      refine ⟨_, (rCheckFrac_calls H3 (hq.base hb3)).g.mono ?_⟩
      rintro v H4 ⟨rfl, hB4⟩
      have hb4 := hb3.trans hB4
      cases hd : q.den with
      | false =>
        have h3 : cfE [q] = 7 := by rw [cfE_one, hs, hd]; rfl
        rw [h3]
        simp (disch := omega) only [sN, ↓reduceIte, Nat.reduceEqDiff, Nat.reduceAdd, Nat.reduceMul, Nat.reduceSub, reduceCtorEq, e_none, e_some, e_bindS]
        refine fin (c := 7) hb4 (by rw [cfE_two, hs, ht, hd]; rfl) ?_
        simp only [e_upd, e_putS, e_putN, e_t, e_c, Nat.reduceEqDiff, ↓reduceIte, reduceCtorEq, Nat.reduceAdd]
      | true =>
        have h3 : cfE [q] = 0 := by rw [cfE_one, hs, hd]; rfl
        rw [h3]
        simp (disch := omega) only [sN, ↓reduceIte, Nat.reduceEqDiff, Nat.reduceAdd, Nat.reduceMul, Nat.reduceSub, reduceCtorEq, e_none, e_some, e_bindS]
        rw [x_loadNA (n := 2) (r := p2) (l := [p.w, p.w2]) (by simp only [e_upd, e_putS, e_putN, e_t, e_c, Nat.reduceEqDiff, ↓reduceIte, reduceCtorEq, Nat.reduceAdd]) (((hB2.trans hB3).trans hB4).row r2) rfl rfl]
        simp (disch := omega) only [sN, ↓reduceIte, Nat.reduceEqDiff, Nat.reduceAdd, Nat.reduceMul, Nat.reduceSub, reduceCtorEq, e_none, e_some, e_bindS, List.map_cons, List.map_nil]
        refine ⟨_, (rCheckFrac_calls H4 (hp.base hb4)).g.mono ?_⟩
        rintro v H5 ⟨rfl, hB5⟩
        have hb5 := hb4.trans hB5
        cases he : p.den with
        | false =>
          have h4 : cfE [p] = 7 := by rw [cfE_one, ht, he]; rfl
          rw [h4]
          simp (disch := omega) only [sN, ↓reduceIte, Nat.reduceEqDiff, Nat.reduceAdd, Nat.reduceMul, Nat.reduceSub, reduceCtorEq, e_none, e_some, e_bindS]
          refine fin (c := 7) hb5 (by rw [cfE_two, hs, ht, hd, he]; rfl) ?_
          simp only [e_upd, e_putS, e_putN, e_t, e_c, Nat.reduceEqDiff, ↓reduceIte, reduceCtorEq, Nat.reduceAdd]
        | true =>
          have h4 : cfE [p] = 0 := by rw [cfE_one, ht, he]; rfl
          rw [h4]
          simp (disch := omega) only [sN, ↓reduceIte, Nat.reduceEqDiff, Nat.reduceAdd, Nat.reduceMul, Nat.reduceSub, reduceCtorEq, e_none, e_some, e_bindS]
          refine fin (c := 0) hb5 (by rw [cfE_two, hs, ht, hd, he]; rfl) ?_
          simp only [e_upd, e_putS, e_putN, e_t, e_c, Nat.reduceEqDiff, ↓reduceIte, reduceCtorEq, Nat.reduceAdd]
theorem cfE2_good {q p : Fr} (h : cfE [q, p] = 0) : q.n ≤ 64 ∧ q.m ≤ 64 ∧ p.n ≤ 64 ∧ p.m ≤ 64 ∧ q.y ≠ 0 ∧ p.y ≠ 0 := by
  have := cfE_short h
  rw [cfE_two] at h
  split at h
  · split at h
    · rename_i h2
      simp [Fr.den] at h2
      exact ⟨this.1.1, this.1.2, this.2.1, this.2.2, h2.1, h2.2⟩
    · omega
  · omega
set_option maxHeartbeats 1000000 in
theorem rFracCompare_calls (H0 : AHeap) {q p : Fr} (hq : q.ok H0) (hp : p.ok H0) : ACalls Try.prog 81 [.agg [q.w, q.w2], .agg [p.w, p.w2]] H0 (List.range H0.length) fun v H => v = .tuple [.int .i64 (fcC q p), .int .i64 (cfE [q, p])] ∧ Base H0 H := by
  refine ACalls.body Try.func81 ent_rFracCompare ir_rFracCompare_ok rs_rFracCompare_ok Try.ntmps81 (by simp) rfl ?_
  unfold ir_rFracCompare
  have e0 : s0 [.agg [q.w, q.w2], .agg [p.w, p.w2]] 0 = .agg [q.w, q.w2] := rfl
  have e1 : s0 [.agg [q.w, q.w2], .agg [p.w, p.w2]] 1 = .agg [p.w, p.w2] := rfl
  have hz : [AV.nilslice, AV.nilslice].all AV.cell = true := rfl
  simp (disch := omega) only [sN, ↓reduceIte, Nat.reduceEqDiff, Nat.reduceAdd, Nat.reduceMul, Nat.reduceSub, reduceCtorEq, e_none, e_some, e_bindS, e0, e1]
  rw [x_boxN (l := [q.w, q.w2]) (by simp only [e_upd, e_putS, e_putN, e_t, e_c, Nat.reduceEqDiff, ↓reduceIte, reduceCtorEq, Nat.reduceAdd, e0]) (by simp [hq.1.cell, hq.2.1.cell])]
  simp (disch := omega) only [sN, ↓reduceIte, Nat.reduceEqDiff, Nat.reduceAdd, Nat.reduceMul, Nat.reduceSub, reduceCtorEq, e_none, e_some, e_bindS, e0, e1]
  rw [x_boxN (l := [p.w, p.w2]) (by simp only [e_upd, e_putS, e_putN, e_t, e_c, Nat.reduceEqDiff, ↓reduceIte, reduceCtorEq, Nat.reduceAdd, e1]) (by simp [hp.1.cell, hp.2.1.cell])]
  obtain ⟨p2, hp2⟩ : ∃ r, r = (H0 ++ [rw_ [q.w, q.w2]]).length := ⟨_, rfl⟩
  have hp2' : H0.length ≤ p2 := by rw [hp2]; simp
  obtain ⟨H1, hH1⟩ : ∃ h, h = H0 ++ [rw_ [q.w, q.w2]] ++ [rw_ [p.w, p.w2]] := ⟨_, rfl⟩
  have hB1 : Base H0 H1 := by rw [hH1]; exact Base.one.app
  have r1 : Vh.rowAt H1 H0.length = some ⟨true, false, [q.w, q.w2]⟩ := by rw [hH1, rowAt_append_left (by simp)]; simp [Vh.rowAt, rw_]
  have r2 : Vh.rowAt H1 p2 = some ⟨true, false, [p.w, p.w2]⟩ := by rw [hH1, hp2]; simp [Vh.rowAt, rw_]
  rw [← hp2, ← hH1]
  clear hH1 hp2
  simp (disch := omega) only [sN, ↓reduceIte, Nat.reduceEqDiff, Nat.reduceAdd, Nat.reduceMul, Nat.reduceSub, reduceCtorEq, e_none, e_some, e_bindS]
  rw [x_loadNA (n := 2) (r := H0.length) (l := [q.w, q.w2]) (by simp only [e_upd, e_putS, e_putN, e_t, e_c, Nat.reduceEqDiff, ↓reduceIte, reduceCtorEq, Nat.reduceAdd]) r1 rfl rfl]
  simp (disch := omega) only [sN, ↓reduceIte, Nat.reduceEqDiff, Nat.reduceAdd, Nat.reduceMul, Nat.reduceSub, reduceCtorEq, e_none, e_some, e_bindS]
  rw [x_loadNA (n := 2) (r := p2) (l := [p.w, p.w2]) (by simp only [e_upd, e_putS, e_putN, e_t, e_c, Nat.reduceEqDiff, ↓reduceIte, reduceCtorEq, Nat.reduceAdd]) r2 rfl rfl]
  simp (disch := omega) only [sN, ↓reduceIte, Nat.reduceEqDiff, Nat.reduceAdd, Nat.reduceMul, Nat.reduceSub, reduceCtorEq, e_none, e_some, e_bindS, List.map_cons, List.map_nil]
  refine ⟨_, (rpair_calls H1 (hq.base hB1) (hp.base hB1)).g.mono ?_⟩
  rintro v H ⟨rfl, hB2⟩
  have hBH := hB1.trans hB2
  have r1H := hB2.row r1
  have r2H := hB2.row r2
  by_cases hc : cfE [q, p] = 0
  · obtain ⟨l1, l2, l3, l4, _, _⟩ := cfE2_good hc
    have hF : fcC q p = cmpI (q.x * p.y) (p.x * q.y) := if_pos hc
    rw [hF, hc]
    have hqH := hq.base hBH
    have hpH := hp.base hBH
    obtain ⟨x0, xl⟩ := hqH.1.dgl
    obtain ⟨y0, yl⟩ := hqH.2.1.dgl
    obtain ⟨u0, ul⟩ := hpH.1.dgl
    obtain ⟨z0, zl⟩ := hpH.2.1.dgl
    have m1 := dg_mul_len xl zl
    have m2 := dg_mul_len ul yl
    simp (disch := omega) only [sN, ↓reduceIte, Nat.reduceEqDiff, Nat.reduceAdd, Nat.reduceMul, Nat.reduceSub, reduceCtorEq, e_none, e_some, e_bindS, r1H, r2H, p_fieldAddr, Nat.zero_add, Option.bind_some, Option.map_some, List.getElem?_cons_zero, List.getElem?_cons_succ, List.map_cons, List.map_nil]
    refine call_digV0 hqH.1 (by omega) fun R1 v1 b1 d1 _ => ?_
    simp (disch := omega) only [sN, ↓reduceIte, Nat.reduceEqDiff, Nat.reduceAdd, Nat.reduceMul, Nat.reduceSub, reduceCtorEq, e_none, e_some, e_bindS, List.map_cons, List.map_nil]
    refine call_digV0 (hpH.2.1.base Base.one) (by omega) fun R2 v2 b2 d2 _ => ?_
    simp (disch := omega) only [sN, ↓reduceIte, Nat.reduceEqDiff, Nat.reduceAdd, Nat.reduceMul, Nat.reduceSub, reduceCtorEq, e_none, e_some, e_bindS, List.map_cons, List.map_nil]
    refine call_mul0 (Nat.le_trans xl (by omega)) (Nat.le_trans zl (by omega)) (d1.base Base.one) d2 fun w3 row3 d3 _ => ?_
    simp (disch := omega) only [sN, ↓reduceIte, Nat.reduceEqDiff, Nat.reduceAdd, Nat.reduceMul, Nat.reduceSub, reduceCtorEq, e_none, e_some, e_bindS, List.map_cons, List.map_nil]
    refine call_digV0 (hpH.1.base Base.one.app.app) (by omega) fun R4 v4 b4 d4 _ => ?_
    simp (disch := omega) only [sN, ↓reduceIte, Nat.reduceEqDiff, Nat.reduceAdd, Nat.reduceMul, Nat.reduceSub, reduceCtorEq, e_none, e_some, e_bindS, List.map_cons, List.map_nil]
    refine call_digV (hqH.2.1.base Base.one.app.app.app) (by omega) fun R5 v5 b5 d5 _ => ?_
    simp (disch := omega) only [sN, ↓reduceIte, Nat.reduceEqDiff, Nat.reduceAdd, Nat.reduceMul, Nat.reduceSub, reduceCtorEq, e_none, e_some, e_bindS, List.map_cons, List.map_nil]
    refine call_mul (Nat.le_trans ul (by omega)) (Nat.le_trans yl (by omega)) (d4.base Base.one) d5 fun w6 row6 _ _ d6 _ => ?_
    simp (disch := omega) only [sN, ↓reduceIte, Nat.reduceEqDiff, Nat.reduceAdd, Nat.reduceMul, Nat.reduceSub, reduceCtorEq, e_none, e_some, e_bindS, List.map_cons, List.map_nil]
    refine call_cmp (Nat.le_trans m1 (by omega)) (Nat.le_trans m2 (by omega)) (d3.base Base.one.app.app) d6 ?_
    rw [Int.natCast_mul, Int.natCast_mul, Int.toNat_of_nonneg x0, Int.toNat_of_nonneg y0, Int.toNat_of_nonneg u0, Int.toNat_of_nonneg z0]
    simp (disch := omega) only [sN, ↓reduceIte, Nat.reduceEqDiff, Nat.reduceAdd, Nat.reduceMul, Nat.reduceSub, reduceCtorEq, e_none, e_some, e_bindS]
    refine ret_keep (by have := hBH.1; simp; omega) ?_
    rw [rs_rFracCompare, q_tmp2, q_then]
    refine ⟨?_, hBH.app.app.app.app.app.app⟩
    simp only [e_upd, e_putS, e_putN, e_t, e_c, Nat.reduceEqDiff, ↓reduceIte, reduceCtorEq, Nat.reduceAdd]
    rfl
  · have hF : fcC q p = 0 := if_neg hc
    rw [hF]
    simp (disch := omega) only [sN, ↓reduceIte, Nat.reduceEqDiff, Nat.reduceAdd, Nat.reduceMul, Nat.reduceSub, reduceCtorEq, e_none, e_some, e_bindS]
    refine ret_keep hBH.1 ?_
    rw [rs_rFracCompare, q_tmp2, q_then]
    refine ⟨?_, hBH⟩
    simp only [e_upd, e_putS, e_putN, e_t, e_c, Nat.reduceEqDiff, ↓reduceIte, reduceCtorEq, Nat.reduceAdd]
end Go.Proofs.Ythbhljolpnbdlaa.S1



/- Contracts: the reference's sums, differences and products of fractions. -/
-- NEWSET
namespace Go.Proofs.Ythbhljolpnbdlaa.S1
open Go Go.Vh

end Go.Proofs.Ythbhljolpnbdlaa.S1



/- Contracts: the reference's differences of fractions. -/
-- NEWSET
namespace Go.Proofs.Ythbhljolpnbdlaa.S1
open Go Go.Vh

end Go.Proofs.Ythbhljolpnbdlaa.S1



/- Contracts: exact's products of fractions, and what is common to sums and differences: the closures. -/
-- NEWSET
namespace Go.Proofs.Ythbhljolpnbdlaa.S1
open Go Go.Vh

end Go.Proofs.Ythbhljolpnbdlaa.S1



/- Contracts: exact's products of fractions. -/
-- NEWSET
namespace Go.Proofs.Ythbhljolpnbdlaa.S1
open Go Go.Vh

/-- how the heap is between the steps: the boxes, the closures and the result -/
structure FB (H1 H : AHeap) (g c : Nat) (fs : List AV) (u1 u2 : AV) : Prop where
  base : Base H1 H
  fns : Vh.rowAt H g = some ⟨true, false, fs⟩
  res : Vh.rowAt H c = some ⟨true, false, [u1, u2]⟩
end Go.Proofs.Ythbhljolpnbdlaa.S1



/- Contracts: what is common to exact's sums and differences of fractions. -/
-- NEWSET
namespace Go.Proofs.Ythbhljolpnbdlaa.S1
open Go Go.Vh

end Go.Proofs.Ythbhljolpnbdlaa.S1



/- Contracts: exact's sums and differences of fractions. -/
-- NEWSET
namespace Go.Proofs.Ythbhljolpnbdlaa.S1
open Go Go.Vh

/-- how the heap is between the steps -/
structure FO (H1 H : AHeap) (g m c : Nat) (fs : List AV) (w u1 u2 : AV) : Prop where
  base : Base H1 H
  fns : Vh.rowAt H g = some ⟨true, false, fs⟩
  num : Vh.rowAt H m = some ⟨true, false, [w]⟩
  res : Vh.rowAt H c = some ⟨true, false, [u1, u2]⟩

theorem xCheckFrac_calls (H0 : AHeap) {q : Fr} (hq : q.ok H0) : ACalls Try.prog 77 [.agg [q.w, q.w2]] H0 (List.range H0.length) fun v H => v = .int .i64 (cfE [q]) ∧ Base H0 H := by
  refine ACalls.body Try.func77 ent_xCheckFrac ir_xCheckFrac_ok rs_xCheckFrac_ok Try.ntmps77 (by simp) rfl ?_
  unfold ir_xCheckFrac
  have e0 : s0 [.agg [q.w, q.w2]] 0 = .agg [q.w, q.w2] := rfl
  simp (disch := omega) only [sN, ↓reduceIte, Nat.reduceEqDiff, Nat.reduceAdd, Nat.reduceMul, Nat.reduceSub, reduceCtorEq, e_none, e_some, e_bindS, e0]
  rw [x_boxN (l := [q.w, q.w2]) (by simp only [e_upd, e_putS, e_putN, e_t, e_c, Nat.reduceEqDiff, ↓reduceIte, reduceCtorEq, Nat.reduceAdd, e0]) (by simp [hq.1.cell, hq.2.1.cell])]
  have r1 : Vh.rowAt (H0 ++ [rw_ [q.w, q.w2]]) H0.length = some ⟨true, false, [q.w, q.w2]⟩ := by simp [Vh.rowAt, rw_]
  simp (disch := omega) only [sN, ↓reduceIte, Nat.reduceEqDiff, Nat.reduceAdd, Nat.reduceMul, Nat.reduceSub, reduceCtorEq, e_none, e_some, e_bindS]
  rw [x_loadNA (n := 2) (r := H0.length) (l := [q.w, q.w2]) (by simp only [e_upd, e_putS, e_putN, e_t, e_c, Nat.reduceEqDiff, ↓reduceIte, reduceCtorEq, Nat.reduceAdd]) r1 rfl rfl]
  simp (disch := omega) only [sN, ↓reduceIte, Nat.reduceEqDiff, Nat.reduceAdd, Nat.reduceMul, Nat.reduceSub, reduceCtorEq, e_none, e_some, e_bindS]
  rw [x_bsF1 (v1 := q.w) (v2 := q.w2) (by simp only [e_upd, e_putS, e_putN, e_t, e_c, Nat.reduceEqDiff, ↓reduceIte, reduceCtorEq, Nat.reduceAdd]) hq.1.cell hq.2.1.cell]
  simp (disch := omega) only [sN, ↓reduceIte, Nat.reduceEqDiff, Nat.reduceAdd, Nat.reduceMul, Nat.reduceSub, reduceCtorEq, e_none, e_some, e_bindS, List.map_cons, List.map_nil]
  refine ⟨_, (checkFracs_calls (H0 ++ [rw_ [q.w, q.w2]] ++ [rw_ [q.w, q.w2]]) [q] (n := 1) (r := (H0 ++ [rw_ [q.w, q.w2]]).length) (row := ⟨true, false, [q.w, q.w2]⟩) rfl (by omega) (by simp [Vh.rowAt, rw_]) rfl ?_).g.mono ?_⟩
  · intro f hf
    simp only [List.mem_cons, List.not_mem_nil, or_false] at hf
    subst hf
    exact hq.base Base.one.app
  rintro v H ⟨rfl, hB2⟩
  have hBH : Base H0 H := Base.one.app.trans hB2
  simp (disch := omega) only [sN, ↓reduceIte, Nat.reduceEqDiff, Nat.reduceAdd, Nat.reduceMul, Nat.reduceSub, reduceCtorEq, e_none, e_some, e_bindS]
  refine ret_keep hBH.1 ⟨?_, hBH⟩
  simp only [e_upd, e_putS, e_putN, e_t, e_c, Nat.reduceEqDiff, ↓reduceIte, reduceCtorEq, Nat.reduceAdd]
end Go.Proofs.Ythbhljolpnbdlaa.S1


