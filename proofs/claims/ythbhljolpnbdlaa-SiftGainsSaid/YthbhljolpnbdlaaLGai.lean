/- SiftGains: for all pulses, kept slots, bits and every first slot the law answers true, and leaves its argument as it is; no condition. -/
import Derived.Test.YthbhljolpnbdlaaRows
import Derived.Test.YthbhljolpnbdlaaTR
import Derived.Test.YthbhljolpnbdlaaSk7
import Derived.Test.YthbhljolpnbdlaaVY
import Derived.KernelRfl
import Derived.ProofKit
import Derived.OpenShut
set_option linter.unusedSimpArgs false
namespace Go.Proofs.Ythbhljolpnbdlaa.siftGains
open Go.ChangeShapes Go.WideShapes Go.ChangeAt Go.RowKit Go.Vh
set_option linter.unusedVariables false

theorem own : ownKnob Try.prog.godebug = none := by kernel_rfl
theorem cells89 : Try.prog.cellsOf 89 = 5 := by kernel_rfl
theorem cells22 : Try.prog.cellsOf 22 = 1 := by kernel_rfl
theorem cellsB : Try.prog.cellsOf 46 = 1 := by kernel_rfl
theorem cells38 : Try.prog.cellsOf 38 = 1 := by kernel_rfl
theorem cells57 : Try.prog.cellsOf 57 = 4 := by kernel_rfl
theorem fourL {α : Type} : ∀ {l : List α}, l.length = 4 → ∃ a b c d, l = [a, b, c, d]
  | [a, b, c, d], _ => ⟨a, b, c, d, rfl⟩
  | [], h | [_], h | [_, _], h | [_, _, _], h | _ :: _ :: _ :: _ :: _ :: _, h => by simp at h
theorem cells3 : Try.prog.cellsOf 3 = 1 := by kernel_rfl
theorem cells4 : Try.prog.cellsOf 4 = 1 := by kernel_rfl

/-- cells of that shape are those of pulses -/
theorem pcells_of {g : Nat → AV} : ∀ m : Nat, (∀ i, i < m → (∃ z, g (i * 5) = .int .i64 z) ∧ (∃ z, g (i * 5 + 1) = .bool z) ∧ (∃ z, g (i * 5 + 2) = .int .i64 z) ∧ (∃ z, g (i * 5 + 3) = .int .i64 z) ∧ ∃ z, g (i * 5 + 4) = .bool z) →
    ∃ L : List Pul, L.length = m ∧ pcells L = (List.range (m * 5)).map g
  | 0, _ => ⟨[], rfl, rfl⟩
  | m + 1, h => by
    obtain ⟨L, h1, h2⟩ := pcells_of m fun i hi => h i (by omega)
    obtain ⟨⟨a, ha⟩, ⟨b, hb⟩, ⟨c, hc⟩, ⟨d, hd⟩, ⟨e, he⟩⟩ := h m (by omega)
    refine ⟨L ++ [⟨a, b, c, d, e⟩], by simp [h1], ?_⟩
    rw [show (m + 1) * 5 = m * 5 + 1 + 1 + 1 + 1 + 1 by omega]
    simp only [List.range_succ, List.map_append, List.map_cons, List.map_nil, ← h2]
    rw [show m * 5 + 1 + 1 = m * 5 + 2 by omega, show m * 5 + 2 + 1 = m * 5 + 3 by omega, show m * 5 + 3 + 1 = m * 5 + 4 by omega, ha, hb, hc, hd, he]
    simp [pcells, pcell]

set_option maxRecDepth 100000 in
theorem lifted (os : Os) (started : os.Started) (H : Type) (enc : TypeId × Value → H) :
    ReturnsInHanded {} Try.checked os 8 .any (Rows.siftGainsSpec.pre6 enc Try.prog Try.f8 Rows.siftGainsRow.domain false) (Rows.siftGainsSpec.post enc Try.prog Try.f8 false true false false) := by
  refine returnsInHanded_of_change (C := Try.checked) own started (by kernel_rfl) Try.func8
    (ChangeSpec.witness6 (enc := enc) (C := Try.checked) false ⟨#[], #[.agg #[.slice none 0 0, .slice none 0 0, .slice none 0 0, .int .i64 0]], []⟩ 8 (by kernel_rfl) (by kernel_rfl) (by kernel_rfl) (by kernel_rfl)) ?_
  intro W base args ds gs before hval0 hW hcnd _
  have hval : ∀ (j : Nat) t v, Try.f8.params[j]? = some t → args[j]? = some v → Value.okWide Try.prog W .any base t v := hval0
  have hW' := hW
  obtain ⟨p, q, hA0, hV, rfl, hfz, hnd⟩ := hW
  have hA : DataW.TrodAll enc Try.prog W 0 (fun _ => true) true Try.f8.params.toList args.toList ds p := hA0
  rw [Try.params8] at hA hval
  obtain ⟨v0, vs0, d0, ds0, p0, q0, hargs, rfl, rfl, h0, r0⟩ := trodAll_cons hA
  obtain ⟨rfl, rfl, rfl⟩ := trodAll_nil r0
  obtain rfl : args = #[v0] := by cases args; simp_all
  obtain ⟨rfl, rfl⟩ := trodVars_none hV
  obtain ⟨cs0, rfl, hsz0⟩ := okWide_struct Try.underlying57 (hval 0 57 v0 rfl rfl)
  obtain ⟨fuel0, hf0⟩ := h0
  rw [cells57] at hsz0
  obtain ⟨cl0⟩ := cs0
  obtain ⟨c0, c1, c2, c3, rfl⟩ := fourL hsz0
  obtain ⟨xs0, n0, _, _, _, hxs0, hfld0⟩ := DataW.trod_struct Try.underlying57 hf0
  obtain ⟨y0, y1, y2, y3, rfl⟩ := fourL hxs0
  have f0 : DataW.trod enc Try.prog W 0 (fun _ => true) true n0 22 [c0] = some y0 := by
    have h : DataW.trod enc Try.prog W 0 (fun _ => true) true n0 22 (([c0, c1, c2, c3].drop 0).take (Try.prog.cellsOf 22)) = some y0 := hfld0 0 _ rfl
    rw [cells22] at h; exact h
  have f1 : DataW.trod enc Try.prog W 0 (fun _ => true) true n0 38 [c1] = some y1 := by
    have h : DataW.trod enc Try.prog W 0 (fun _ => true) true n0 38 (([c0, c1, c2, c3].drop 1).take (Try.prog.cellsOf 38)) = some y1 := hfld0 1 _ rfl
    rw [cells38] at h; exact h
  have f2 : DataW.trod enc Try.prog W 0 (fun _ => true) true n0 46 [c2] = some y2 := by
    have h : DataW.trod enc Try.prog W 0 (fun _ => true) true n0 46 (([c0, c1, c2, c3].drop 2).take (Try.prog.cellsOf 46)) = some y2 := hfld0 2 _ rfl
    rw [cellsB] at h; exact h
  have hf0' : DataW.trod enc Try.prog W 0 (fun _ => true) true fuel0 57 [c0, c1, c2, c3] = some (d0, p0) := hf0
  obtain ⟨f, g3, w3⟩ := cell_int Try.underlying57 (j := 3) rfl rfl Try.underlying3 cells3 hf0'
  simp only [List.getElem?_cons_zero, List.getElem?_cons_succ, Option.some.injEq] at g3
  subst g3
  have b3 : -9223372036854775808 ≤ f ∧ f ≤ 9223372036854775807 := by
    first | exact w3 | (simp only [Lit.wf, Bool.and_eq_true, decide_eq_true_eq] at w3; exact w3)
  obtain ⟨κ, m, g, z, hsh, hat, hk, hm, hg⟩ := field_fives Try.underlying22 cells89 (fun h => by
    obtain ⟨a, ha, _⟩ := cell_int Try.underlying89 (j := 0) rfl rfl Try.underlying3 cells3 h
    obtain ⟨b, hb⟩ := cell_bool Try.underlying89 (j := 1) rfl rfl Try.underlying4 cells4 h
    obtain ⟨c, hc, _⟩ := cell_int Try.underlying89 (j := 2) rfl rfl Try.underlying3 cells3 h
    obtain ⟨d, hd, _⟩ := cell_int Try.underlying89 (j := 3) rfl rfl Try.underlying3 cells3 h
    obtain ⟨f, hf⟩ := cell_bool Try.underlying89 (j := 4) rfl rfl Try.underlying4 cells4 h
    exact ⟨a, b, c, d, f, ha, hb, hc, hd, hf⟩) f0
  obtain ⟨L, hL, hLc⟩ := pcells_of m hsh
  rw [← hLc] at hat
  obtain ⟨κ2, z2, k2, at2, ok2, m2, _, g2⟩ := field_ints Try.underlying38 Try.underlying3 cells3 f1
  obtain ⟨κ', nb, bb, z', hat', hk', hn, hg'⟩ := field_bools Try.underlying46 Try.underlying4 cells4 f2
  obtain ⟨Ww, hw⟩ := known_calls
  have hlaw := lawGai_calls hw κ κ2 κ' m z2.l.length nb L z2.l bb f hk hL hm ok2 rfl m2 hk' hn b3
  have hat2 : CRow.at ⟨ints .i64 z2.l, z2.x⟩ W := by
    obtain ⟨kk, ll, xx⟩ := z2
    subst k2
    refine ⟨at2.1, fun i c hi => ?_⟩
    have hlt : i < ll.length := by
      rcases Nat.lt_or_ge i ll.length with h | h
      · exact h
      · simp only at hi
        rw [List.getElem?_eq_none (by rw [ints_length]; exact h)] at hi; cases hi
    simp only at hi
    rw [ints_get hlt] at hi
    cases hi
    exact ⟨rfl, _, at2.2 i hlt, fun _ => .int _ _⟩
  refine (ACalls.onRows (rs := [⟨pcells L, z⟩, ⟨ints .i64 z2.l, z2.x⟩, ⟨bt nb bb, z'⟩]) hlaw (w := W) (fun r hr => ?_) (vs := [.agg #[c0, c1, c2, .int .i64 f]]) (.cons _ _ _ _ (.agg _ _ (.cons _ _ _ _ (hg _ 0 rfl) (.cons _ _ _ _ (g2 _ 1 rfl) (.cons _ _ _ _ (hg' _ 2 rfl) (.cons _ _ _ _ (.int _ _) .nil))))) .nil)).mono fun e W' ⟨v, v', ρ', H', he, hv, hr, hf⟩ => ?_
  · simp only [List.mem_cons, List.not_mem_nil, or_false] at hr
    rcases hr with rfl | rfl | rfl
    · exact hat
    · exact hat2
    · exact hat'
  subst he; subst hv
  have hv' := hr.bool_inv
  subst hv'
  exact ⟨_, rfl, law_post' (by kernel_rfl) (by kernel_rfl) Try.underlying4 rfl rfl rfl rfl hW' hf⟩

theorem proved : Rows.SiftGainsSaid :=
  OpenClaim.holds_of_wide 8 Try.f8 rfl rfl rfl rfl rfl rfl rfl ⟨rfl, rfl, rfl, rfl, rfl⟩ rfl rfl rfl rfl rfl (by kernel_rfl) Try.func8 (by kernel_rfl)
    (of_decide_eq_true (by kernel_rfl)) (by unfold Func.isWrapper; first | (rw [if_pos (by decide +kernel)]; kernel_rfl) | (rw [if_neg (by decide +kernel)]; exact ⟨rfl, rfl⟩))
    (fun os started H enc _ => lifted os started H enc)
end Go.Proofs.Ythbhljolpnbdlaa.siftGains

