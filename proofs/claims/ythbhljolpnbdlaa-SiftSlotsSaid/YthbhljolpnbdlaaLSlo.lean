/- SiftSlots: for all pulses, clicks, slots and every two numbers the law answers true, and leaves its argument as it is; no condition. -/
import Derived.Test.YthbhljolpnbdlaaRows
import Derived.Test.YthbhljolpnbdlaaTJ
import Derived.Test.YthbhljolpnbdlaaSk7
import Derived.Test.YthbhljolpnbdlaaVY
import Derived.KernelRfl
import Derived.ProofKit
import Derived.OpenShut
set_option linter.unusedSimpArgs false
namespace Go.Proofs.Ythbhljolpnbdlaa.siftSlots
open Go.ChangeShapes Go.WideShapes Go.ChangeAt Go.RowKit Go.Vh
set_option linter.unusedVariables false

theorem own : ownKnob Try.prog.godebug = none := by kernel_rfl
theorem cells89 : Try.prog.cellsOf 89 = 5 := by kernel_rfl
theorem cells87 : Try.prog.cellsOf 87 = 2 := by kernel_rfl
theorem cells22 : Try.prog.cellsOf 22 = 1 := by kernel_rfl
theorem cells23 : Try.prog.cellsOf 23 = 1 := by kernel_rfl
theorem cells38 : Try.prog.cellsOf 38 = 1 := by kernel_rfl
theorem cells44 : Try.prog.cellsOf 44 = 5 := by kernel_rfl
theorem fiveL {α : Type} : ∀ {l : List α}, l.length = 5 → ∃ a b c d e, l = [a, b, c, d, e]
  | [a, b, c, d, e], _ => ⟨a, b, c, d, e, rfl⟩
  | [], h | [_], h | [_, _], h | [_, _, _], h | [_, _, _, _], h | _ :: _ :: _ :: _ :: _ :: _ :: _, h => by simp at h
theorem cells3 : Try.prog.cellsOf 3 = 1 := by kernel_rfl
theorem cells4 : Try.prog.cellsOf 4 = 1 := by kernel_rfl

/-- cells of that shape are those of pulses -/
theorem pcells_of {g : Nat → AV} : ∀ m : Nat, (∀ i, i < m → (∃ z, g (i * 5) = .int .i64 z) ∧ (∃ z, g (i * 5 + 1) = .bool z) ∧ (∃ z, g (i * 5 + 2) = .int .i64 z) ∧ (∃ z, g (i * 5 + 3) = .int .i64 z) ∧ ∃ z, g (i * 5 + 4) = .bool z) →
    ∃ L : List Pul, L.length = m ∧ pcells L = (List.range (m * 5)).map g
  | 0, _ => ⟨[], rfl, rfl⟩
  | m + 1, h => by
    obtain ⟨L, h1, h2⟩ := pcells_of m fun i hi => h i (by omega)
    obtain ⟨⟨a, ha⟩, ⟨b, hb⟩, ⟨c, hc⟩, ⟨d, hd⟩, ⟨e, he⟩⟩ := h m (by omega)
    refine ⟨L ++ [⟨a, b, c, d, e⟩], by simp [h1], ?_⟩
    rw [show (m + 1) * 5 = m * 5 + 1 + 1 + 1 + 1 + 1 by omega]
    simp only [List.range_succ, List.map_append, List.map_cons, List.map_nil, ← h2]
    rw [show m * 5 + 1 + 1 = m * 5 + 2 by omega, show m * 5 + 2 + 1 = m * 5 + 3 by omega, show m * 5 + 3 + 1 = m * 5 + 4 by omega, ha, hb, hc, hd, he]
    simp [pcells, pcell]

set_option maxRecDepth 100000 in
theorem lifted (os : Os) (started : os.Started) (H : Type) (enc : TypeId × Value → H) :
    ReturnsInHanded {} Try.checked os 6 .any (Rows.siftSlotsSpec.pre6 enc Try.prog Try.f6 Rows.siftSlotsRow.domain false) (Rows.siftSlotsSpec.post enc Try.prog Try.f6 false true false false) := by
  refine returnsInHanded_of_change (C := Try.checked) own started (by kernel_rfl) Try.func6
    (ChangeSpec.witness6 (enc := enc) (C := Try.checked) false ⟨#[], #[.agg #[.slice none 0 0, .slice none 0 0, .slice none 0 0, .int .i64 0, .int .i64 0]], []⟩ 8 (by kernel_rfl) (by kernel_rfl) (by kernel_rfl) (by kernel_rfl)) ?_
  intro W base args ds gs before hval0 hW hcnd _
  have hval : ∀ (j : Nat) t v, Try.f6.params[j]? = some t → args[j]? = some v → Value.okWide Try.prog W .any base t v := hval0
  have hW' := hW
  obtain ⟨p, q, hA0, hV, rfl, hfz, hnd⟩ := hW
  have hA : DataW.TrodAll enc Try.prog W 0 (fun _ => true) true Try.f6.params.toList args.toList ds p := hA0
  rw [Try.params6] at hA hval
  obtain ⟨v0, vs0, d0, ds0, p0, q0, hargs, rfl, rfl, h0, r0⟩ := trodAll_cons hA
  obtain ⟨rfl, rfl, rfl⟩ := trodAll_nil r0
  obtain rfl : args = #[v0] := by cases args; simp_all
  obtain ⟨rfl, rfl⟩ := trodVars_none hV
  obtain ⟨cs0, rfl, hsz0⟩ := okWide_struct Try.underlying44 (hval 0 44 v0 rfl rfl)
  obtain ⟨fuel0, hf0⟩ := h0
  rw [cells44] at hsz0
  obtain ⟨cl0⟩ := cs0
  obtain ⟨c0, c1, c2, c3, c4, rfl⟩ := fiveL hsz0
  obtain ⟨xs0, n0, _, _, _, hxs0, hfld0⟩ := DataW.trod_struct Try.underlying44 hf0
  obtain ⟨y0, y1, y2, y3, y4, rfl⟩ := fiveL hxs0
  have f0 : DataW.trod enc Try.prog W 0 (fun _ => true) true n0 22 [c0] = some y0 := by
    have h : DataW.trod enc Try.prog W 0 (fun _ => true) true n0 22 (([c0, c1, c2, c3, c4].drop 0).take (Try.prog.cellsOf 22)) = some y0 := hfld0 0 _ rfl
    rw [cells22] at h; exact h
  have f1 : DataW.trod enc Try.prog W 0 (fun _ => true) true n0 23 [c1] = some y1 := by
    have h : DataW.trod enc Try.prog W 0 (fun _ => true) true n0 23 (([c0, c1, c2, c3, c4].drop 1).take (Try.prog.cellsOf 23)) = some y1 := hfld0 1 _ rfl
    rw [cells23] at h; exact h
  have f2 : DataW.trod enc Try.prog W 0 (fun _ => true) true n0 38 [c2] = some y2 := by
    have h : DataW.trod enc Try.prog W 0 (fun _ => true) true n0 38 (([c0, c1, c2, c3, c4].drop 2).take (Try.prog.cellsOf 38)) = some y2 := hfld0 2 _ rfl
    rw [cells38] at h; exact h
  have hf0' : DataW.trod enc Try.prog W 0 (fun _ => true) true fuel0 44 [c0, c1, c2, c3, c4] = some (d0, p0) := hf0
  obtain ⟨c, g3, _⟩ := cell_int Try.underlying44 (j := 3) rfl rfl Try.underlying3 cells3 hf0'
  obtain ⟨sh, g4, _⟩ := cell_int Try.underlying44 (j := 4) rfl rfl Try.underlying3 cells3 hf0'
  simp only [List.getElem?_cons_zero, List.getElem?_cons_succ, Option.some.injEq] at g3 g4
  subst g3; subst g4
  obtain ⟨κ, m, g, z, hsh, hat, hk, hm, hg⟩ := field_fives Try.underlying22 cells89 (fun h => by
    obtain ⟨a, ha, _⟩ := cell_int Try.underlying89 (j := 0) rfl rfl Try.underlying3 cells3 h
    obtain ⟨b, hb⟩ := cell_bool Try.underlying89 (j := 1) rfl rfl Try.underlying4 cells4 h
    obtain ⟨c, hc, _⟩ := cell_int Try.underlying89 (j := 2) rfl rfl Try.underlying3 cells3 h
    obtain ⟨d, hd, _⟩ := cell_int Try.underlying89 (j := 3) rfl rfl Try.underlying3 cells3 h
    obtain ⟨f, hf⟩ := cell_bool Try.underlying89 (j := 4) rfl rfl Try.underlying4 cells4 h
    exact ⟨a, b, c, d, f, ha, hb, hc, hd, hf⟩) f0
  obtain ⟨L, hL, hLc⟩ := pcells_of m hsh
  rw [← hLc] at hat
  obtain ⟨κ', n, l, z', hl, hin, hat', hk', hn, hg'⟩ := field_pairs Try.underlying23 Try.underlying87 cells87 rfl (fun i hi => by
    rcases (show i = 0 ∨ i = 1 by omega) with rfl | rfl
    · exact ⟨_, rfl, rfl, Try.underlying3, cells3⟩
    · exact ⟨_, rfl, rfl, Try.underlying3, cells3⟩) f1
  obtain ⟨κ2, z2, k2, at2, ok2, m2, _, g2⟩ := field_ints Try.underlying38 Try.underlying3 cells3 f2
  obtain ⟨Ww, hw⟩ := known_calls
  have hlaw := lawSlots_calls hw κ κ' κ2 m n z2.l.length L l z2.l c sh hk hL hm hk' hl hn ok2 rfl m2
  have hat2 : CRow.at ⟨ints .i64 z2.l, z2.x⟩ W := by
    obtain ⟨kk, ll, xx⟩ := z2
    subst k2
    refine ⟨at2.1, fun i c hi => ?_⟩
    have hlt : i < ll.length := by
      rcases Nat.lt_or_ge i ll.length with h | h
      · exact h
      · simp only at hi
        rw [List.getElem?_eq_none (by rw [ints_length]; exact h)] at hi; cases hi
    simp only at hi
    rw [ints_get hlt] at hi
    cases hi
    exact ⟨rfl, _, at2.2 i hlt, fun _ => .int _ _⟩
  refine (ACalls.onRows (rs := [⟨pcells L, z⟩, ⟨ints .i64 l, z'⟩, ⟨ints .i64 z2.l, z2.x⟩]) hlaw (w := W) (fun r hr => ?_) (vs := [.agg #[c0, c1, c2, .int .i64 c, .int .i64 sh]]) (.cons _ _ _ _ (.agg _ _ (.cons _ _ _ _ (hg _ 0 rfl) (.cons _ _ _ _ (hg' _ 1 rfl) (.cons _ _ _ _ (g2 _ 2 rfl) (.cons _ _ _ _ (.int _ _) (.cons _ _ _ _ (.int _ _) .nil)))))) .nil)).mono fun e W' ⟨v, v', ρ', H', he, hv, hr, hf⟩ => ?_
  · simp only [List.mem_cons, List.not_mem_nil, or_false] at hr
    rcases hr with rfl | rfl | rfl
    · exact hat
    · exact hat'
    · exact hat2
  subst he; subst hv
  have hv' := hr.bool_inv
  subst hv'
  exact ⟨_, rfl, law_post' (by kernel_rfl) (by kernel_rfl) Try.underlying4 rfl rfl rfl rfl hW' hf⟩

theorem proved : Rows.SiftSlotsSaid :=
  OpenClaim.holds_of_wide 6 Try.f6 rfl rfl rfl rfl rfl rfl rfl ⟨rfl, rfl, rfl, rfl, rfl⟩ rfl rfl rfl rfl rfl (by kernel_rfl) Try.func6 (by kernel_rfl)
    (of_decide_eq_true (by kernel_rfl)) (by unfold Func.isWrapper; first | (rw [if_pos (by decide +kernel)]; kernel_rfl) | (rw [if_neg (by decide +kernel)]; exact ⟨rfl, rfl⟩))
    (fun os started H enc _ => lifted os started H enc)
end Go.Proofs.Ythbhljolpnbdlaa.siftSlots

