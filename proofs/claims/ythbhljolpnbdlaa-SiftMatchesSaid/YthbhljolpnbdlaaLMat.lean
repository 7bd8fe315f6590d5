/- SiftMatches: for all pulses, announcements and every number the law answers true, and leaves its arguments as they are; no condition. -/
import Derived.Test.YthbhljolpnbdlaaRows
import Derived.Test.YthbhljolpnbdlaaT18
import Derived.Test.YthbhljolpnbdlaaSk7
import Derived.Test.YthbhljolpnbdlaaVY
import Derived.KernelRfl
import Derived.ProofKit
import Derived.OpenShut
set_option linter.unusedSimpArgs false
namespace Go.Proofs.Ythbhljolpnbdlaa.siftMatches
open Go.ChangeShapes Go.WideShapes Go.ChangeAt Go.RowKit Go.Vh
set_option linter.unusedVariables false

theorem own : ownKnob Try.prog.godebug = none := by kernel_rfl
theorem cells89 : Try.prog.cellsOf 89 = 5 := by kernel_rfl
theorem cells91 : Try.prog.cellsOf 91 = 2 := by kernel_rfl
theorem cells3 : Try.prog.cellsOf 3 = 1 := by kernel_rfl
theorem cells4 : Try.prog.cellsOf 4 = 1 := by kernel_rfl

/-- cells of that shape are those of pulses -/
theorem pcells_of {g : Nat → AV} : ∀ m : Nat, (∀ i, i < m → (∃ z, g (i * 5) = .int .i64 z) ∧ (∃ z, g (i * 5 + 1) = .bool z) ∧ (∃ z, g (i * 5 + 2) = .int .i64 z) ∧ (∃ z, g (i * 5 + 3) = .int .i64 z) ∧ ∃ z, g (i * 5 + 4) = .bool z) →
    ∃ L : List Pul, L.length = m ∧ pcells L = (List.range (m * 5)).map g
  | 0, _ => ⟨[], rfl, rfl⟩
  | m + 1, h => by
    obtain ⟨L, h1, h2⟩ := pcells_of m fun i hi => h i (by omega)
    obtain ⟨⟨a, ha⟩, ⟨b, hb⟩, ⟨c, hc⟩, ⟨d, hd⟩, ⟨e, he⟩⟩ := h m (by omega)
    refine ⟨L ++ [⟨a, b, c, d, e⟩], by simp [h1], ?_⟩
    rw [show (m + 1) * 5 = m * 5 + 1 + 1 + 1 + 1 + 1 by omega]
    simp only [List.range_succ, List.map_append, List.map_cons, List.map_nil, ← h2]
    rw [show m * 5 + 1 + 1 = m * 5 + 2 by omega, show m * 5 + 2 + 1 = m * 5 + 3 by omega, show m * 5 + 3 + 1 = m * 5 + 4 by omega, ha, hb, hc, hd, he]
    simp [pcells, pcell]

set_option maxRecDepth 100000 in
theorem lifted (os : Os) (started : os.Started) (H : Type) (enc : TypeId × Value → H) :
    ReturnsInHanded {} Try.checked os 5 .any (Rows.siftMatchesSpec.pre6 enc Try.prog Try.f5 Rows.siftMatchesRow.domain false) (Rows.siftMatchesSpec.post enc Try.prog Try.f5 false true false false) := by
  refine returnsInHanded_of_change (C := Try.checked) own started (by kernel_rfl) Try.func5
    (ChangeSpec.witness6 (enc := enc) (C := Try.checked) false ⟨#[], #[.slice none 0 0, .slice none 0 0, .int .i64 0], []⟩ 8 (by kernel_rfl) (by kernel_rfl) (by kernel_rfl) (by kernel_rfl)) ?_
  intro W base args ds gs before hval0 hW hcnd _
  have hval : ∀ (j : Nat) t v, Try.f5.params[j]? = some t → args[j]? = some v → Value.okWide Try.prog W .any base t v := hval0
  have hW' := hW
  obtain ⟨p, q, hA0, hV, rfl, hfz, hnd⟩ := hW
  have hA : DataW.TrodAll enc Try.prog W 0 (fun _ => true) true Try.f5.params.toList args.toList ds p := hA0
  rw [Try.params5] at hA hval
  obtain ⟨v0, vs0, d0, ds0, p0, q0, hargs, rfl, rfl, h0, r0⟩ := trodAll_cons hA
  obtain ⟨v1, vs1, d1, ds1, p1, q1, rfl, rfl, rfl, h1, r1⟩ := trodAll_cons r0
  obtain ⟨v2, vs2, d2, ds2, p2, q2, rfl, rfl, rfl, h2, r2⟩ := trodAll_cons r1
  obtain ⟨rfl, rfl, rfl⟩ := trodAll_nil r2
  obtain rfl : args = #[v0, v1, v2] := by cases args; simp_all
  obtain ⟨rfl, rfl⟩ := trodVars_none hV
  obtain ⟨κ, m, g, z, hsh, hat, hk, hm, hg⟩ := open_row_fives Try.underlying22 cells89 (fun h => by
    obtain ⟨a, ha, _⟩ := cell_int Try.underlying89 (j := 0) rfl rfl Try.underlying3 cells3 h
    obtain ⟨b, hb⟩ := cell_bool Try.underlying89 (j := 1) rfl rfl Try.underlying4 cells4 h
    obtain ⟨c, hc, _⟩ := cell_int Try.underlying89 (j := 2) rfl rfl Try.underlying3 cells3 h
    obtain ⟨d, hd, _⟩ := cell_int Try.underlying89 (j := 3) rfl rfl Try.underlying3 cells3 h
    obtain ⟨f, hf⟩ := cell_bool Try.underlying89 (j := 4) rfl rfl Try.underlying4 cells4 h
    exact ⟨a, b, c, d, f, ha, hb, hc, hd, hf⟩) (hval 0 22 v0 rfl rfl) h0
  obtain ⟨L, hL, hLc⟩ := pcells_of m hsh
  rw [← hLc] at hat
  obtain ⟨κ', n, l, z', hl, hin, hat', hk', hn, hg'⟩ := open_row_pairs Try.underlying33 Try.underlying91 cells91 rfl (fun i hi => by
    rcases (show i = 0 ∨ i = 1 by omega) with rfl | rfl
    · exact ⟨_, rfl, rfl, Try.underlying3, cells3⟩
    · exact ⟨_, rfl, rfl, Try.underlying3, cells3⟩) (hval 1 33 v1 rfl rfl) h1
  obtain ⟨a, rfl, _, _, _⟩ := open_int Try.underlying3 (hval 2 3 v2 rfl rfl) h2
  obtain ⟨Ww, hw⟩ := known_calls
  have hlaw := lawMat_calls hw κ κ' m n L l a hk hL hm hk' hl hn
  refine (ACalls.onRows (rs := [⟨pcells L, z⟩, ⟨ints .i64 l, z'⟩]) hlaw (w := W) (fun r hr => ?_) (vs := [v0, v1, .int .i64 a]) (.cons _ _ _ _ (hg _ 0 rfl) (.cons _ _ _ _ (hg' _ 1 rfl) (.cons _ _ _ _ (.int _ _) .nil)))).mono fun e W' ⟨v, v', ρ', H', he, hv, hr, hf⟩ => ?_
  · simp only [List.mem_cons, List.not_mem_nil, or_false] at hr
    rcases hr with rfl | rfl
    · exact hat
    · exact hat'
  subst he; subst hv
  have hv' := hr.bool_inv
  subst hv'
  exact ⟨_, rfl, law_post' (by kernel_rfl) (by kernel_rfl) Try.underlying4 rfl rfl rfl rfl hW' hf⟩

theorem proved : Rows.SiftMatchesSaid :=
  OpenClaim.holds_of_wide 5 Try.f5 rfl rfl rfl rfl rfl rfl rfl ⟨rfl, rfl, rfl, rfl, rfl⟩ rfl rfl rfl rfl rfl (by kernel_rfl) Try.func5 (by kernel_rfl)
    (of_decide_eq_true (by kernel_rfl)) (by unfold Func.isWrapper; first | (rw [if_pos (by decide +kernel)]; kernel_rfl) | (rw [if_neg (by decide +kernel)]; exact ⟨rfl, rfl⟩))
    (fun os started H enc _ => lifted os started H enc)
end Go.Proofs.Ythbhljolpnbdlaa.siftMatches

