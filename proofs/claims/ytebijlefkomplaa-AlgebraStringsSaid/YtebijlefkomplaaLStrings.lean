/- AlgebraStrings: for every two bit strings and every list of numbers the law answers true, and leaves its arguments as they are; no condition. -/
import Derived.Test.YtebijlefkomplaaRows
import Derived.Test.YtebijlefkomplaaBZ
import Derived.Test.YtebijlefkomplaaVh32
import Derived.KernelRfl
import Derived.ProofKit
import Derived.OpenShut
set_option linter.unusedSimpArgs false
namespace Go.Proofs.Ytebijlefkomplaa.algebraStrings
open Go.ChangeShapes Go.WideShapes Go.ChangeAt Go.RowKit Go.Vh
set_option linter.unusedVariables false

theorem own : ownKnob Try.prog.godebug = none := by kernel_rfl
theorem cells4 : Try.prog.cellsOf 4 = 1 := by kernel_rfl
theorem cells3 : Try.prog.cellsOf 3 = 1 := by kernel_rfl

theorem row_ints {r : IRow} {w : World} (hk : r.k = .i64) (h : r.at w) : CRow.at ⟨nt r.l.length (fun i => r.l.getD i 0), r.x⟩ w := by
  refine ⟨h.1, fun i c hi => ?_⟩
  have hlt : i < r.l.length := by
    rcases Nat.lt_or_ge i r.l.length with h1 | h1
    · exact h1
    · simp only at hi
      rw [List.getElem?_eq_none (by rw [nt_length]; exact h1)] at hi; cases hi
  simp only at hi
  rw [nt_get hlt] at hi
  cases hi
  have := h.2 i hlt
  rw [hk] at this
  exact ⟨rfl, _, this, fun _ => .int _ _⟩

set_option maxRecDepth 100000 in
theorem lifted (os : Os) (started : os.Started) (H : Type) (enc : TypeId × Value → H) :
    ReturnsInHanded {} Try.checked os 14 .any (Rows.algebraStringsSpec.pre6 enc Try.prog Try.f14 Rows.algebraStringsRow.domain false) (Rows.algebraStringsSpec.post enc Try.prog Try.f14 false true false false) := by
  refine returnsInHanded_of_change (C := Try.checked) own started (by kernel_rfl) Try.func14
    (ChangeSpec.witness6 (enc := enc) (C := Try.checked) false ⟨#[], #[.slice none 0 0, .slice none 0 0, .slice none 0 0], []⟩ 8 (by kernel_rfl) (by kernel_rfl) (by kernel_rfl) (by kernel_rfl)) ?_
  intro W base args ds gs before hval0 hW hcnd _
  have hval : ∀ (j : Nat) t v, Try.f14.params[j]? = some t → args[j]? = some v → Value.okWide Try.prog W .any base t v := hval0
  have hW' := hW
  obtain ⟨p, q, hA0, hV, rfl, hfz, hnd⟩ := hW
  have hA : DataW.TrodAll enc Try.prog W 0 (fun _ => true) true Try.f14.params.toList args.toList ds p := hA0
  rw [Try.params14] at hA hval
  obtain ⟨v0, vs0, d0, ds0, p0, q0, hargs, rfl, rfl, h0, r0⟩ := trodAll_cons hA
  obtain ⟨v1, vs1, d1, ds1, p1, q1, rfl, rfl, rfl, h1, r1⟩ := trodAll_cons r0
  obtain ⟨v2, vs2, d2, ds2, p2, q2, rfl, rfl, rfl, h2, r2⟩ := trodAll_cons r1
  obtain ⟨rfl, rfl, rfl⟩ := trodAll_nil r2
  obtain rfl : args = #[v0, v1, v2] := by cases args; simp_all
  obtain ⟨rfl, rfl⟩ := trodVars_none hV
  obtain ⟨κ0, n0, f0, x0, a0, k0, m0, g0⟩ := open_row_bools Try.underlying37 Try.underlying4 cells4 (hval 0 37 v0 rfl rfl) h0
  obtain ⟨κ1, n1, f1, x1, a1, k1, m1, g1⟩ := open_row_bools Try.underlying37 Try.underlying4 cells4 (hval 1 37 v1 rfl rfl) h1
  obtain ⟨κ2, r, hrk, hrat, k2, m2, _, g2⟩ := open_row_ints Try.underlying35 Try.underlying3 cells3 (hval 2 35 v2 rfl rfl) h2
  have a2 : CRow.at ⟨nt r.l.length (fun i => r.l.getD i 0), r.x⟩ W := row_ints hrk hrat
  have hlaw := lStrings_calls κ0 κ1 κ2 n0 n1 r.l.length f0 f1 (fun i => r.l.getD i 0) k0 k1 k2 m0 m1 m2
  refine (ACalls.onRows (rs := [⟨bt n0 f0, x0⟩, ⟨bt n1 f1, x1⟩, ⟨nt r.l.length (fun i => r.l.getD i 0), r.x⟩]) hlaw (w := W) (fun r hr => ?_) (vs := [v0, v1, v2]) (.cons _ _ _ _ (g0 _ 0 rfl) (.cons _ _ _ _ (g1 _ 1 rfl) (.cons _ _ _ _ (g2 _ 2 rfl) .nil)))).mono fun e W' ⟨v, v', ρ', H', he, hv, hr, hf⟩ => ?_
  · simp only [List.mem_cons, List.not_mem_nil, or_false] at hr
    rcases hr with rfl | rfl | rfl
    · exact a0
    · exact a1
    · exact a2
  subst he; subst hv
  have hv' := hr.bool_inv
  subst hv'
  exact ⟨_, rfl, law_post' (by kernel_rfl) (by kernel_rfl) Try.underlying4 rfl rfl rfl rfl hW' hf⟩

theorem proved : Rows.AlgebraStringsSaid :=
  OpenClaim.holds_of_wide 14 Try.f14 rfl rfl rfl rfl rfl rfl rfl ⟨rfl, rfl, rfl, rfl, rfl⟩ rfl rfl rfl rfl rfl (by kernel_rfl) Try.func14 (by kernel_rfl)
    (of_decide_eq_true (by kernel_rfl)) (by unfold Func.isWrapper; first | (rw [if_pos (by decide +kernel)]; kernel_rfl) | (rw [if_neg (by decide +kernel)]; exact ⟨rfl, rfl⟩))
    (fun os started H enc _ => lifted os started H enc)
end Go.Proofs.Ytebijlefkomplaa.algebraStrings
