/- AlgebraForms: for all forms the law answers true, and leaves its argument as it is; no condition. -/
import Derived.Test.YtebijlefkomplabRows
import Derived.Test.YtebijlefkomplabP17
import Derived.Test.YtebijlefkomplabVh35
import Derived.KernelRfl
import Derived.ProofKit
import Derived.OpenShut
set_option linter.unusedSimpArgs false
namespace Go.Proofs.Ytebijlefkomplab.algebraForms
open Go.ChangeShapes Go.WideShapes Go.ChangeAt Go.RowKit Go.Vh
set_option linter.unusedVariables false

theorem own : ownKnob Try.prog.godebug = none := by kernel_rfl
theorem cells4 : Try.prog.cellsOf 4 = 1 := by kernel_rfl
theorem cells5 : Try.prog.cellsOf 5 = 1 := by kernel_rfl
theorem cells22 : Try.prog.cellsOf 22 = 1 := by kernel_rfl
theorem cells9 : Try.prog.cellsOf 9 = 1 := by kernel_rfl
theorem cells23 : Try.prog.cellsOf 23 = 1 := by kernel_rfl
theorem cells3 : Try.prog.cellsOf 3 = 1 := by kernel_rfl
theorem cells24 : Try.prog.cellsOf 24 = 1 := by kernel_rfl
theorem cells26 : Try.prog.cellsOf 26 = 6 := by kernel_rfl

set_option maxRecDepth 100000 in
theorem lifted (os : Os) (started : os.Started) (H : Type) (enc : TypeId × Value → H) :
    ReturnsInHanded {} Try.checked os 3 .any (Rows.algebraFormsSpec.pre6 enc Try.prog Try.f3 Rows.algebraFormsRow.domain false) (Rows.algebraFormsSpec.post enc Try.prog Try.f3 false true false false) := by
  refine returnsInHanded_of_change (C := Try.checked) own started (by kernel_rfl) Try.func3
    (ChangeSpec.witness6 (enc := enc) (C := Try.checked) false ⟨#[], #[.agg #[.slice none 0 0, .string ⟨#[]⟩, .int .u64 0, .int .i64 0, .slice none 0 0, .int .i64 0]], []⟩ 8 (by kernel_rfl) (by kernel_rfl) (by kernel_rfl) (by kernel_rfl)) ?_
  intro W base args ds gs before hval0 hW hcnd _
  have hval : ∀ (j : Nat) t v, Try.f3.params[j]? = some t → args[j]? = some v → Value.okWide Try.prog W .any base t v := hval0
  have hW' := hW
  obtain ⟨p, q, hA0, hV, rfl, hfz, hnd⟩ := hW
  have hA : DataW.TrodAll enc Try.prog W 0 (fun _ => true) true Try.f3.params.toList args.toList ds p := hA0
  rw [Try.params3] at hA hval
  obtain ⟨v0, vs0, d0, ds0, p0, q0, hargs, rfl, rfl, h0, r0⟩ := trodAll_cons hA
  obtain ⟨rfl, rfl, rfl⟩ := trodAll_nil r0
  obtain rfl : args = #[v0] := by cases args; simp_all
  obtain ⟨rfl, rfl⟩ := trodVars_none hV
  obtain ⟨cs, rfl, hsz⟩ := okWide_struct Try.underlying26 (hval 0 26 v0 rfl rfl)
  obtain ⟨fuel, hf⟩ := h0
  obtain ⟨xs, n, _, _, _, hxs, hfld⟩ := DataW.trod_struct Try.underlying26 hf
  rw [cells26] at hsz
  obtain ⟨cl⟩ := cs
  obtain ⟨c0, c1, c2, c3, c4, c5, rfl⟩ := six hsz
  obtain ⟨y0, y1, y2, y3, y4, y5, rfl⟩ := six hxs
  have f0 : DataW.trod enc Try.prog W 0 (fun _ => true) true n 22 [c0] = some y0 := by
    have h : DataW.trod enc Try.prog W 0 (fun _ => true) true n 22 (([c0, c1, c2, c3, c4, c5].drop 0).take (Try.prog.cellsOf 22)) = some y0 := hfld 0 _ rfl
    rw [cells22] at h; exact h
  have f1 : DataW.trod enc Try.prog W 0 (fun _ => true) true n 9 [c1] = some y1 := by
    have h : DataW.trod enc Try.prog W 0 (fun _ => true) true n 9 (([c0, c1, c2, c3, c4, c5].drop 1).take (Try.prog.cellsOf 9)) = some y1 := hfld 1 _ rfl
    rw [cells9] at h; exact h
  have f2 : DataW.trod enc Try.prog W 0 (fun _ => true) true n 23 [c2] = some y2 := by
    have h : DataW.trod enc Try.prog W 0 (fun _ => true) true n 23 (([c0, c1, c2, c3, c4, c5].drop 2).take (Try.prog.cellsOf 23)) = some y2 := hfld 2 _ rfl
    rw [cells23] at h; exact h
  have f3 : DataW.trod enc Try.prog W 0 (fun _ => true) true n 3 [c3] = some y3 := by
    have h : DataW.trod enc Try.prog W 0 (fun _ => true) true n 3 (([c0, c1, c2, c3, c4, c5].drop 3).take (Try.prog.cellsOf 3)) = some y3 := hfld 3 _ rfl
    rw [cells3] at h; exact h
  have f4 : DataW.trod enc Try.prog W 0 (fun _ => true) true n 24 [c4] = some y4 := by
    have h : DataW.trod enc Try.prog W 0 (fun _ => true) true n 24 (([c0, c1, c2, c3, c4, c5].drop 4).take (Try.prog.cellsOf 24)) = some y4 := hfld 4 _ rfl
    rw [cells24] at h; exact h
  have f5 : DataW.trod enc Try.prog W 0 (fun _ => true) true n 3 [c5] = some y5 := by
    have h : DataW.trod enc Try.prog W 0 (fun _ => true) true n 3 (([c0, c1, c2, c3, c4, c5].drop 5).take (Try.prog.cellsOf 3)) = some y5 := hfld 5 _ rfl
    rw [cells3] at h; exact h
  obtain ⟨κ0, n0, b0, x0, a0, k0, m0, g0⟩ := field_bools Try.underlying22 Try.underlying4 cells4 f0
  obtain ⟨S, hS, _, hSl⟩ := DataW.trod_string Try.underlying9 f1
  obtain ⟨z2, h2, _, w2⟩ := DataW.trod_int Try.underlying23 f2
  obtain ⟨z3, h3, _, w3⟩ := DataW.trod_int Try.underlying3 f3
  obtain ⟨κ4, n4, q4, x4, a4, k4, m4, u4, g4⟩ := field_bytes Try.underlying24 Try.underlying5 cells5 f4
  obtain ⟨z5, h5, _, w5⟩ := DataW.trod_int Try.underlying3 f5
  simp only [List.cons.injEq, and_true] at hS h2 h3 h5
  subst hS; subst h2; subst h3; subst h5
  simp only [Lit.wf, Bool.and_eq_true, decide_eq_true_eq] at w2 w3 w5
  obtain ⟨N, rfl⟩ : ∃ N : Nat, z2 = (N : Int) := ⟨z2.toNat, by have := w2.1; change (0 : Int) ≤ z2 at this; omega⟩
  have hN : N < 2 ^ 64 := by have := w2.2; change (N : Int) ≤ 18446744073709551615 at this; omega
  have hlaw := lForms_calls κ0 κ4 n0 n4 N b0 q4 S z3 z5 k0 k4 m0 m4 hSl u4 hN w3 w5
  refine (ACalls.onRows (rs := [⟨bt n0 b0, x0⟩, ⟨ut n4 q4, x4⟩]) hlaw (w := W) (fun r hr => ?_) (vs := [.agg #[c0, .string S, .int .u64 N, .int .i64 z3, c4, .int .i64 z5]]) (.cons _ _ _ _ (.agg _ _ (.cons _ _ _ _ (g0 _ 0 rfl) (.cons _ _ _ _ (.str _) (.cons _ _ _ _ (.int _ _) (.cons _ _ _ _ (.int _ _) (.cons _ _ _ _ (g4 _ 1 rfl) (.cons _ _ _ _ (.int _ _) .nil))))))) .nil)).mono fun e W' ⟨v, v', ρ', H', he, hv, hr, hf⟩ => ?_
  · simp only [List.mem_cons, List.not_mem_nil, or_false] at hr
    rcases hr with rfl | rfl
    · exact a0
    · exact a4
  subst he; subst hv
  have hv' := hr.bool_inv
  subst hv'
  exact ⟨_, rfl, law_post' (by kernel_rfl) (by kernel_rfl) Try.underlying4 rfl rfl rfl rfl hW' hf⟩

theorem proved : Rows.AlgebraFormsSaid :=
  OpenClaim.holds_of_wide 3 Try.f3 rfl rfl rfl rfl rfl rfl rfl ⟨rfl, rfl, rfl, rfl, rfl⟩ rfl rfl rfl rfl rfl (by kernel_rfl) Try.func3 (by kernel_rfl)
    (of_decide_eq_true (by kernel_rfl)) (by unfold Func.isWrapper; first | (rw [if_pos (by decide +kernel)]; kernel_rfl) | (rw [if_neg (by decide +kernel)]; exact ⟨rfl, rfl⟩))
    (fun os started H enc _ => lifted os started H enc)
end Go.Proofs.Ytebijlefkomplab.algebraForms
