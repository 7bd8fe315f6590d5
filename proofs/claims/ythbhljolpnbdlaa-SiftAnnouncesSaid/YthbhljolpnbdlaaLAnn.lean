/- SiftAnnounces: for every list of clicks and every range the law answers true, and leaves its arguments as they are; no condition. -/
import Derived.Test.YthbhljolpnbdlaaRows
import Derived.Test.YthbhljolpnbdlaaT7
import Derived.Test.YthbhljolpnbdlaaSk7
import Derived.Test.YthbhljolpnbdlaaVY
import Derived.KernelRfl
import Derived.ProofKit
import Derived.OpenShut
set_option linter.unusedSimpArgs false
namespace Go.Proofs.Ythbhljolpnbdlaa.siftAnnounces
open Go.ChangeShapes Go.WideShapes Go.ChangeAt Go.RowKit Go.Vh
set_option linter.unusedVariables false

theorem own : ownKnob Try.prog.godebug = none := by kernel_rfl
theorem cells87 : Try.prog.cellsOf 87 = 2 := by kernel_rfl
theorem cells32 : Try.prog.cellsOf 32 = 3 := by kernel_rfl
theorem cells3 : Try.prog.cellsOf 3 = 1 := by kernel_rfl
theorem three {α : Type} : ∀ {l : List α}, l.length = 3 → ∃ a b c, l = [a, b, c]
  | [a, b, c], _ => ⟨a, b, c, rfl⟩
  | [], h | [_], h | [_, _], h | _ :: _ :: _ :: _ :: _, h => by simp at h

set_option maxRecDepth 100000 in
theorem lifted (os : Os) (started : os.Started) (H : Type) (enc : TypeId × Value → H) :
    ReturnsInHanded {} Try.checked os 4 .any (Rows.siftAnnouncesSpec.pre6 enc Try.prog Try.f4 Rows.siftAnnouncesRow.domain false) (Rows.siftAnnouncesSpec.post enc Try.prog Try.f4 false true false false) := by
  refine returnsInHanded_of_change (C := Try.checked) own started (by kernel_rfl) Try.func4
    (ChangeSpec.witness6 (enc := enc) (C := Try.checked) false ⟨#[], #[.slice none 0 0, .agg #[.int .i64 0, .int .i64 0, .int .i64 0]], []⟩ 8 (by kernel_rfl) (by kernel_rfl) (by kernel_rfl) (by kernel_rfl)) ?_
  intro W base args ds gs before hval0 hW hcnd _
  have hval : ∀ (j : Nat) t v, Try.f4.params[j]? = some t → args[j]? = some v → Value.okWide Try.prog W .any base t v := hval0
  have hW' := hW
  obtain ⟨p, q, hA0, hV, rfl, hfz, hnd⟩ := hW
  have hA : DataW.TrodAll enc Try.prog W 0 (fun _ => true) true Try.f4.params.toList args.toList ds p := hA0
  rw [Try.params4] at hA hval
  obtain ⟨v0, vs0, d0, ds0, p0, q0, hargs, rfl, rfl, h0, r0⟩ := trodAll_cons hA
  obtain ⟨v1, vs1, d1, ds1, p1, q1, rfl, rfl, rfl, h1, r1⟩ := trodAll_cons r0
  obtain ⟨rfl, rfl, rfl⟩ := trodAll_nil r1
  obtain rfl : args = #[v0, v1] := by cases args; simp_all
  obtain ⟨rfl, rfl⟩ := trodVars_none hV
  obtain ⟨κ, n, l, z, hl, hin, hat, hk, hm, hg⟩ := open_row_pairs Try.underlying23 Try.underlying87 cells87 rfl (fun i hi => by
    rcases (show i = 0 ∨ i = 1 by omega) with rfl | rfl
    · exact ⟨_, rfl, rfl, Try.underlying3, cells3⟩
    · exact ⟨_, rfl, rfl, Try.underlying3, cells3⟩) (hval 0 23 v0 rfl rfl) h0
  obtain ⟨cs1, rfl, hsz1⟩ := okWide_struct Try.underlying32 (hval 1 32 v1 rfl rfl)
  obtain ⟨fuel1, hf1⟩ := h1
  rw [cells32] at hsz1
  obtain ⟨cl1⟩ := cs1
  obtain ⟨c0, c1, c2, rfl⟩ := three hsz1
  have hf1' : DataW.trod enc Try.prog W 0 (fun _ => true) true fuel1 32 [c0, c1, c2] = some (d1, p1) := hf1
  have fld : ∀ i, i < 3 → ∃ f : Field, (#[{ name := "Shift", type := 3, offset := 0, embedded := false, tag := "", pkgPath := "", byteOffset := 0 }, { name := "From", type := 3, offset := 1, embedded := false, tag := "", pkgPath := "", byteOffset := 8 }, { name := "To", type := 3, offset := 2, embedded := false, tag := "", pkgPath := "", byteOffset := 16 }] : Array Field)[i]? = some f ∧ f.offset = i ∧ Try.prog.underlying f.type = some (.int .i64) ∧ Try.prog.cellsOf f.type = 1 := fun i hi => by
    rcases (show i = 0 ∨ i = 1 ∨ i = 2 by omega) with rfl | rfl | rfl
    · exact ⟨_, rfl, rfl, Try.underlying3, cells3⟩
    · exact ⟨_, rfl, rfl, Try.underlying3, cells3⟩
    · exact ⟨_, rfl, rfl, Try.underlying3, cells3⟩
  obtain ⟨sh, q0, w0⟩ := three_cells Try.underlying32 rfl fld hf1' 0 (by omega)
  obtain ⟨a, q1, w1⟩ := three_cells Try.underlying32 rfl fld hf1' 1 (by omega)
  obtain ⟨b, q2, w2⟩ := three_cells Try.underlying32 rfl fld hf1' 2 (by omega)
  simp only [List.getElem?_cons_zero, List.getElem?_cons_succ, Option.some.injEq] at q0 q1 q2
  subst q0; subst q1; subst q2
  obtain ⟨Ww, hw⟩ := known_calls
  have hlaw := lawAnn_calls hw κ n l sh a b hk hl hm
  refine (ACalls.onRows (rs := [⟨ints .i64 l, z⟩]) hlaw (w := W) (fun r hr => ?_) (vs := [v0, .agg #[.int .i64 sh, .int .i64 a, .int .i64 b]]) (.cons _ _ _ _ (hg _ 0 rfl) (.cons _ _ _ _ (.agg _ _ (.cons _ _ _ _ (.int _ _) (.cons _ _ _ _ (.int _ _) (.cons _ _ _ _ (.int _ _) .nil)))) .nil))).mono fun e W' ⟨v, v', ρ', H', he, hv, hr, hf⟩ => ?_
  · simp only [List.mem_cons, List.not_mem_nil, or_false] at hr
    subst hr
    exact hat
  subst he; subst hv
  have hv' := hr.bool_inv
  subst hv'
  exact ⟨_, rfl, law_post' (by kernel_rfl) (by kernel_rfl) Try.underlying4 rfl rfl rfl rfl hW' hf⟩

theorem proved : Rows.SiftAnnouncesSaid :=
  OpenClaim.holds_of_wide 4 Try.f4 rfl rfl rfl rfl rfl rfl rfl ⟨rfl, rfl, rfl, rfl, rfl⟩ rfl rfl rfl rfl rfl (by kernel_rfl) Try.func4 (by kernel_rfl)
    (of_decide_eq_true (by kernel_rfl)) (by unfold Func.isWrapper; first | (rw [if_pos (by decide +kernel)]; kernel_rfl) | (rw [if_neg (by decide +kernel)]; exact ⟨rfl, rfl⟩))
    (fun os started H enc _ => lifted os started H enc)
end Go.Proofs.Ythbhljolpnbdlaa.siftAnnounces

