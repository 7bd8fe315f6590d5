/- ExactSampling: for any four small numbers the law answers true, and leaves its arguments as they are; the listed tables are tied to the program's text. -/
import Derived.Test.YtpkeneadkiabiaaDoorCards
import Derived.Test.YtpkeneadkiabiaaDoorTie
import Derived.Test.YtpkeneadkiabiaaDoorFJ
import Derived.Test.YtpkeneadkiabiaaDoorC9
import Derived.ProofKit
import Derived.OpenShut
import Derived.LaidMore
import Derived.Lay
import Derived.SevenTiedAt
import Derived.Stop.Joined
set_option linter.unusedSimpArgs false
namespace Go.Proofs.YtpkeneadkiabiaaDoor.exactSampling
open Go.ChangeShapes Go.WideShapes Go.ChangeAt Go.RowKit Go.Vh
set_option linter.unusedVariables false

theorem own : ownKnob Tryd.prog.godebug = none := by kernel_rfl

set_option maxRecDepth 100000 in
theorem met (os : Os) (args : Array Value) : laidMetH Tryd.prog Rows.exactSamplingRow.laid ((World.laidAll Tryd.prog os Rows.exactSamplingRow.laid).forCall (fun _ _ => 0) ⟨#[], args, []⟩).memory := by
  rw [MakeChecks.laidMetH_plain _ _ _ (by kernel_rfl)]; exact laidMet_laidAll _ (by kernel_rfl) (by kernel_rfl)

set_option maxRecDepth 100000 in
theorem lifted (os : Os) (started : os.Started) (H : Type) (enc : TypeId × Value → H) :
    ReturnsInHanded {} Tryd.checked os 13 .any (fun w args => (Rows.exactSamplingSpec.pre enc Tryd.prog Tryd.f13 Rows.exactSamplingRow.domain false w args ∧ laidMetH Tryd.prog Rows.exactSamplingRow.laid w) ∧ sizedMet enc Tryd.prog Tryd.f13 (OpenSpec.ofChange Rows.exactSamplingSpec) false w args)
      (Rows.exactSamplingSpec.post enc Tryd.prog Tryd.f13 false true false false) := by
  refine returnsInHanded_of_change_and (C := Tryd.checked) (X := fun w _ => laidMetH Tryd.prog Rows.exactSamplingRow.laid w) (fun _ _ _ hh h => h.of_heap hh) own started (by kernel_rfl) Tryd.func13
    (ChangeSpec.witness_shaped (enc := enc) (C := Tryd.checked) (os := os) (X := fun w _ => laidMetH Tryd.prog Rows.exactSamplingRow.laid w) false (World.laidAll Tryd.prog os Rows.exactSamplingRow.laid) #[.int .u8 0, .int .u8 0, .int .u8 0, .int .i8 0] 8 (World.laidAll_os _ _ _)
      (World.shaped_of_ZipB (by kernel_rfl) (by kernel_rfl)) (by kernel_rfl) (by kernel_rfl) (by kernel_rfl) (met os _)) ?_
  intro W base args ds gs before hval0 hW hc _ hL _
  have hval : ∀ (j : Nat) t v, Tryd.f13.params[j]? = some t → args[j]? = some v → Value.okWide Tryd.prog W .any base t v := hval0
  have hW' := hW
  obtain ⟨p, q, hA0, hV, rfl, _, _⟩ := hW
  have hA : DataW.TrodAll enc Tryd.prog W 0 (fun _ => true) true Tryd.f13.params.toList args.toList ds p := hA0
  rw [Tryd.params13] at hA hval
  obtain ⟨v0, vs0, d0, ds0, p0, q0, hargs, rfl, rfl, h0, r0⟩ := trodAll_cons hA
  obtain ⟨v1, vs1, d1, ds1, p1, q1, rfl, rfl, rfl, h1, r1⟩ := trodAll_cons r0
  obtain ⟨v2, vs2, d2, ds2, p2, q2, rfl, rfl, rfl, h2, r2⟩ := trodAll_cons r1
  obtain ⟨v3, vs3, d3, ds3, p3, q3, rfl, rfl, rfl, h3, r3⟩ := trodAll_cons r2
  obtain ⟨rfl, rfl, rfl⟩ := trodAll_nil r3
  obtain rfl : args = #[v0, v1, v2, v3] := by cases args; simp_all
  obtain ⟨rfl, rfl⟩ := trodVars_none hV
  obtain ⟨a0, rfl, rfl, rfl, w0⟩ := open_int Tryd.underlying5 (hval 0 5 v0 rfl rfl) h0
  obtain ⟨a1, rfl, rfl, rfl, w1⟩ := open_int Tryd.underlying5 (hval 1 5 v1 rfl rfl) h1
  obtain ⟨a2, rfl, rfl, rfl, w2⟩ := open_int Tryd.underlying5 (hval 2 5 v2 rfl rfl) h2
  obtain ⟨a3, rfl, rfl, rfl, w3⟩ := open_int Tryd.underlying70 (hval 3 70 v3 rfl rfl) h3
  clear hA0 hval0
  simp only [List.append_nil] at hW'
  have b0 : 0 ≤ a0 ∧ a0 ≤ 255 := by
    simp only [Lit.wf, Bool.and_eq_true, decide_eq_true_eq] at w0; exact w0
  have b1 : 0 ≤ a1 ∧ a1 ≤ 255 := by
    simp only [Lit.wf, Bool.and_eq_true, decide_eq_true_eq] at w1; exact w1
  have b2 : 0 ≤ a2 ∧ a2 ≤ 255 := by
    simp only [Lit.wf, Bool.and_eq_true, decide_eq_true_eq] at w2; exact w2
  have b3 : -128 ≤ a3 ∧ a3 ≤ 127 := by
    simp only [Lit.wf, Bool.and_eq_true, decide_eq_true_eq] at w3; exact w3
  obtain ⟨Ws, hw⟩ := works_calls
  have hlaw := sampling_calls hw a0 a1 a2 a3 b0 b1 b2 b3
  refine (hlaw.plain (vs := [.int .u8 a0, .int .u8 a1, .int .u8 a2, .int .i8 a3]) (.cons _ _ _ _ (.int _ _) (.cons _ _ _ _ (.int _ _) (.cons _ _ _ _ (.int _ _) (.cons _ _ _ _ (.int _ _) .nil)))) W).mono fun e W' ⟨v, v', ρ', H', he, hv, hr, hf⟩ => ?_
  subst he; subst hv
  have hv' := hr.bool_inv
  subst hv'
  exact ⟨_, rfl, law_post' (by kernel_rfl) (by kernel_rfl) Tryd.underlying4 rfl rfl rfl rfl hW' hf⟩

theorem row_holds : Rows.ExactSamplingSaid :=
  OpenClaim.holds_of_wide 13 Tryd.f13 rfl rfl rfl rfl rfl rfl rfl ⟨rfl, rfl, rfl, rfl, rfl⟩ rfl rfl rfl rfl rfl (by kernel_rfl) Tryd.func13 (by kernel_rfl)
    (of_decide_eq_true (by kernel_rfl)) (by unfold Func.isWrapper; first | (rw [if_pos (by decide +kernel)]; kernel_rfl) | (rw [if_neg (by decide +kernel)]; exact ⟨rfl, rfl⟩))
    (fun os started H enc _ => lifted os started H enc)

theorem card_holds : Rows.ExactSamplingCardSaid :=
  Claim7.holds_tied_plain_at .later [] [.data, .pinned] true (true, "e23bc6a6ba63dba21a613355ad48f8fc762b4c4e1fecb47d96a156b156f7bcc5") false
    row_holds (fun _ h => by cases h) (by kernel_rfl) (fun _ h => by cases h) exactSampling_row_tie rfl ⟨rfl, rfl⟩ (by kernel_rfl) rfl
    (fun f fn hf hfn => by
      obtain rfl : f = 13 := Option.some.inj ((show Tryd.prog.funcNamed "waveplate/waveplatelaw01.ExactSampling" = some 13 by kernel_rfl).symm.trans hf) |>.symm
      obtain rfl : fn = Tryd.f13 := (Option.some.inj (Tryd.func13.symm.trans hfn)).symm
      exact ⟨by kernel_rfl, fun j t ht => by
        rw [Tryd.params13] at ht
        have h3 : t = 5 ∨ t = 70 := by
          rcases j with _ | _ | _ | _ | j
          · simp at ht; first | exact .inl ht | exact .inr ht | exact .inl ht.symm | exact .inr ht.symm
          · simp at ht; first | exact .inl ht | exact .inr ht | exact .inl ht.symm | exact .inr ht.symm
          · simp at ht; first | exact .inl ht | exact .inr ht | exact .inl ht.symm | exact .inr ht.symm
          · simp at ht; first | exact .inl ht | exact .inr ht | exact .inl ht.symm | exact .inr ht.symm
          · simp at ht
        rcases h3 with rfl | rfl
        · exact (show Tryd.prog.wantsStandIn 5 = false by kernel_rfl)
        · exact (show Tryd.prog.wantsStandIn 70 = false by kernel_rfl)⟩)
    (by kernel_rfl)
end Go.Proofs.YtpkeneadkiabiaaDoor.exactSampling
