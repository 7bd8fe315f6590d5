/- ExactBounds: for any three numbers and any fraction the law answers true, and leaves its arguments as they are; the listed tables are tied to the program's text. -/
import Derived.Test.YtpkeneadkiabiaaDoorCards
import Derived.Test.YtpkeneadkiabiaaDoorTie
import Derived.Test.YtpkeneadkiabiaaDoorGA
import Derived.Test.YtpkeneadkiabiaaDoorVh38
import Derived.Test.YtpkeneadkiabiaaDoorC9
import Derived.ProofKit
import Derived.OpenShut
import Derived.LaidMore
import Derived.Lay
import Derived.SevenTiedAt
import Derived.Stop.Joined
set_option linter.unusedSimpArgs false
namespace Go.Proofs.YtpkeneadkiabiaaDoor.exactBounds
open Go.ChangeShapes Go.WideShapes Go.ChangeAt Go.RowKit Go.Vh
set_option linter.unusedVariables false

theorem cells75 : Tryd.prog.cellsOf 75 = 1 := by kernel_rfl
theorem cells24 : Tryd.prog.cellsOf 24 = 1 := by kernel_rfl
theorem cells36 : Tryd.prog.cellsOf 36 = 2 := by kernel_rfl
theorem limbs_of {l : List Int} (h : ∀ n ∈ l, (Lit.int .u32 n).wf = true) : Limbs l := fun i => by
  rcases Nat.lt_or_ge i l.length with hi | hi
  · have := h l[i] (List.getElem_mem hi)
    simp only [Lit.wf, Bool.and_eq_true, decide_eq_true_eq] at this
    have e : l.getD i 0 = l[i] := by simp [List.getD_eq_getElem?_getD, hi]
    rw [e]; exact this
  · have e : l.getD i 0 = 0 := by simp [List.getD_eq_getElem?_getD, List.getElem?_eq_none hi]
    rw [e]; omega
theorem own : ownKnob Tryd.prog.godebug = none := by kernel_rfl

set_option maxRecDepth 100000 in
theorem met (os : Os) (args : Array Value) : laidMetH Tryd.prog Rows.exactBoundsRow.laid ((World.laidAll Tryd.prog os Rows.exactBoundsRow.laid).forCall (fun _ _ => 0) ⟨#[], args, []⟩).memory := by
  rw [MakeChecks.laidMetH_plain _ _ _ (by kernel_rfl)]; exact laidMet_laidAll _ (by kernel_rfl) (by kernel_rfl)

set_option maxRecDepth 100000 in
theorem lifted (os : Os) (started : os.Started) (H : Type) (enc : TypeId × Value → H) :
    ReturnsInHanded {} Tryd.checked os 8 .any (fun w args => (Rows.exactBoundsSpec.pre enc Tryd.prog Tryd.f8 Rows.exactBoundsRow.domain false w args ∧ laidMetH Tryd.prog Rows.exactBoundsRow.laid w) ∧ sizedMet enc Tryd.prog Tryd.f8 (OpenSpec.ofChange Rows.exactBoundsSpec) false w args)
      (Rows.exactBoundsSpec.post enc Tryd.prog Tryd.f8 false true false false) := by
  refine returnsInHanded_of_change_and (C := Tryd.checked) (X := fun w _ => laidMetH Tryd.prog Rows.exactBoundsRow.laid w) (fun _ _ _ hh h => h.of_heap hh) own started (by kernel_rfl) Tryd.func8
    (ChangeSpec.witness_shaped (enc := enc) (C := Tryd.checked) (os := os) (X := fun w _ => laidMetH Tryd.prog Rows.exactBoundsRow.laid w) false (World.laidAll Tryd.prog os Rows.exactBoundsRow.laid) #[.int .i64 0, .int .i64 0, .int .i64 0, .agg #[.slice none 0 0, .slice none 0 0]] 8 (World.laidAll_os _ _ _)
      (World.shaped_of_ZipB (by kernel_rfl) (by kernel_rfl)) (by kernel_rfl) (by kernel_rfl) (by kernel_rfl) (met os _)) ?_
  intro W base args ds gs before hval0 hW hc _ hL _
  have hval : ∀ (j : Nat) t v, Tryd.f8.params[j]? = some t → args[j]? = some v → Value.okWide Tryd.prog W .any base t v := hval0
  have hW' := hW
  obtain ⟨p, q, hA0, hV, rfl, _, _⟩ := hW
  have hA : DataW.TrodAll enc Tryd.prog W 0 (fun _ => true) true Tryd.f8.params.toList args.toList ds p := hA0
  rw [Tryd.params8] at hA hval
  obtain ⟨v0, vs0, d0, ds0, p0, q0, hargs, rfl, rfl, h0, r0⟩ := trodAll_cons hA
  obtain ⟨v1, vs1, d1, ds1, p1, q1, rfl, rfl, rfl, h1, r1⟩ := trodAll_cons r0
  obtain ⟨v2, vs2, d2, ds2, p2, q2, rfl, rfl, rfl, h2, r2⟩ := trodAll_cons r1
  obtain ⟨v3, vs3, d3, ds3, p3, q3, rfl, rfl, rfl, h3, r3⟩ := trodAll_cons r2
  obtain ⟨rfl, rfl, rfl⟩ := trodAll_nil r3
  obtain rfl : args = #[v0, v1, v2, v3] := by cases args; simp_all
  obtain ⟨rfl, rfl⟩ := trodVars_none hV
  obtain ⟨a0, rfl, rfl, rfl, w0⟩ := open_int Tryd.underlying3 (hval 0 3 v0 rfl rfl) h0
  obtain ⟨a1, rfl, rfl, rfl, w1⟩ := open_int Tryd.underlying3 (hval 1 3 v1 rfl rfl) h1
  obtain ⟨a2, rfl, rfl, rfl, w2⟩ := open_int Tryd.underlying3 (hval 2 3 v2 rfl rfl) h2
  obtain ⟨cs, rfl, hsz⟩ := okWide_struct Tryd.underlying36 (hval 3 36 v3 rfl rfl)
  obtain ⟨fuel, hf⟩ := h3
  obtain ⟨xs, n, _, _, _, hxs, hfld⟩ := DataW.trod_struct Tryd.underlying36 hf
  rw [cells36] at hsz
  obtain ⟨cl⟩ := cs
  obtain ⟨c0, c1, rfl⟩ := twoL hsz
  obtain ⟨y0, y1, rfl⟩ := twoL hxs
  have f0 : DataW.trod enc Tryd.prog W 0 (fun _ => true) true n 24 [c0] = some y0 := by
    have h : DataW.trod enc Tryd.prog W 0 (fun _ => true) true n 24 (([c0, c1].drop 0).take (Tryd.prog.cellsOf 24)) = some y0 := hfld 0 _ rfl
    rw [cells24] at h; exact h
  have f1 : DataW.trod enc Tryd.prog W 0 (fun _ => true) true n 24 [c1] = some y1 := by
    have h : DataW.trod enc Tryd.prog W 0 (fun _ => true) true n 24 (([c0, c1].drop 1).take (Tryd.prog.cellsOf 24)) = some y1 := hfld 1 _ rfl
    rw [cells24] at h; exact h
  obtain ⟨κ0, z0, k0, at0, ok0, m0, wf0, g0⟩ := field_ints Tryd.underlying24 Tryd.underlying75 cells75 f0
  obtain ⟨κ1, z1, k1, at1, ok1, m1, wf1, g1⟩ := field_ints Tryd.underlying24 Tryd.underlying75 cells75 f1
  clear hA0 hval0
  have b0 : -9223372036854775808 ≤ a0 ∧ a0 ≤ 9223372036854775807 := by
    simp only [Lit.wf, Bool.and_eq_true, decide_eq_true_eq] at w0; exact w0
  have b1 : -9223372036854775808 ≤ a1 ∧ a1 ≤ 9223372036854775807 := by
    simp only [Lit.wf, Bool.and_eq_true, decide_eq_true_eq] at w1; exact w1
  have b2 : -9223372036854775808 ≤ a2 ∧ a2 ≤ 9223372036854775807 := by
    simp only [Lit.wf, Bool.and_eq_true, decide_eq_true_eq] at w2; exact w2
  obtain ⟨Ws, hw⟩ := works_calls
  have hlaw := bounds_calls hw a0 a1 a2 κ0 κ1 z0.l z1.l ok0 ok1 m0 m1 (limbs_of wf0) (limbs_of wf1) b0 b1 b2
  have hrows : irows [z0, z1] = [ro (ints .u32 z0.l), ro (ints .u32 z1.l)] := by
    simp only [irows, List.map_cons, List.map_nil, k0, k1]
  rw [← hrows] at hlaw
  refine (ACalls.onInts hlaw (w := W) (fun r hr => ?_) (vs := [.int .i64 a0, .int .i64 a1, .int .i64 a2, .agg #[c0, c1]]) (.cons _ _ _ _ (.int _ _) (.cons _ _ _ _ (.int _ _) (.cons _ _ _ _ (.int _ _) (.cons _ _ _ _ (.agg _ _ (.cons _ _ _ _ (g0 _ 0 rfl) (.cons _ _ _ _ (g1 _ 1 rfl) .nil))) .nil))))).mono fun e W' ⟨v, v', ρ', H', he, hv, hr, hf⟩ => ?_
  · simp only [List.mem_cons, List.not_mem_nil, or_false] at hr
    rcases hr with rfl | rfl
    · exact at0
    · exact at1
  subst he; subst hv
  have hv' := hr.bool_inv
  subst hv'
  exact ⟨_, rfl, law_post' (by kernel_rfl) (by kernel_rfl) Tryd.underlying4 rfl rfl rfl rfl hW' hf⟩

theorem row_holds : Rows.ExactBoundsSaid :=
  OpenClaim.holds_of_wide 8 Tryd.f8 rfl rfl rfl rfl rfl rfl rfl ⟨rfl, rfl, rfl, rfl, rfl⟩ rfl rfl rfl rfl rfl (by kernel_rfl) Tryd.func8 (by kernel_rfl)
    (of_decide_eq_true (by kernel_rfl)) (by unfold Func.isWrapper; first | (rw [if_pos (by decide +kernel)]; kernel_rfl) | (rw [if_neg (by decide +kernel)]; exact ⟨rfl, rfl⟩))
    (fun os started H enc _ => lifted os started H enc)

theorem card_holds : Rows.ExactBoundsCardSaid :=
  Claim7.holds_tied_plain_at .later [] [.data, .pinned] true (true, "e23bc6a6ba63dba21a613355ad48f8fc762b4c4e1fecb47d96a156b156f7bcc5") false
    row_holds (fun _ h => by cases h) (by kernel_rfl) (fun _ h => by cases h) exactBounds_row_tie rfl ⟨rfl, rfl⟩ (by kernel_rfl) rfl
    (fun f fn hf hfn => by
      obtain rfl : f = 8 := Option.some.inj ((show Tryd.prog.funcNamed "waveplate/waveplatelaw01.ExactBounds" = some 8 by kernel_rfl).symm.trans hf) |>.symm
      obtain rfl : fn = Tryd.f8 := (Option.some.inj (Tryd.func8.symm.trans hfn)).symm
      exact ⟨by kernel_rfl, fun j t ht => by
        rw [Tryd.params8] at ht
        have h3 : t = 3 ∨ t = 36 := by
          rcases j with _ | _ | _ | _ | j
          · simp at ht; first | exact .inl ht | exact .inr ht | exact .inl ht.symm | exact .inr ht.symm
          · simp at ht; first | exact .inl ht | exact .inr ht | exact .inl ht.symm | exact .inr ht.symm
          · simp at ht; first | exact .inl ht | exact .inr ht | exact .inl ht.symm | exact .inr ht.symm
          · simp at ht; first | exact .inl ht | exact .inr ht | exact .inl ht.symm | exact .inr ht.symm
          · simp at ht
        rcases h3 with rfl | rfl
        · exact (show Tryd.prog.wantsStandIn 3 = false by kernel_rfl)
        · exact (show Tryd.prog.wantsStandIn 36 = false by kernel_rfl)⟩)
    (by kernel_rfl)
end Go.Proofs.YtpkeneadkiabiaaDoor.exactBounds

