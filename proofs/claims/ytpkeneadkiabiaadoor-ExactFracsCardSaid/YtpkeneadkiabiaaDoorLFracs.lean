/- ExactFracs: for any two fractions the law answers true, and leaves its arguments as they are; the listed tables are tied to the program's text. -/
import Derived.Test.YtpkeneadkiabiaaDoorCards
import Derived.Test.YtpkeneadkiabiaaDoorTie
import Derived.Test.YtpkeneadkiabiaaDoorJF
import Derived.Test.YtpkeneadkiabiaaDoorVh38
import Derived.Test.YtpkeneadkiabiaaDoorC9
import Derived.ProofKit
import Derived.OpenShut
import Derived.LaidMore
import Derived.Lay
import Derived.SevenTiedAt
import Derived.Stop.Joined
set_option linter.unusedSimpArgs false
namespace Go.Proofs.YtpkeneadkiabiaaDoor.exactFracs
open Go.ChangeShapes Go.WideShapes Go.ChangeAt Go.RowKit Go.Vh
set_option linter.unusedVariables false

theorem cells75 : Tryd.prog.cellsOf 75 = 1 := by kernel_rfl
theorem cells24 : Tryd.prog.cellsOf 24 = 1 := by kernel_rfl
theorem cells36 : Tryd.prog.cellsOf 36 = 2 := by kernel_rfl
theorem limbs_of {l : List Int} (h : ∀ n ∈ l, (Lit.int .u32 n).wf = true) : Limbs l := fun i => by
  rcases Nat.lt_or_ge i l.length with hi | hi
  · have := h l[i] (List.getElem_mem hi)
    simp only [Lit.wf, Bool.and_eq_true, decide_eq_true_eq] at this
    have e : l.getD i 0 = l[i] := by simp [List.getD_eq_getElem?_getD, hi]
    rw [e]; exact this
  · have e : l.getD i 0 = 0 := by simp [List.getD_eq_getElem?_getD, List.getElem?_eq_none hi]
    rw [e]; omega
theorem own : ownKnob Tryd.prog.godebug = none := by kernel_rfl

set_option maxRecDepth 100000 in
theorem met (os : Os) (args : Array Value) : laidMetH Tryd.prog Rows.exactFracsRow.laid ((World.laidAll Tryd.prog os Rows.exactFracsRow.laid).forCall (fun _ _ => 0) ⟨#[], args, []⟩).memory := by
  rw [MakeChecks.laidMetH_plain _ _ _ (by kernel_rfl)]; exact laidMet_laidAll _ (by kernel_rfl) (by kernel_rfl)

set_option maxRecDepth 100000 in
theorem lifted (os : Os) (started : os.Started) (H : Type) (enc : TypeId × Value → H) :
    ReturnsInHanded {} Tryd.checked os 5 .any (fun w args => (Rows.exactFracsSpec.pre enc Tryd.prog Tryd.f5 Rows.exactFracsRow.domain false w args ∧ laidMetH Tryd.prog Rows.exactFracsRow.laid w) ∧ sizedMet enc Tryd.prog Tryd.f5 (OpenSpec.ofChange Rows.exactFracsSpec) false w args)
      (Rows.exactFracsSpec.post enc Tryd.prog Tryd.f5 false true false false) := by
  refine returnsInHanded_of_change_and (C := Tryd.checked) (X := fun w _ => laidMetH Tryd.prog Rows.exactFracsRow.laid w) (fun _ _ _ hh h => h.of_heap hh) own started (by kernel_rfl) Tryd.func5
    (ChangeSpec.witness_shaped (enc := enc) (C := Tryd.checked) (os := os) (X := fun w _ => laidMetH Tryd.prog Rows.exactFracsRow.laid w) false (World.laidAll Tryd.prog os Rows.exactFracsRow.laid) #[.agg #[.slice none 0 0, .slice none 0 0], .agg #[.slice none 0 0, .slice none 0 0]] 8 (World.laidAll_os _ _ _)
      (World.shaped_of_ZipB (by kernel_rfl) (by kernel_rfl)) (by kernel_rfl) (by kernel_rfl) (by kernel_rfl) (met os _)) ?_
  intro W base args ds gs before hval0 hW hc _ hL _
  have hval : ∀ (j : Nat) t v, Tryd.f5.params[j]? = some t → args[j]? = some v → Value.okWide Tryd.prog W .any base t v := hval0
  have hW' := hW
  obtain ⟨p, q, hA0, hV, rfl, _, _⟩ := hW
  have hA : DataW.TrodAll enc Tryd.prog W 0 (fun _ => true) true Tryd.f5.params.toList args.toList ds p := hA0
  rw [Tryd.params5] at hA hval
  obtain ⟨v0, vs0, d0, ds0, p0, q0, hargs, rfl, rfl, h0, r0⟩ := trodAll_cons hA
  obtain ⟨v1, vs1, d1, ds1, p1, q1, rfl, rfl, rfl, h1, r1⟩ := trodAll_cons r0
  obtain ⟨rfl, rfl, rfl⟩ := trodAll_nil r1
  obtain rfl : args = #[v0, v1] := by cases args; simp_all
  obtain ⟨rfl, rfl⟩ := trodVars_none hV
  obtain ⟨cs0, rfl, hsz0⟩ := okWide_struct Tryd.underlying36 (hval 0 36 v0 rfl rfl)
  obtain ⟨fuel0, hf0⟩ := h0
  obtain ⟨xs0, n0, _, _, _, hxs0, hfld0⟩ := DataW.trod_struct Tryd.underlying36 hf0
  rw [cells36] at hsz0
  obtain ⟨cl0⟩ := cs0
  obtain ⟨c00, c01, rfl⟩ := twoL hsz0
  obtain ⟨y00, y01, rfl⟩ := twoL hxs0
  have f00 : DataW.trod enc Tryd.prog W 0 (fun _ => true) true n0 24 [c00] = some y00 := by
    have h : DataW.trod enc Tryd.prog W 0 (fun _ => true) true n0 24 (([c00, c01].drop 0).take (Tryd.prog.cellsOf 24)) = some y00 := hfld0 0 _ rfl
    rw [cells24] at h; exact h
  have f01 : DataW.trod enc Tryd.prog W 0 (fun _ => true) true n0 24 [c01] = some y01 := by
    have h : DataW.trod enc Tryd.prog W 0 (fun _ => true) true n0 24 (([c00, c01].drop 1).take (Tryd.prog.cellsOf 24)) = some y01 := hfld0 1 _ rfl
    rw [cells24] at h; exact h
  obtain ⟨cs1, rfl, hsz1⟩ := okWide_struct Tryd.underlying36 (hval 1 36 v1 rfl rfl)
  obtain ⟨fuel1, hf1⟩ := h1
  obtain ⟨xs1, n1, _, _, _, hxs1, hfld1⟩ := DataW.trod_struct Tryd.underlying36 hf1
  rw [cells36] at hsz1
  obtain ⟨cl1⟩ := cs1
  obtain ⟨c10, c11, rfl⟩ := twoL hsz1
  obtain ⟨y10, y11, rfl⟩ := twoL hxs1
  have f10 : DataW.trod enc Tryd.prog W 0 (fun _ => true) true n1 24 [c10] = some y10 := by
    have h : DataW.trod enc Tryd.prog W 0 (fun _ => true) true n1 24 (([c10, c11].drop 0).take (Tryd.prog.cellsOf 24)) = some y10 := hfld1 0 _ rfl
    rw [cells24] at h; exact h
  have f11 : DataW.trod enc Tryd.prog W 0 (fun _ => true) true n1 24 [c11] = some y11 := by
    have h : DataW.trod enc Tryd.prog W 0 (fun _ => true) true n1 24 (([c10, c11].drop 1).take (Tryd.prog.cellsOf 24)) = some y11 := hfld1 1 _ rfl
    rw [cells24] at h; exact h
  obtain ⟨κ0, z0, k0, at0, ok0, m0, wf0, g0⟩ := field_ints Tryd.underlying24 Tryd.underlying75 cells75 f00
  obtain ⟨κ1, z1, k1, at1, ok1, m1, wf1, g1⟩ := field_ints Tryd.underlying24 Tryd.underlying75 cells75 f01
  obtain ⟨κ2, z2, k2, at2, ok2, m2, wf2, g2⟩ := field_ints Tryd.underlying24 Tryd.underlying75 cells75 f10
  obtain ⟨κ3, z3, k3, at3, ok3, m3, wf3, g3⟩ := field_ints Tryd.underlying24 Tryd.underlying75 cells75 f11
  clear hA0 hval0
  obtain ⟨Ws, hw⟩ := works_calls
  have hlaw := fracs_calls hw κ0 κ1 κ2 κ3 z0.l z1.l z2.l z3.l ok0 ok1 ok2 ok3 m0 m1 m2 m3 (limbs_of wf0) (limbs_of wf1) (limbs_of wf2) (limbs_of wf3)
  have hrows : irows [z0, z1, z2, z3] = [ro (ints .u32 z0.l), ro (ints .u32 z1.l), ro (ints .u32 z2.l), ro (ints .u32 z3.l)] := by
    simp only [irows, List.map_cons, List.map_nil, k0, k1, k2, k3]
  rw [← hrows] at hlaw
  refine (ACalls.onInts hlaw (w := W) (fun r hr => ?_) (vs := [.agg #[c00, c01], .agg #[c10, c11]]) (.cons _ _ _ _ (.agg _ _ (.cons _ _ _ _ (g0 _ 0 rfl) (.cons _ _ _ _ (g1 _ 1 rfl) .nil))) (.cons _ _ _ _ (.agg _ _ (.cons _ _ _ _ (g2 _ 2 rfl) (.cons _ _ _ _ (g3 _ 3 rfl) .nil))) .nil))).mono fun e W' ⟨v, v', ρ', H', he, hv, hr, hf⟩ => ?_
  · simp only [List.mem_cons, List.not_mem_nil, or_false] at hr
    rcases hr with rfl | rfl | rfl | rfl
    · exact at0
    · exact at1
    · exact at2
    · exact at3
  subst he; subst hv
  have hv' := hr.bool_inv
  subst hv'
  exact ⟨_, rfl, law_post' (by kernel_rfl) (by kernel_rfl) Tryd.underlying4 rfl rfl rfl rfl hW' hf⟩

theorem row_holds : Rows.ExactFracsSaid :=
  OpenClaim.holds_of_wide 5 Tryd.f5 rfl rfl rfl rfl rfl rfl rfl ⟨rfl, rfl, rfl, rfl, rfl⟩ rfl rfl rfl rfl rfl (by kernel_rfl) Tryd.func5 (by kernel_rfl)
    (of_decide_eq_true (by kernel_rfl)) (by unfold Func.isWrapper; first | (rw [if_pos (by decide +kernel)]; kernel_rfl) | (rw [if_neg (by decide +kernel)]; exact ⟨rfl, rfl⟩))
    (fun os started H enc _ => lifted os started H enc)

theorem card_holds : Rows.ExactFracsCardSaid :=
  Claim7.holds_tied_plain_at .later [] [.data, .pinned] true (true, "e23bc6a6ba63dba21a613355ad48f8fc762b4c4e1fecb47d96a156b156f7bcc5") false
    row_holds (fun _ h => by cases h) (by kernel_rfl) (fun _ h => by cases h) exactFracs_row_tie rfl ⟨rfl, rfl⟩ (by kernel_rfl) rfl
    (fun f fn hf hfn => by
      obtain rfl : f = 5 := Option.some.inj ((show Tryd.prog.funcNamed "waveplate/waveplatelaw01.ExactFracs" = some 5 by kernel_rfl).symm.trans hf) |>.symm
      obtain rfl : fn = Tryd.f5 := (Option.some.inj (Tryd.func5.symm.trans hfn)).symm
      exact ⟨by kernel_rfl, fun j t ht => by
        rw [Tryd.params5] at ht
        have h3 : t = 36 := by
          rcases j with _ | _ | j
          · simpa using ht.symm
          · simpa using ht.symm
          · simp at ht
        subst h3
        exact (show Tryd.prog.wantsStandIn 36 = false by kernel_rfl)⟩)
    (by kernel_rfl)
end Go.Proofs.YtpkeneadkiabiaaDoor.exactFracs

