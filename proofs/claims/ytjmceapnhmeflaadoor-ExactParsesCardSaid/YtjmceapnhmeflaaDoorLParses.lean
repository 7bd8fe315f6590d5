/- ExactParses: for any text the law answers true; the listed tables are tied to the program's text. -/
import Derived.Test.YtjmceapnhmeflaaDoorCards
import Derived.Test.YtjmceapnhmeflaaDoorTie
import Derived.Test.YtjmceapnhmeflaaDoorK8
import Derived.Test.YtjmceapnhmeflaaDoorC9
import Derived.ProofKit
import Derived.OpenShut
import Derived.LaidMore
import Derived.ChangeMaps5
import Derived.Lay
import Derived.SevenTiedAt
import Derived.Stop.Joined
set_option linter.unusedSimpArgs false
namespace Go.Proofs.YtjmceapnhmeflaaDoor.exactParses
open Go.ChangeShapes Go.WideShapes Go.ChangeAt Go.RowKit Go.Vh
set_option linter.unusedVariables false

theorem own : ownKnob Tryd.prog.godebug = none := by kernel_rfl

theorem str_of (s : ByteArray) : ∃ l : List Int, s = strOfNums l ∧ Bytes l ∧ l.length = s.size := by
  refine ⟨s.data.toList.map fun c => ((c.toNat : Nat) : Int), ?_, fun x hx => ?_, by rw [List.length_map]; rfl⟩
  · apply ByteArray.ext
    apply Array.ext'
    simp only [strOfNums, List.map_map]
    conv => lhs; rw [← List.map_id s.data.toList]
    exact List.map_congr_left fun c _ => by simp
  · simp only [List.mem_map] at hx
    obtain ⟨c, _, rfl⟩ := hx
    have := c.toNat_lt
    omega

set_option maxRecDepth 100000 in
theorem met (os : Os) (args : Array Value) : laidMetH Tryd.prog Rows.exactParsesRow.laid ((World.laidAll Tryd.prog os Rows.exactParsesRow.laid).forCall (fun _ _ => 0) ⟨#[], args, []⟩).memory := by
  rw [MakeChecks.laidMetH_plain _ _ _ (by kernel_rfl)]; exact laidMet_laidAll _ (by kernel_rfl) (by kernel_rfl)

set_option maxRecDepth 100000 in
theorem lifted (os : Os) (started : os.Started) (H : Type) (enc : TypeId × Value → H) :
    ReturnsInHanded {} Tryd.checked os 4 .any (fun w args => (Rows.exactParsesSpec.pre enc Tryd.prog Tryd.f4 Rows.exactParsesRow.domain false w args ∧ laidMetH Tryd.prog Rows.exactParsesRow.laid w) ∧ sizedMet enc Tryd.prog Tryd.f4 (OpenSpec.ofChange Rows.exactParsesSpec) false w args)
      (Rows.exactParsesSpec.post enc Tryd.prog Tryd.f4 false true false false) := by
  refine returnsInHanded_of_change_and (C := Tryd.checked) (X := fun w _ => laidMetH Tryd.prog Rows.exactParsesRow.laid w) (fun _ _ _ hh h => h.of_heap hh) own started (by kernel_rfl) Tryd.func4
    (ChangeSpec.witness_shaped (enc := enc) (C := Tryd.checked) (os := os) (X := fun w _ => laidMetH Tryd.prog Rows.exactParsesRow.laid w) false (World.laidAll Tryd.prog os Rows.exactParsesRow.laid) #[.string ⟨#[]⟩] 8 (World.laidAll_os _ _ _)
      (World.shaped_of_ZipB (by kernel_rfl) (by kernel_rfl)) (by kernel_rfl) (by kernel_rfl) (by kernel_rfl) (met os _)) ?_
  intro W base args ds gs before hval0 hW hc _ hL _
  have hval : ∀ (j : Nat) t v, Tryd.f4.params[j]? = some t → args[j]? = some v → Value.okWide Tryd.prog W .any base t v := hval0
  have hW' := hW
  obtain ⟨p, q, hA0, hV, rfl, _, _⟩ := hW
  have hA : DataW.TrodAll enc Tryd.prog W 0 (fun _ => true) true Tryd.f4.params.toList args.toList ds p := hA0
  rw [Tryd.params4] at hA hval
  obtain ⟨v0, vs0, d0, ds0, p0, q0, hargs, rfl, rfl, h0, r0⟩ := trodAll_cons hA
  obtain ⟨rfl, rfl, rfl⟩ := trodAll_nil r0
  obtain rfl : args = #[v0] := by cases args; simp_all
  obtain ⟨rfl, rfl⟩ := trodVars_none hV
  obtain ⟨s, rfl, rfl, rfl, hsz⟩ := Go.ChangeMaps.open_string Tryd.underlying9 (hval 0 9 v0 rfl rfl) h0
  obtain ⟨l, hs, hbl, hll⟩ := str_of s
  obtain ⟨Ws, hw⟩ := works_calls
  have hlaw := parses_calls hw l hbl (by rw [hll]; exact hsz)
  rw [← hs] at hlaw
  refine (ACalls.onInts (rs := [⟨.u32, [], ⟨0, 0, 1⟩⟩]) hlaw (w := W) (fun r hr => ?_) (vs := [.string s]) (.cons _ _ _ _ (.str _) .nil)).mono fun e W' ⟨v, v', ρ', H', he, hv, hr, hf⟩ => ?_
  · simp only [List.mem_cons, List.not_mem_nil, or_false] at hr
    subst hr
    exact ⟨by simp, fun i hi => by simp at hi⟩
  subst he; subst hv
  have hv' := hr.bool_inv
  subst hv'
  exact ⟨_, rfl, law_post' (by kernel_rfl) (by kernel_rfl) Tryd.underlying4 rfl rfl rfl rfl hW' hf⟩

theorem row_holds : Rows.ExactParsesSaid :=
  OpenClaim.holds_of_wide 4 Tryd.f4 rfl rfl rfl rfl rfl rfl rfl ⟨rfl, rfl, rfl, rfl, rfl⟩ rfl rfl rfl rfl rfl (by kernel_rfl) Tryd.func4 (by kernel_rfl)
    (of_decide_eq_true (by kernel_rfl)) (by unfold Func.isWrapper; first | (rw [if_pos (by decide +kernel)]; kernel_rfl) | (rw [if_neg (by decide +kernel)]; exact ⟨rfl, rfl⟩))
    (fun os started H enc _ => lifted os started H enc)

theorem card_holds : Rows.ExactParsesCardSaid :=
  Claim7.holds_tied_plain_at .later [] [.data, .pinned] true (true, "e23bc6a6ba63dba21a613355ad48f8fc762b4c4e1fecb47d96a156b156f7bcc5") false
    row_holds (fun _ h => by cases h) (by kernel_rfl) (fun _ h => by cases h) exactParses_row_tie rfl ⟨rfl, rfl⟩ (by kernel_rfl) rfl
    (fun f fn hf hfn => by
      obtain rfl : f = 4 := Option.some.inj ((show Tryd.prog.funcNamed "waveplate/waveplatelaw01.ExactParses" = some 4 by kernel_rfl).symm.trans hf) |>.symm
      obtain rfl : fn = Tryd.f4 := (Option.some.inj (Tryd.func4.symm.trans hfn)).symm
      exact ⟨by kernel_rfl, fun j t ht => by
        rw [Tryd.params4] at ht
        have h3 : t = 9 := by
          rcases j with _ | j
          · simpa using ht.symm
          · simp at ht
        subst h3
        exact (show Tryd.prog.wantsStandIn 9 = false by kernel_rfl)⟩)
    (by kernel_rfl)
end Go.Proofs.YtjmceapnhmeflaaDoor.exactParses

