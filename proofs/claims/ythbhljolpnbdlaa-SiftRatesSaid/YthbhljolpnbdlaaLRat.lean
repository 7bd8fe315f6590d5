/- SiftRates: for any counts of a sample and any two fractions the law answers true, and leaves its arguments as they are; no condition. -/
import Derived.Test.YthbhljolpnbdlaaRows
import Derived.Test.YthbhljolpnbdlaaTR
import Derived.Test.YthbhljolpnbdlaaSk7
import Derived.Test.YthbhljolpnbdlaaVY
import Derived.KernelRfl
import Derived.ProofKit
import Derived.OpenShut
set_option linter.unusedSimpArgs false
namespace Go.Proofs.Ythbhljolpnbdlaa.siftRates
open Go.ChangeShapes Go.WideShapes Go.ChangeAt Go.RowKit Go.Vh
set_option linter.unusedVariables false

theorem own : ownKnob Try.prog.godebug = none := by kernel_rfl
theorem cells74 : Try.prog.cellsOf 74 = 3 := by kernel_rfl
theorem cells78 : Try.prog.cellsOf 78 = 2 := by kernel_rfl
theorem cells76 : Try.prog.cellsOf 76 = 1 := by kernel_rfl
theorem cells161 : Try.prog.cellsOf 161 = 1 := by kernel_rfl
theorem cells3 : Try.prog.cellsOf 3 = 1 := by kernel_rfl
theorem threeL {α : Type} : ∀ {l : List α}, l.length = 3 → ∃ a b c, l = [a, b, c]
  | [a, b, c], _ => ⟨a, b, c, rfl⟩
  | [], h | [_], h | [_, _], h | _ :: _ :: _ :: _ :: _, h => by simp at h
theorem twoM {α : Type} : ∀ {l : List α}, l.length = 2 → ∃ a b, l = [a, b]
  | [a, b], _ => ⟨a, b, rfl⟩
  | [], h | [_], h | _ :: _ :: _ :: _, h => by simp at h
theorem limbs_of {l : List Int} (h : ∀ n ∈ l, (Lit.int .u32 n).wf = true) : S1.Limbs l := fun i => by
  rcases Nat.lt_or_ge i l.length with hi | hi
  · have := h l[i] (List.getElem_mem hi)
    simp only [Lit.wf, Bool.and_eq_true, decide_eq_true_eq] at this
    have e : l.getD i 0 = l[i] := by simp [List.getD_eq_getElem?_getD, hi]
    rw [e]; exact this
  · have e : l.getD i 0 = 0 := by simp [List.getD_eq_getElem?_getD, List.getElem?_eq_none hi]
    rw [e]; omega

section
variable {P : Program} {H : Type} {enc : TypeId × Value → H} {W : World}
theorem cell_kind {e : TypeId} {k : IntKind} {fs : Array Field} (he : P.underlying e = some (.struct fs)) {j : Nat} {f : Field} (hf : fs[j]? = some f) (ho : f.offset = j) (hu : P.underlying f.type = some (.int k)) (hc : P.cellsOf f.type = 1)
    {fuel : Nat} {cs : List Value} {y : DataW H × List MemPlace} (h : DataW.trod enc P W 0 (fun _ => true) true fuel e cs = some y) :
    ∃ z : Int, cs[j]? = some (.int k z) ∧ (Lit.int k z).wf = true := by
  obtain ⟨xs, n, _, _, _, hxs, hfld⟩ := DataW.trod_struct he h
  have h1 := hfld j f hf
  have hlt : j < xs.length := by
    have := (Array.getElem?_eq_some_iff.1 hf).1
    omega
  rw [List.getElem?_eq_getElem hlt, ho, hc] at h1
  obtain ⟨z, hz, _, hw⟩ := DataW.trod_int hu h1
  refine ⟨z, ?_, hw⟩
  have := congrArg (fun l : List Value => l[0]?) hz
  simpa using this
end


section
variable {H : Type} {enc : TypeId × Value → H} {W : World}
set_option maxRecDepth 100000 in
/-- a fraction's two numbers -/
theorem frac_open {v : Value} {base : Nat} {x : DataW H × List MemPlace} (hv : Value.okWide Try.prog W .any base 78 v) (h : ∃ fuel, DataW.trod enc Try.prog W 0 (fun _ => true) true fuel 78 v.cells.toList = some x) :
    ∃ (κ0 κ1 : SK) (z0 z1 : IRow) (c0 c1 : Value), v = .agg #[c0, c1] ∧ z0.k = .u32 ∧ z0.at W ∧ okS κ0 z0.l.length ∧ z0.l.length ≤ maxLen ∧ S1.Limbs z0.l ∧ z1.k = .u32 ∧ z1.at W ∧ okS κ1 z1.l.length ∧ z1.l.length ≤ maxLen ∧ S1.Limbs z1.l
      ∧ (∀ (ρ : RMap) (i : Nat), ρ i = some z0.x → VRel ρ (mkS κ0 i 0 z0.l.length) c0) ∧ (∀ (ρ : RMap) (i : Nat), ρ i = some z1.x → VRel ρ (mkS κ1 i 0 z1.l.length) c1) := by
  obtain ⟨cs, rfl, hsz⟩ := okWide_struct Try.underlying78 hv
  obtain ⟨fuel, hf⟩ := h
  rw [cells78] at hsz
  obtain ⟨cl⟩ := cs
  obtain ⟨c0, c1, rfl⟩ := twoM hsz
  obtain ⟨xs, n, _, _, _, hxs, hfld⟩ := DataW.trod_struct Try.underlying78 hf
  obtain ⟨y0, y1, rfl⟩ := twoM hxs
  have f0 : DataW.trod enc Try.prog W 0 (fun _ => true) true n 76 [c0] = some y0 := by
    have h : DataW.trod enc Try.prog W 0 (fun _ => true) true n 76 (([c0, c1].drop 0).take (Try.prog.cellsOf 76)) = some y0 := hfld 0 _ rfl
    rw [cells76] at h; exact h
  have f1 : DataW.trod enc Try.prog W 0 (fun _ => true) true n 76 [c1] = some y1 := by
    have h : DataW.trod enc Try.prog W 0 (fun _ => true) true n 76 (([c0, c1].drop 1).take (Try.prog.cellsOf 76)) = some y1 := hfld 1 _ rfl
    rw [cells76] at h; exact h
  obtain ⟨κ0, z0, k0, at0, ok0, m0, wf0, g0⟩ := field_ints Try.underlying76 Try.underlying161 cells161 f0
  obtain ⟨κ1, z1, k1, at1, ok1, m1, wf1, g1⟩ := field_ints Try.underlying76 Try.underlying161 cells161 f1
  exact ⟨κ0, κ1, z0, z1, c0, c1, rfl, k0, at0, ok0, m0, limbs_of wf0, k1, at1, ok1, m1, limbs_of wf1, g0, g1⟩
end

set_option maxRecDepth 100000 in
theorem lifted (os : Os) (started : os.Started) (H : Type) (enc : TypeId × Value → H) :
    ReturnsInHanded {} Try.checked os 10 .any (Rows.siftRatesSpec.pre6 enc Try.prog Try.f10 Rows.siftRatesRow.domain false) (Rows.siftRatesSpec.post enc Try.prog Try.f10 false true false false) := by
  refine returnsInHanded_of_change (C := Try.checked) own started (by kernel_rfl) Try.func10
    (ChangeSpec.witness6 (enc := enc) (C := Try.checked) false ⟨#[], #[.agg #[.int .i64 0, .int .i64 0, .int .i64 0], .agg #[.slice none 0 0, .slice none 0 0], .agg #[.slice none 0 0, .slice none 0 0]], []⟩ 8 (by kernel_rfl) (by kernel_rfl) (by kernel_rfl) (by kernel_rfl)) ?_
  intro W base args ds gs before hval0 hW hcnd _
  have hval : ∀ (j : Nat) t v, Try.f10.params[j]? = some t → args[j]? = some v → Value.okWide Try.prog W .any base t v := hval0
  have hW' := hW
  obtain ⟨p, q, hA0, hV, rfl, hfz, hnd⟩ := hW
  have hA : DataW.TrodAll enc Try.prog W 0 (fun _ => true) true Try.f10.params.toList args.toList ds p := hA0
  rw [Try.params10] at hA hval
  obtain ⟨v0, vs0, d0, ds0, p0, q0, hargs, rfl, rfl, h0, r0⟩ := trodAll_cons hA
  obtain ⟨v1, vs1, d1, ds1, p1, q1, rfl, rfl, rfl, h1, r1⟩ := trodAll_cons r0
  obtain ⟨v2, vs2, d2, ds2, p2, q2, rfl, rfl, rfl, h2, r2⟩ := trodAll_cons r1
  obtain ⟨rfl, rfl, rfl⟩ := trodAll_nil r2
  obtain rfl : args = #[v0, v1, v2] := by cases args; simp_all
  obtain ⟨rfl, rfl⟩ := trodVars_none hV
  obtain ⟨cs0, rfl, hsz0⟩ := okWide_struct Try.underlying74 (hval 0 74 v0 rfl rfl)
  obtain ⟨fuel0, hf0⟩ := h0
  rw [cells74] at hsz0
  obtain ⟨cl0⟩ := cs0
  obtain ⟨c0, c1, c2, rfl⟩ := threeL hsz0
  have hf0' : DataW.trod enc Try.prog W 0 (fun _ => true) true fuel0 74 [c0, c1, c2] = some (d0, p0) := hf0
  obtain ⟨N, g0, w0⟩ := cell_kind (k := .i64) Try.underlying74 (j := 0) rfl rfl Try.underlying3 cells3 hf0'
  obtain ⟨S, g1, w1⟩ := cell_kind (k := .i64) Try.underlying74 (j := 1) rfl rfl Try.underlying3 cells3 hf0'
  obtain ⟨B, g2, w2⟩ := cell_kind (k := .i64) Try.underlying74 (j := 2) rfl rfl Try.underlying3 cells3 hf0'
  simp only [List.getElem?_cons_zero, List.getElem?_cons_succ, Option.some.injEq] at g0 g1 g2
  subst g0; subst g1; subst g2
  have b0 : -9223372036854775808 ≤ N ∧ N ≤ 9223372036854775807 := by
    simp only [Lit.wf, Bool.and_eq_true, decide_eq_true_eq] at w0; exact w0
  have b1 : -9223372036854775808 ≤ S ∧ S ≤ 9223372036854775807 := by
    simp only [Lit.wf, Bool.and_eq_true, decide_eq_true_eq] at w1; exact w1
  have b2 : -9223372036854775808 ≤ B ∧ B ≤ 9223372036854775807 := by
    simp only [Lit.wf, Bool.and_eq_true, decide_eq_true_eq] at w2; exact w2
  obtain ⟨κ0, κ1, z0, z1, e0, e1, rfl, k0, at0, ok0, m0, l0, k1, at1, ok1, m1, l1, u0, u1⟩ := frac_open (hval 1 78 v1 rfl rfl) h1
  obtain ⟨κ2, κ3, z2, z3, e2, e3, rfl, k2, at2, ok2, m2, l2, k3, at3, ok3, m3, l3, u2, u3⟩ := frac_open (hval 2 78 v2 rfl rfl) h2
  obtain ⟨Ww, hw⟩ := known_calls
  have hlaw := S1.lawRat_calls hw N S B κ0 κ1 κ2 κ3 z0.l z1.l z2.l z3.l ok0 ok1 ok2 ok3 m0 m1 m2 m3 l0 l1 l2 l3 b0 b1 b2
  have hrows : irows [z0, z1, z2, z3] = [ro (ints .u32 z0.l), ro (ints .u32 z1.l), ro (ints .u32 z2.l), ro (ints .u32 z3.l)] := by
    simp only [irows, List.map_cons, List.map_nil, k0, k1, k2, k3]
  rw [← hrows] at hlaw
  refine (ACalls.onInts hlaw (w := W) (fun r hr => ?_) (vs := [.agg #[.int .i64 N, .int .i64 S, .int .i64 B], .agg #[e0, e1], .agg #[e2, e3]])
    (.cons _ _ _ _ (.agg _ _ (.cons _ _ _ _ (.int _ _) (.cons _ _ _ _ (.int _ _) (.cons _ _ _ _ (.int _ _) .nil)))) (.cons _ _ _ _ (.agg _ _ (.cons _ _ _ _ (u0 _ 0 rfl) (.cons _ _ _ _ (u1 _ 1 rfl) .nil))) (.cons _ _ _ _ (.agg _ _ (.cons _ _ _ _ (u2 _ 2 rfl) (.cons _ _ _ _ (u3 _ 3 rfl) .nil))) .nil)))).mono fun e W' ⟨v, v', ρ', H', he, hv, hr, hf⟩ => ?_
  · simp only [List.mem_cons, List.not_mem_nil, or_false] at hr
    rcases hr with rfl | rfl | rfl | rfl
    · exact at0
    · exact at1
    · exact at2
    · exact at3
  subst he; subst hv
  have hv' := hr.bool_inv
  subst hv'
  exact ⟨_, rfl, law_post' (by kernel_rfl) (by kernel_rfl) Try.underlying4 rfl rfl rfl rfl hW' hf⟩

theorem proved : Rows.SiftRatesSaid :=
  OpenClaim.holds_of_wide 10 Try.f10 rfl rfl rfl rfl rfl rfl rfl ⟨rfl, rfl, rfl, rfl, rfl⟩ rfl rfl rfl rfl rfl (by kernel_rfl) Try.func10 (by kernel_rfl)
    (of_decide_eq_true (by kernel_rfl)) (by unfold Func.isWrapper; first | (rw [if_pos (by decide +kernel)]; kernel_rfl) | (rw [if_neg (by decide +kernel)]; exact ⟨rfl, rfl⟩))
    (fun os started H enc _ => lifted os started H enc)
end Go.Proofs.Ythbhljolpnbdlaa.siftRates

