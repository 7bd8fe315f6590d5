/- SiftBlocks: for all slots, every size and every draw the law answers true, and leaves its arguments as they are; no condition. -/
import Derived.Test.YthbhljolpnbdlaaRows
import Derived.Test.YthbhljolpnbdlaaTP
import Derived.Test.YthbhljolpnbdlaaSk7
import Derived.Test.YthbhljolpnbdlaaVY
import Derived.KernelRfl
import Derived.ProofKit
import Derived.OpenShut
set_option linter.unusedSimpArgs false
namespace Go.Proofs.Ythbhljolpnbdlaa.siftBlocks
open Go.ChangeShapes Go.WideShapes Go.ChangeAt Go.RowKit Go.Vh
set_option linter.unusedVariables false

theorem own : ownKnob Try.prog.godebug = none := by kernel_rfl
theorem cells66 : Try.prog.cellsOf 66 = 3 := by kernel_rfl
theorem cells64 : Try.prog.cellsOf 64 = 1 := by kernel_rfl
theorem cells3 : Try.prog.cellsOf 3 = 1 := by kernel_rfl
theorem cells4 : Try.prog.cellsOf 4 = 1 := by kernel_rfl

/-- cells of that shape are integers -/
theorem ints_ofK {g : Nat → AV} : ∀ m : Nat, (∀ i, i < m → ∀ (j : Nat) (b : Bool), [false][j]? = some b → isK b (g (i * 1 + j))) →
    ∃ l : List Int, l.length = m ∧ ints .i64 l = (List.range (m * 1)).map g
  | 0, _ => ⟨[], rfl, rfl⟩
  | m + 1, h => by
    obtain ⟨l, h1, h2⟩ := ints_ofK m fun i hi => h i (by omega)
    obtain ⟨a, ha⟩ : isK false (g (m * 1 + 0)) := h m (by omega) 0 false rfl
    rw [Nat.add_zero, Nat.mul_one] at ha
    rw [Nat.mul_one] at h2
    refine ⟨l ++ [a], by simp [h1], ?_⟩
    rw [Nat.mul_one, List.range_succ, List.map_append, ← h2, List.map_cons, List.map_nil, ha]
    simp [ints]
theorem threeL {α : Type} : ∀ {l : List α}, l.length = 3 → ∃ a b c, l = [a, b, c]
  | [a, b, c], _ => ⟨a, b, c, rfl⟩
  | [], h | [_], h | [_, _], h | _ :: _ :: _ :: _ :: _, h => by simp at h

section
variable {P : Program} {H : Type} {enc : TypeId × Value → H} {W : World}
theorem cell_kind {e : TypeId} {k : IntKind} {fs : Array Field} (he : P.underlying e = some (.struct fs)) {j : Nat} {f : Field} (hf : fs[j]? = some f) (ho : f.offset = j) (hu : P.underlying f.type = some (.int k)) (hc : P.cellsOf f.type = 1)
    {fuel : Nat} {cs : List Value} {y : DataW H × List MemPlace} (h : DataW.trod enc P W 0 (fun _ => true) true fuel e cs = some y) :
    ∃ z : Int, cs[j]? = some (.int k z) ∧ (Lit.int k z).wf = true := by
  obtain ⟨xs, n, _, _, _, hxs, hfld⟩ := DataW.trod_struct he h
  have h1 := hfld j f hf
  have hlt : j < xs.length := by
    have := (Array.getElem?_eq_some_iff.1 hf).1
    omega
  rw [List.getElem?_eq_getElem hlt, ho, hc] at h1
  obtain ⟨z, hz, _, hw⟩ := DataW.trod_int hu h1
  refine ⟨z, ?_, hw⟩
  have := congrArg (fun l : List Value => l[0]?) hz
  simpa using this
end

set_option maxRecDepth 100000 in
theorem lifted (os : Os) (started : os.Started) (H : Type) (enc : TypeId × Value → H) :
    ReturnsInHanded {} Try.checked os 9 .any (Rows.siftBlocksSpec.pre6 enc Try.prog Try.f9 Rows.siftBlocksRow.domain false) (Rows.siftBlocksSpec.post enc Try.prog Try.f9 false true false false) := by
  refine returnsInHanded_of_change (C := Try.checked) own started (by kernel_rfl) Try.func9
    (ChangeSpec.witness6 (enc := enc) (C := Try.checked) false ⟨#[], #[.slice none 0 0, .int .i64 0, .agg #[.int .i64 0, .int .i64 0, .int .u64 0]], []⟩ 8 (by kernel_rfl) (by kernel_rfl) (by kernel_rfl) (by kernel_rfl)) ?_
  intro W base args ds gs before hval0 hW hcnd _
  have hval : ∀ (j : Nat) t v, Try.f9.params[j]? = some t → args[j]? = some v → Value.okWide Try.prog W .any base t v := hval0
  have hW' := hW
  obtain ⟨p, q, hA0, hV, rfl, hfz, hnd⟩ := hW
  have hA : DataW.TrodAll enc Try.prog W 0 (fun _ => true) true Try.f9.params.toList args.toList ds p := hA0
  rw [Try.params9] at hA hval
  obtain ⟨v0, vs0, d0, ds0, p0, q0, hargs, rfl, rfl, h0, r0⟩ := trodAll_cons hA
  obtain ⟨v1, vs1, d1, ds1, p1, q1, rfl, rfl, rfl, h1, r1⟩ := trodAll_cons r0
  obtain ⟨v2, vs2, d2, ds2, p2, q2, rfl, rfl, rfl, h2, r2⟩ := trodAll_cons r1
  obtain ⟨rfl, rfl, rfl⟩ := trodAll_nil r2
  obtain rfl : args = #[v0, v1, v2] := by cases args; simp_all
  obtain ⟨rfl, rfl⟩ := trodVars_none hV
  obtain ⟨κ, n, g, z, hsh, hat, hk, hn, hg, hu⟩ := open_row_structs [false] (k := 1) rfl (by omega) Try.underlying38 cells3 (fun h j b hj => by
    obtain ⟨a, ha, _, _⟩ := DataW.trod_int Try.underlying3 h
    rcases j with _ | j
    · cases hj
      refine ⟨.int .i64 a, ?_, a, rfl⟩
      have := congrArg (fun l : List Value => l[0]?) ha
      simpa using this
    · simp at hj) (hval 0 38 v0 rfl rfl) h0
  obtain ⟨l, hl, hlc⟩ := ints_ofK n hsh
  rw [← hlc] at hat
  obtain ⟨size, rfl, _, _, _⟩ := open_int Try.underlying3 (hval 1 3 v1 rfl rfl) h1
  obtain ⟨cs0, rfl, hsz0⟩ := okWide_struct Try.underlying66 (hval 2 66 v2 rfl rfl)
  obtain ⟨fuel0, hf0⟩ := h2
  rw [cells66] at hsz0
  obtain ⟨cl0⟩ := cs0
  obtain ⟨c0, c1, c2, rfl⟩ := threeL hsz0
  have hf0' : DataW.trod enc Try.prog W 0 (fun _ => true) true fuel0 66 [c0, c1, c2] = some (d2, p2) := hf0
  obtain ⟨N, g0, w0⟩ := cell_kind (k := .i64) Try.underlying66 (j := 0) rfl rfl Try.underlying3 cells3 hf0'
  obtain ⟨K, g1, w1⟩ := cell_kind (k := .i64) Try.underlying66 (j := 1) rfl rfl Try.underlying3 cells3 hf0'
  obtain ⟨sd, g2, w2⟩ := cell_kind (k := .u64) Try.underlying66 (j := 2) rfl rfl Try.underlying64 cells64 hf0'
  simp only [List.getElem?_cons_zero, List.getElem?_cons_succ, Option.some.injEq] at g0 g1 g2
  subst g0; subst g1; subst g2
  have b0 : -9223372036854775808 ≤ N ∧ N ≤ 9223372036854775807 := by
    simp only [Lit.wf, Bool.and_eq_true, decide_eq_true_eq] at w0; exact w0
  have b1 : -9223372036854775808 ≤ K ∧ K ≤ 9223372036854775807 := by
    simp only [Lit.wf, Bool.and_eq_true, decide_eq_true_eq] at w1; exact w1
  have b2 : 0 ≤ sd ∧ sd ≤ 18446744073709551615 := by
    simp only [Lit.wf, Bool.and_eq_true, decide_eq_true_eq] at w2; exact w2
  obtain ⟨st, rfl⟩ : ∃ st : Nat, sd = (st : Int) := ⟨sd.toNat, by omega⟩
  obtain ⟨Ww, hw⟩ := known_calls
  have hxl : (smX N K st).length ≤ 100000 := by
    have := smX_len2 (N := N) (K := K) (st := st)
    omega
  have hyl : (smY N K st).length ≤ 100000 := by
    have := smY_len2 (N := N) (K := K) (st := st)
    omega
  have hlaw := lawBlo_calls hw κ n l size N K st hk hu hl hn (smE N K) (smX N K st) (smY N K st) hxl hyl (fun _ H => sample_calls H N K st b0 b1) (fun _ H => rSample_calls H N K st)
  refine (ACalls.onRows (rs := [⟨ints .i64 l, z⟩]) hlaw (w := W) (fun r hr => ?_) (vs := [v0, .int .i64 size, .agg #[.int .i64 N, .int .i64 K, .int .u64 (st : Int)]]) (.cons _ _ _ _ (hg _ 0 rfl) (.cons _ _ _ _ (.int _ _) (.cons _ _ _ _ (.agg _ _ (.cons _ _ _ _ (.int _ _) (.cons _ _ _ _ (.int _ _) (.cons _ _ _ _ (.int _ _) .nil)))) .nil)))).mono fun e W' ⟨v, v', ρ', H', he, hv, hr, hf⟩ => ?_
  · simp only [List.mem_cons, List.not_mem_nil, or_false] at hr
    subst hr
    exact hat
  subst he; subst hv
  have hv' := hr.bool_inv
  subst hv'
  exact ⟨_, rfl, law_post' (by kernel_rfl) (by kernel_rfl) Try.underlying4 rfl rfl rfl rfl hW' hf⟩

theorem proved : Rows.SiftBlocksSaid :=
  OpenClaim.holds_of_wide 9 Try.f9 rfl rfl rfl rfl rfl rfl rfl ⟨rfl, rfl, rfl, rfl, rfl⟩ rfl rfl rfl rfl rfl (by kernel_rfl) Try.func9 (by kernel_rfl)
    (of_decide_eq_true (by kernel_rfl)) (by unfold Func.isWrapper; first | (rw [if_pos (by decide +kernel)]; kernel_rfl) | (rw [if_neg (by decide +kernel)]; exact ⟨rfl, rfl⟩))
    (fun os started H enc _ => lifted os started H enc)
end Go.Proofs.Ythbhljolpnbdlaa.siftBlocks

