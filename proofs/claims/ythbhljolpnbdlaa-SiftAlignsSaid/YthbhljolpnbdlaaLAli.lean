/- SiftAligns: for every head, all clicks and any two numbers the law answers true, and leaves its arguments as they are; no condition. -/
import Derived.Test.YthbhljolpnbdlaaRows
import Derived.Test.YthbhljolpnbdlaaTO
import Derived.Test.YthbhljolpnbdlaaSk7
import Derived.Test.YthbhljolpnbdlaaVY
import Derived.KernelRfl
import Derived.ProofKit
import Derived.OpenShut
set_option linter.unusedSimpArgs false
namespace Go.Proofs.Ythbhljolpnbdlaa.siftAligns
open Go.ChangeShapes Go.WideShapes Go.ChangeAt Go.RowKit Go.Vh
set_option linter.unusedVariables false

theorem own : ownKnob Try.prog.godebug = none := by kernel_rfl
theorem cells89 : Try.prog.cellsOf 89 = 5 := by kernel_rfl
theorem cells87 : Try.prog.cellsOf 87 = 2 := by kernel_rfl
theorem cells3 : Try.prog.cellsOf 3 = 1 := by kernel_rfl
theorem cells4 : Try.prog.cellsOf 4 = 1 := by kernel_rfl

/-- cells of that shape are those of pulses -/
theorem pcells_ofK {g : Nat → AV} : ∀ m : Nat, (∀ i, i < m → ∀ (j : Nat) (b : Bool), [false, true, false, false, true][j]? = some b → isK b (g (i * 5 + j))) →
    ∃ L : List Pul, L.length = m ∧ pcells L = (List.range (m * 5)).map g
  | 0, _ => ⟨[], rfl, rfl⟩
  | m + 1, h => by
    obtain ⟨L, h1, h2⟩ := pcells_ofK m fun i hi => h i (by omega)
    have hm := h m (by omega)
    obtain ⟨a, ha⟩ : isK false (g (m * 5 + 0)) := hm 0 false rfl
    obtain ⟨b, hb⟩ : isK true (g (m * 5 + 1)) := hm 1 true rfl
    obtain ⟨c, hc⟩ : isK false (g (m * 5 + 2)) := hm 2 false rfl
    obtain ⟨d, hd⟩ : isK false (g (m * 5 + 3)) := hm 3 false rfl
    obtain ⟨e, he⟩ : isK true (g (m * 5 + 4)) := hm 4 true rfl
    rw [Nat.add_zero] at ha
    refine ⟨L ++ [⟨a, b, c, d, e⟩], by simp [h1], ?_⟩
    rw [show (m + 1) * 5 = m * 5 + 1 + 1 + 1 + 1 + 1 by omega]
    simp only [List.range_succ, List.map_append, List.map_cons, List.map_nil, ← h2]
    rw [show m * 5 + 1 + 1 = m * 5 + 2 by omega, show m * 5 + 2 + 1 = m * 5 + 3 by omega, show m * 5 + 3 + 1 = m * 5 + 4 by omega, ha, hb, hc, hd, he]
    simp [pcells, pcell]
/-- cells of that shape are integers -/
theorem pairs_ofK {g : Nat → AV} : ∀ m : Nat, (∀ i, i < m → ∀ (j : Nat) (b : Bool), [false, false][j]? = some b → isK b (g (i * 2 + j))) →
    ∃ l : List Int, l.length = m * 2 ∧ ints .i64 l = (List.range (m * 2)).map g
  | 0, _ => ⟨[], rfl, rfl⟩
  | m + 1, h => by
    obtain ⟨l, h1, h2⟩ := pairs_ofK m fun i hi => h i (by omega)
    have hm := h m (by omega)
    obtain ⟨a, ha⟩ : isK false (g (m * 2 + 0)) := hm 0 false rfl
    obtain ⟨b, hb⟩ : isK false (g (m * 2 + 1)) := hm 1 false rfl
    rw [Nat.add_zero] at ha
    refine ⟨l ++ [a, b], by simp [h1]; omega, ?_⟩
    rw [show (m + 1) * 2 = m * 2 + 1 + 1 by omega]
    simp only [List.range_succ, List.map_append, List.map_cons, List.map_nil, ← h2]
    rw [ha, hb]
    simp [ints]

set_option maxRecDepth 100000 in
theorem lifted (os : Os) (started : os.Started) (H : Type) (enc : TypeId × Value → H) :
    ReturnsInHanded {} Try.checked os 3 .any (Rows.siftAlignsSpec.pre6 enc Try.prog Try.f3 Rows.siftAlignsRow.domain false) (Rows.siftAlignsSpec.post enc Try.prog Try.f3 false true false false) := by
  refine returnsInHanded_of_change (C := Try.checked) own started (by kernel_rfl) Try.func3
    (ChangeSpec.witness6 (enc := enc) (C := Try.checked) false ⟨#[], #[.slice none 0 0, .slice none 0 0, .int .i64 0, .int .i64 0], []⟩ 8 (by kernel_rfl) (by kernel_rfl) (by kernel_rfl) (by kernel_rfl)) ?_
  intro W base args ds gs before hval0 hW hcnd _
  have hval : ∀ (j : Nat) t v, Try.f3.params[j]? = some t → args[j]? = some v → Value.okWide Try.prog W .any base t v := hval0
  have hW' := hW
  obtain ⟨p, q, hA0, hV, rfl, hfz, hnd⟩ := hW
  have hA : DataW.TrodAll enc Try.prog W 0 (fun _ => true) true Try.f3.params.toList args.toList ds p := hA0
  rw [Try.params3] at hA hval
  obtain ⟨v0, vs0, d0, ds0, p0, q0, hargs, rfl, rfl, h0, r0⟩ := trodAll_cons hA
  obtain ⟨v1, vs1, d1, ds1, p1, q1, rfl, rfl, rfl, h1, r1⟩ := trodAll_cons r0
  obtain ⟨v2, vs2, d2, ds2, p2, q2, rfl, rfl, rfl, h2, r2⟩ := trodAll_cons r1
  obtain ⟨v3, vs3, d3, ds3, p3, q3, rfl, rfl, rfl, h3, r3⟩ := trodAll_cons r2
  obtain ⟨rfl, rfl, rfl⟩ := trodAll_nil r3
  obtain rfl : args = #[v0, v1, v2, v3] := by cases args; simp_all
  obtain ⟨rfl, rfl⟩ := trodVars_none hV
  obtain ⟨κ, n, g, z, hsh, hat, hk, hn, hg, hu⟩ := open_row_structs [false, true, false, false, true] (k := 5) rfl (by omega) Try.underlying22 cells89 (fun h j b hj => by
    obtain ⟨a0, ha0, _⟩ := cell_int Try.underlying89 (j := 0) rfl rfl Try.underlying3 cells3 h
    obtain ⟨a1, ha1⟩ := cell_bool Try.underlying89 (j := 1) rfl rfl Try.underlying4 cells4 h
    obtain ⟨a2, ha2, _⟩ := cell_int Try.underlying89 (j := 2) rfl rfl Try.underlying3 cells3 h
    obtain ⟨a3, ha3, _⟩ := cell_int Try.underlying89 (j := 3) rfl rfl Try.underlying3 cells3 h
    obtain ⟨a4, ha4⟩ := cell_bool Try.underlying89 (j := 4) rfl rfl Try.underlying4 cells4 h
    rcases j with _ | _ | _ | _ | _ | j
    · cases hj; exact ⟨_, ha0, _, rfl⟩
    · cases hj; exact ⟨_, ha1, _, rfl⟩
    · cases hj; exact ⟨_, ha2, _, rfl⟩
    · cases hj; exact ⟨_, ha3, _, rfl⟩
    · cases hj; exact ⟨_, ha4, _, rfl⟩
    · simp at hj) (hval 0 22 v0 rfl rfl) h0
  obtain ⟨L, hL, hLc⟩ := pcells_ofK n hsh
  rw [← hLc] at hat
  obtain ⟨κ', m, g', z', hsh', hat', hk', hm, hg', hu'⟩ := open_row_structs [false, false] (k := 2) rfl (by omega) Try.underlying23 cells87 (fun h j b hj => by
    obtain ⟨a0, ha0, _⟩ := cell_int Try.underlying87 (j := 0) rfl rfl Try.underlying3 cells3 h
    obtain ⟨a1, ha1, _⟩ := cell_int Try.underlying87 (j := 1) rfl rfl Try.underlying3 cells3 h
    rcases j with _ | _ | j
    · cases hj; exact ⟨_, ha0, _, rfl⟩
    · cases hj; exact ⟨_, ha1, _, rfl⟩
    · simp at hj) (hval 1 23 v1 rfl rfl) h1
  obtain ⟨l, hl, hlc⟩ := pairs_ofK m hsh'
  rw [← hlc] at hat'
  obtain ⟨sh, rfl, _, _, _⟩ := open_int Try.underlying3 (hval 2 3 v2 rfl rfl) h2
  obtain ⟨need, rfl, _, _, _⟩ := open_int Try.underlying3 (hval 3 3 v3 rfl rfl) h3
  obtain ⟨Ww, hw⟩ := known_calls
  have hlaw := lawAli_calls hw κ κ' n m L l sh need hk hu hL hn hk' hu' hl hm
  refine (ACalls.onRows (rs := [⟨pcells L, z⟩, ⟨ints .i64 l, z'⟩]) hlaw (w := W) (fun r hr => ?_) (vs := [v0, v1, .int .i64 sh, .int .i64 need]) (.cons _ _ _ _ (hg _ 0 rfl) (.cons _ _ _ _ (hg' _ 1 rfl) (.cons _ _ _ _ (.int _ _) (.cons _ _ _ _ (.int _ _) .nil))))).mono fun e W' ⟨v, v', ρ', H', he, hv, hr, hf⟩ => ?_
  · simp only [List.mem_cons, List.not_mem_nil, or_false] at hr
    rcases hr with rfl | rfl
    · exact hat
    · exact hat'
  subst he; subst hv
  have hv' := hr.bool_inv
  subst hv'
  exact ⟨_, rfl, law_post' (by kernel_rfl) (by kernel_rfl) Try.underlying4 rfl rfl rfl rfl hW' hf⟩

theorem proved : Rows.SiftAlignsSaid :=
  OpenClaim.holds_of_wide 3 Try.f3 rfl rfl rfl rfl rfl rfl rfl ⟨rfl, rfl, rfl, rfl, rfl⟩ rfl rfl rfl rfl rfl (by kernel_rfl) Try.func3 (by kernel_rfl)
    (of_decide_eq_true (by kernel_rfl)) (by unfold Func.isWrapper; first | (rw [if_pos (by decide +kernel)]; kernel_rfl) | (rw [if_neg (by decide +kernel)]; exact ⟨rfl, rfl⟩))
    (fun os started H enc _ => lifted os started H enc)
end Go.Proofs.Ythbhljolpnbdlaa.siftAligns

