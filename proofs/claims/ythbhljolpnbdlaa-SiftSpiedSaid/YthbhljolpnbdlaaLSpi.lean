/- SiftSpied: for all pulses, notes and slots the law answers true, and leaves its arguments as they are; no condition. -/
import Derived.Test.YthbhljolpnbdlaaRows
import Derived.Test.YthbhljolpnbdlaaTM
import Derived.Test.YthbhljolpnbdlaaSk7
import Derived.Test.YthbhljolpnbdlaaVY
import Derived.KernelRfl
import Derived.ProofKit
import Derived.OpenShut
set_option linter.unusedSimpArgs false
namespace Go.Proofs.Ythbhljolpnbdlaa.siftSpied
open Go.ChangeShapes Go.WideShapes Go.ChangeAt Go.RowKit Go.Vh
set_option linter.unusedVariables false

theorem own : ownKnob Try.prog.godebug = none := by kernel_rfl
theorem cells89 : Try.prog.cellsOf 89 = 5 := by kernel_rfl
theorem cells114 : Try.prog.cellsOf 114 = 4 := by kernel_rfl
theorem cells3 : Try.prog.cellsOf 3 = 1 := by kernel_rfl
theorem cells4 : Try.prog.cellsOf 4 = 1 := by kernel_rfl

/-- cells of that shape are those of pulses -/
theorem pcells_of {g : Nat → AV} : ∀ m : Nat, (∀ i, i < m → (∃ z, g (i * 5) = .int .i64 z) ∧ (∃ z, g (i * 5 + 1) = .bool z) ∧ (∃ z, g (i * 5 + 2) = .int .i64 z) ∧ (∃ z, g (i * 5 + 3) = .int .i64 z) ∧ ∃ z, g (i * 5 + 4) = .bool z) →
    ∃ L : List Pul, L.length = m ∧ pcells L = (List.range (m * 5)).map g
  | 0, _ => ⟨[], rfl, rfl⟩
  | m + 1, h => by
    obtain ⟨L, h1, h2⟩ := pcells_of m fun i hi => h i (by omega)
    obtain ⟨⟨a, ha⟩, ⟨b, hb⟩, ⟨c, hc⟩, ⟨d, hd⟩, ⟨e, he⟩⟩ := h m (by omega)
    refine ⟨L ++ [⟨a, b, c, d, e⟩], by simp [h1], ?_⟩
    rw [show (m + 1) * 5 = m * 5 + 1 + 1 + 1 + 1 + 1 by omega]
    simp only [List.range_succ, List.map_append, List.map_cons, List.map_nil, ← h2]
    rw [show m * 5 + 1 + 1 = m * 5 + 2 by omega, show m * 5 + 2 + 1 = m * 5 + 3 by omega, show m * 5 + 3 + 1 = m * 5 + 4 by omega, ha, hb, hc, hd, he]
    simp [pcells, pcell]

/-- cells of that shape are those of notes -/
theorem ncells_of {g : Nat → AV} : ∀ m : Nat, (∀ i, i < m → ∀ (j : Nat) (b : Bool), [false, false, false, true][j]? = some b → isK b (g (i * 4 + j))) →
    ∃ L : List Not, L.length = m ∧ ncells L = (List.range (m * 4)).map g
  | 0, _ => ⟨[], rfl, rfl⟩
  | m + 1, h => by
    obtain ⟨L, h1, h2⟩ := ncells_of m fun i hi => h i (by omega)
    have hm := h m (by omega)
    obtain ⟨a, ha⟩ : isK false (g (m * 4 + 0)) := hm 0 false rfl
    obtain ⟨b, hb⟩ : isK false (g (m * 4 + 1)) := hm 1 false rfl
    obtain ⟨c, hc⟩ : isK false (g (m * 4 + 2)) := hm 2 false rfl
    obtain ⟨d, hd⟩ : isK true (g (m * 4 + 3)) := hm 3 true rfl
    rw [Nat.add_zero] at ha
    refine ⟨L ++ [⟨a, b, c, d⟩], by simp [h1], ?_⟩
    rw [show (m + 1) * 4 = m * 4 + 1 + 1 + 1 + 1 by omega]
    simp only [List.range_succ, List.map_append, List.map_cons, List.map_nil, ← h2]
    rw [show m * 4 + 1 + 1 = m * 4 + 2 by omega, show m * 4 + 2 + 1 = m * 4 + 3 by omega, ha, hb, hc, hd]
    simp [ncells, ncell]

set_option maxRecDepth 100000 in
theorem lifted (os : Os) (started : os.Started) (H : Type) (enc : TypeId × Value → H) :
    ReturnsInHanded {} Try.checked os 7 .any (Rows.siftSpiedSpec.pre6 enc Try.prog Try.f7 Rows.siftSpiedRow.domain false) (Rows.siftSpiedSpec.post enc Try.prog Try.f7 false true false false) := by
  refine returnsInHanded_of_change (C := Try.checked) own started (by kernel_rfl) Try.func7
    (ChangeSpec.witness6 (enc := enc) (C := Try.checked) false ⟨#[], #[.slice none 0 0, .slice none 0 0, .slice none 0 0], []⟩ 8 (by kernel_rfl) (by kernel_rfl) (by kernel_rfl) (by kernel_rfl)) ?_
  intro W base args ds gs before hval0 hW hcnd _
  have hval : ∀ (j : Nat) t v, Try.f7.params[j]? = some t → args[j]? = some v → Value.okWide Try.prog W .any base t v := hval0
  have hW' := hW
  obtain ⟨p, q, hA0, hV, rfl, hfz, hnd⟩ := hW
  have hA : DataW.TrodAll enc Try.prog W 0 (fun _ => true) true Try.f7.params.toList args.toList ds p := hA0
  rw [Try.params7] at hA hval
  obtain ⟨v0, vs0, d0, ds0, p0, q0, hargs, rfl, rfl, h0, r0⟩ := trodAll_cons hA
  obtain ⟨v1, vs1, d1, ds1, p1, q1, rfl, rfl, rfl, h1, r1⟩ := trodAll_cons r0
  obtain ⟨v2, vs2, d2, ds2, p2, q2, rfl, rfl, rfl, h2, r2⟩ := trodAll_cons r1
  obtain ⟨rfl, rfl, rfl⟩ := trodAll_nil r2
  obtain rfl : args = #[v0, v1, v2] := by cases args; simp_all
  obtain ⟨rfl, rfl⟩ := trodVars_none hV
  obtain ⟨κ, m, g, z, hsh, hat, hk, hm, hg⟩ := open_row_fives Try.underlying22 cells89 (fun h => by
    obtain ⟨a, ha, _⟩ := cell_int Try.underlying89 (j := 0) rfl rfl Try.underlying3 cells3 h
    obtain ⟨b, hb⟩ := cell_bool Try.underlying89 (j := 1) rfl rfl Try.underlying4 cells4 h
    obtain ⟨c, hc, _⟩ := cell_int Try.underlying89 (j := 2) rfl rfl Try.underlying3 cells3 h
    obtain ⟨d, hd, _⟩ := cell_int Try.underlying89 (j := 3) rfl rfl Try.underlying3 cells3 h
    obtain ⟨f, hf⟩ := cell_bool Try.underlying89 (j := 4) rfl rfl Try.underlying4 cells4 h
    exact ⟨a, b, c, d, f, ha, hb, hc, hd, hf⟩) (hval 0 22 v0 rfl rfl) h0
  obtain ⟨L, hL, hLc⟩ := pcells_of m hsh
  rw [← hLc] at hat
  obtain ⟨κ', n, g', z', hsh', hat', hk', hn, hg'⟩ := open_row_structs [false, false, false, true] (k := 4) rfl (by omega) Try.underlying52 cells114 (fun h j b hj => by
    obtain ⟨a0, ha0, _⟩ := cell_int Try.underlying114 (j := 0) rfl rfl Try.underlying3 cells3 h
    obtain ⟨a1, ha1, _⟩ := cell_int Try.underlying114 (j := 1) rfl rfl Try.underlying3 cells3 h
    obtain ⟨a2, ha2, _⟩ := cell_int Try.underlying114 (j := 2) rfl rfl Try.underlying3 cells3 h
    obtain ⟨a3, ha3⟩ := cell_bool Try.underlying114 (j := 3) rfl rfl Try.underlying4 cells4 h
    rcases j with _ | _ | _ | _ | j
    · cases hj; exact ⟨_, ha0, _, rfl⟩
    · cases hj; exact ⟨_, ha1, _, rfl⟩
    · cases hj; exact ⟨_, ha2, _, rfl⟩
    · cases hj; exact ⟨_, ha3, _, rfl⟩
    · simp at hj) (hval 1 52 v1 rfl rfl) h1
  obtain ⟨N, hN, hNc⟩ := ncells_of n hsh'
  rw [← hNc] at hat'
  obtain ⟨κ2, z2, k2, at2, ok2, m2, _, g2⟩ := open_row_ints Try.underlying38 Try.underlying3 cells3 (hval 2 38 v2 rfl rfl) h2
  obtain ⟨Ww, hw⟩ := known_calls
  have hlaw := lawSpi_calls hw κ κ' κ2 m n z2.l.length L N z2.l hk hL hm hk' hN hn ok2 rfl m2
  have hat2 := crow_ints k2 at2
  refine (ACalls.onRows (rs := [⟨pcells L, z⟩, ⟨ncells N, z'⟩, ⟨ints .i64 z2.l, z2.x⟩]) hlaw (w := W) (fun r hr => ?_) (vs := [v0, v1, v2]) (.cons _ _ _ _ (hg _ 0 rfl) (.cons _ _ _ _ (hg' _ 1 rfl) (.cons _ _ _ _ (g2 _ 2 rfl) .nil)))).mono fun e W' ⟨v, v', ρ', H', he, hv, hr, hf⟩ => ?_
  · simp only [List.mem_cons, List.not_mem_nil, or_false] at hr
    rcases hr with rfl | rfl | rfl
    · exact hat
    · exact hat'
    · exact hat2
  subst he; subst hv
  have hv' := hr.bool_inv
  subst hv'
  exact ⟨_, rfl, law_post' (by kernel_rfl) (by kernel_rfl) Try.underlying4 rfl rfl rfl rfl hW' hf⟩

theorem proved : Rows.SiftSpiedSaid :=
  OpenClaim.holds_of_wide 7 Try.f7 rfl rfl rfl rfl rfl rfl rfl ⟨rfl, rfl, rfl, rfl, rfl⟩ rfl rfl rfl rfl rfl (by kernel_rfl) Try.func7 (by kernel_rfl)
    (of_decide_eq_true (by kernel_rfl)) (by unfold Func.isWrapper; first | (rw [if_pos (by decide +kernel)]; kernel_rfl) | (rw [if_neg (by decide +kernel)]; exact ⟨rfl, rfl⟩))
    (fun os started H enc _ => lifted os started H enc)
end Go.Proofs.Ythbhljolpnbdlaa.siftSpied

