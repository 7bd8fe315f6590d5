/- From a contract to a row: a field that is a slice of integers. -/
import Derived.Test.YtpkeneadkiabiaaDoorVY
set_option linter.unusedSimpArgs false
set_option linter.unusedVariables false
namespace Go.Vh
open Go Go.ChangeShapes Go.WideShapes Go.RowKit Go.ChangeAt Go.Deep

theorem twoL {α : Type} : ∀ {l : List α}, l.length = 2 → ∃ a b, l = [a, b]
  | [a, b], _ => ⟨a, b, rfl⟩
  | [], h | [_], h => by simp at h
  | _ :: _ :: _ :: _, h => by simp at h

section
variable {P : Program} {H : Type} {enc : TypeId × Value → H} {W : World}
theorem field_ints {t e : TypeId} {k : IntKind} {v : Value} {fuel : Nat} {x : DataW H × List MemPlace} (ht : P.underlying t = some (.slice e)) (he : P.underlying e = some (.int k)) (hc : P.cellsOf e = 1)
    (hf : DataW.trod enc P W 0 (fun _ => true) true fuel t [v] = some x) :
    ∃ (κ : SK) (r : IRow), r.k = k ∧ r.at W ∧ okS κ r.l.length ∧ r.l.length ≤ maxLen ∧ (∀ n ∈ r.l, (Lit.int k n).wf = true) ∧ ∀ (ρ : RMap) (i : Nat), ρ i = some r.x → VRel ρ (mkS κ i 0 r.l.length) v := by
  rcases open_ints ht he hc hf with ⟨hcs, _⟩ | ⟨a, len0, cap0, zs, hcs, _, hle, hmax, hz, _, hcell, hw⟩
  · simp only [List.cons.injEq, and_true] at hcs
    subst hcs
    exact ⟨.nil, ⟨k, [], ⟨0, 0, 1⟩⟩, rfl, ⟨by simp, fun i hi => by simp at hi⟩, rfl, by simp, fun n hn => by simp at hn, fun ρ i _ => .nilslice⟩
  · simp only [List.cons.injEq, and_true] at hcs
    subst hcs
    simp only [if_true] at hz
    refine ⟨.cap cap0, ⟨k, zs.take len0, ⟨a.block, a.off, 1⟩⟩, rfl, ⟨by simp, fun i hi => ?_⟩, ?_, ?_, fun n hn => hw n (List.mem_of_mem_take hn), fun ρ i hx => ?_⟩
    · simp only [List.length_take] at hi
      have h0 := hcell i (by omega)
      have hsp := hcell 0 (by omega)
      obtain ⟨b, off, spot⟩ := a
      have hspot : spot = none := by simpa [Addr.add] using World.cell?_spot hsp
      subst hspot
      rw [add_plain] at h0
      simp only
      rw [h0]
      simp [List.getD_eq_getElem?_getD, List.getElem?_take, show i < len0 by omega]
    · simp only [okS, List.length_take]; omega
    · simp only [List.length_take]; omega
    · have hl : (zs.take len0).length = len0 := by rw [List.length_take]; omega
      simp only [hl, mkS]
      rcases Nat.eq_zero_or_pos cap0 with h0 | h0
      · have : len0 = 0 := by omega
        subst this; subst h0
        exact .slice0 _ _ _
      · have hsp := hcell 0 (by omega)
        obtain ⟨b, off, spot⟩ := a
        have hspot : spot = none := by simpa [Addr.add] using World.cell?_spot hsp
        subst hspot
        have := VRel.slice (ρ := ρ) i 0 len0 cap0 _ hx hle
        simpa using this
end
end Go.Vh

