/- From a contract to a row: an argument that is a struct. -/
import Derived.Test.YtebijlefkomplabVh34
import Derived.Test.YtebijlefkomplabVh31
namespace Go.Vh
open Go Go.ChangeShapes Go.WideShapes Go.RowKit Go.ChangeAt Go.Deep

theorem six {α : Type} : ∀ {l : List α}, l.length = 6 → ∃ a b c d e f, l = [a, b, c, d, e, f]
  | [a, b, c, d, e, f], _ => ⟨a, b, c, d, e, f, rfl⟩
  | [], h | [_], h | [_, _], h | [_, _, _], h | [_, _, _, _], h | [_, _, _, _, _], h => by simp at h
  | _ :: _ :: _ :: _ :: _ :: _ :: _ :: _, h => by simp at h

section
variable {P : Program} {H : Type} {enc : TypeId × Value → H} {W : World}

/-- A field that is a slice of bools. -/
theorem field_bools {t e : TypeId} {v : Value} {fuel : Nat} {x : DataW H × List MemPlace} (ht : P.underlying t = some (.slice e)) (he : P.underlying e = some .bool) (hc : P.cellsOf e = 1)
    (hf : DataW.trod enc P W 0 (fun _ => true) true fuel t [v] = some x) :
    ∃ (κ : SK) (n : Nat) (f : Nat → Bool) (x : Loc), CRow.at ⟨bt n f, x⟩ W ∧ okS κ n ∧ n ≤ maxLen ∧ ∀ (ρ : RMap) (i : Nat), ρ i = some x → VRel ρ (mkS κ i 0 n) v := by
  rcases open_bools ht he hc hf with ⟨hcs, _⟩ | ⟨a, len0, cap0, B, hcs, _, hle, hmax, _, hcell⟩
  · simp only [List.cons.injEq, and_true] at hcs
    subst hcs
    exact ⟨.nil, 0, fun _ => false, ⟨0, 0, 1⟩, ⟨by simp, fun i c hi => by simp [bt] at hi⟩, rfl, Nat.zero_le _, fun ρ i _ => .nilslice⟩
  · simp only [List.cons.injEq, and_true] at hcs
    subst hcs
    refine ⟨.cap cap0, len0, B, ⟨a.block, a.off, 1⟩, ⟨by simp, fun i c hi => ?_⟩, hle, by omega, fun ρ i hx => ?_⟩
    · have hlt : i < len0 := by
        rcases Nat.lt_or_ge i len0 with h | h
        · exact h
        · simp only at hi
          rw [List.getElem?_eq_none (by rw [bt_length]; exact h)] at hi; cases hi
      simp only at hi
      rw [bt_get hlt] at hi
      cases hi
      have h0 := hcell i (by omega)
      have hsp := hcell 0 (by omega)
      obtain ⟨b, off, spot⟩ := a
      have hspot : spot = none := by simpa [Addr.add] using World.cell?_spot hsp
      subst hspot
      rw [add_plain] at h0
      exact ⟨rfl, _, h0, fun _ => .bool _⟩
    · simp only [mkS]
      rcases Nat.eq_zero_or_pos cap0 with h0 | h0
      · have : len0 = 0 := by omega
        subst this; subst h0
        exact .slice0 _ _ _
      · have hsp := hcell 0 (by omega)
        obtain ⟨b, off, spot⟩ := a
        have hspot : spot = none := by simpa [Addr.add] using World.cell?_spot hsp
        subst hspot
        have := VRel.slice (ρ := ρ) i 0 len0 cap0 _ hx hle
        simpa using this

/-- A field that is a slice of bytes. -/
theorem field_bytes {t e : TypeId} {v : Value} {fuel : Nat} {x : DataW H × List MemPlace} (ht : P.underlying t = some (.slice e)) (he : P.underlying e = some (.int .u8)) (hc : P.cellsOf e = 1)
    (hf : DataW.trod enc P W 0 (fun _ => true) true fuel t [v] = some x) :
    ∃ (κ : SK) (n : Nat) (q : Nat → Nat) (x : Loc), CRow.at ⟨ut n q, x⟩ W ∧ okS κ n ∧ n ≤ maxLen ∧ (∀ i, i < n → q i < 256) ∧ ∀ (ρ : RMap) (i : Nat), ρ i = some x → VRel ρ (mkS κ i 0 n) v := by
  rcases open_ints ht he hc hf with ⟨hcs, _⟩ | ⟨a, len0, cap0, zs, hcs, _, hle, hmax, hz, _, hcell, hw⟩
  · simp only [List.cons.injEq, and_true] at hcs
    subst hcs
    exact ⟨.nil, 0, fun _ => 0, ⟨0, 0, 1⟩, ⟨by simp, fun i c hi => by simp [ut] at hi⟩, rfl, Nat.zero_le _, fun i hi => by omega, fun ρ i _ => .nilslice⟩
  · simp only [List.cons.injEq, and_true] at hcs
    subst hcs
    simp only [if_true] at hz
    have hwf : ∀ i, i < cap0 → 0 ≤ zs.getD i 0 ∧ zs.getD i 0 ≤ 255 := fun i hi => by
      have hm : zs.getD i 0 ∈ zs := by
        rw [List.getD_eq_getElem?_getD, List.getElem?_eq_getElem (by omega), Option.getD_some]
        exact List.getElem_mem _
      have := hw _ hm
      simp only [Lit.wf, Bool.and_eq_true, decide_eq_true_eq] at this
      exact this
    refine ⟨.cap cap0, len0, fun i => (zs.getD i 0).toNat, ⟨a.block, a.off, 1⟩, ⟨by simp, fun i c hi => ?_⟩, hle, by omega, fun i hi => ?_, fun ρ i hx => ?_⟩
    · have hlt : i < len0 := by
        rcases Nat.lt_or_ge i len0 with h | h
        · exact h
        · simp only at hi
          rw [List.getElem?_eq_none (by rw [ut_length]; exact h)] at hi; cases hi
      simp only at hi
      rw [ut_get hlt] at hi
      cases hi
      have h0 := hcell i (by omega)
      have hsp := hcell 0 (by omega)
      obtain ⟨b, off, spot⟩ := a
      have hspot : spot = none := by simpa [Addr.add] using World.cell?_spot hsp
      subst hspot
      rw [add_plain] at h0
      have := hwf i (by omega)
      refine ⟨rfl, _, h0, fun _ => ?_⟩
      rw [Int.toNat_of_nonneg this.1]
      exact .int _ _
    · have := hwf i (by omega)
      simp only
      omega
    · simp only [mkS]
      rcases Nat.eq_zero_or_pos cap0 with h0 | h0
      · have : len0 = 0 := by omega
        subst this; subst h0
        exact .slice0 _ _ _
      · have hsp := hcell 0 (by omega)
        obtain ⟨b, off, spot⟩ := a
        have hspot : spot = none := by simpa [Addr.add] using World.cell?_spot hsp
        subst hspot
        have := VRel.slice (ρ := ρ) i 0 len0 cap0 _ hx hle
        simpa using this
end
end Go.Vh
