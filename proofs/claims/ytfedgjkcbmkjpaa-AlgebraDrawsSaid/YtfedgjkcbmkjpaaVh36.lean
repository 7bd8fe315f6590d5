/- From a contract to a row: an argument that is a slice of structs of three integers. -/
import Derived.Test.YtfedgjkcbmkjpaaVh34
import Derived.Test.YtfedgjkcbmkjpaaVY
set_option linter.unusedSimpArgs false
set_option linter.unusedVariables false
namespace Go.Vh
open Go Go.ChangeShapes Go.WideShapes Go.RowKit Go.ChangeAt Go.Deep

section
variable {P : Program} {H : Type} {enc : TypeId × Value → H} {W : World}

/-- A struct of three integers, cell by cell. -/
theorem three_cells {e : TypeId} {fs : Array Field} (he : P.underlying e = some (.struct fs)) (hfs : fs.size = 3)
    (hfield : ∀ i, i < 3 → ∃ f : Field, fs[i]? = some f ∧ f.offset = i ∧ P.underlying f.type = some (.int .i64) ∧ P.cellsOf f.type = 1)
    {fuel : Nat} {cs : List Value} {y : DataW H × List MemPlace} (h : DataW.trod enc P W 0 (fun _ => true) true fuel e cs = some y) (j : Nat) (hj : j < 3) :
    ∃ z : Int, cs[j]? = some (.int .i64 z) ∧ (Lit.int .i64 z).wf = true := by
  obtain ⟨xs, n, _, _, _, hxs, hfld⟩ := DataW.trod_struct he h
  obtain ⟨f, hf, ho, hu, hc⟩ := hfield j hj
  have h1 := hfld j f hf
  have hlt : j < xs.length := by omega
  rw [List.getElem?_eq_getElem hlt, ho, hc] at h1
  obtain ⟨z, hz, _, hw⟩ := DataW.trod_int hu h1
  refine ⟨z, ?_, hw⟩
  have := congrArg (fun l : List Value => l[0]?) hz
  simpa using this

/-- An argument that is a slice of structs of three integers. -/
theorem open_row_threes {t e : TypeId} {fs : Array Field} {v : Value} {d : DataW H} {ps : List MemPlace} {base : Nat} {r0 : Reach} (ht : P.underlying t = some (.slice e)) (he : P.underlying e = some (.struct fs)) (hc : P.cellsOf e = 3) (hfs : fs.size = 3)
    (hfield : ∀ i, i < 3 → ∃ f : Field, fs[i]? = some f ∧ f.offset = i ∧ P.underlying f.type = some (.int .i64) ∧ P.cellsOf f.type = 1)
    (hval : Value.okWide P W r0 base t v) (h : DataW.Trod enc P W 0 (fun _ => true) true t v d ps) :
    ∃ (κ : SK) (n : Nat) (l : List Int) (x : Loc), l.length = n * 3 ∧ (∀ i, i < n * 3 → -9223372036854775808 ≤ l.getD i 0 ∧ l.getD i 0 ≤ 9223372036854775807) ∧ CRow.at ⟨ints .i64 l, x⟩ W ∧ okS κ n ∧ n ≤ maxLen ∧ ∀ (ρ : RMap) (i : Nat), ρ i = some x → VRel ρ (mkS κ i 0 n) v := by
  obtain ⟨a0, len0, cap0, rfl⟩ := okWide_slice ht hval
  obtain ⟨fuel, hf⟩ := h
  rcases DataW.trod_slice ht hf with ⟨hcs, _⟩ | ⟨a, len, cap, elems, rest, m, _, hcs, _, _, hle, hmax, hlen, hel, hsp, _⟩
  · simp [Value.cells] at hcs
    obtain ⟨rfl, rfl, rfl⟩ := hcs
    exact ⟨.nil, 0, [], ⟨0, 0, 1⟩, rfl, fun i hi => by omega, ⟨by simp, fun i c hi => by simp [ints] at hi⟩, rfl, Nat.zero_le _, fun ρ i _ => .nilslice⟩
  · simp [Value.cells] at hcs
    obtain ⟨rfl, rfl, rfl⟩ := hcs
    obtain ⟨hrl, hrest⟩ := hsp rfl
    have each : ∀ i, i < cap0 → ∀ j, j < 3 → ∃ z : Int, W.cell? ((a.add (i * 3)).add j) = some (.int .i64 z) ∧ (Lit.int .i64 z).wf = true := by
      intro i hi j hj
      have hb : ∃ y, (W.cells? 0 (a.add (i * 3)) 3).bind (DataW.trod enc P W 0 (fun _ => true) true m e) = some y := by
        by_cases hlt : i < len0
        · have := hel i hlt
          rw [hc] at this
          exact ⟨_, this.trans (List.getElem?_eq_getElem (by omega))⟩
        · have := hrest (i - len0) (by omega)
          rw [hc, show len0 + (i - len0) = i by omega] at this
          exact ⟨_, this.trans (List.getElem?_eq_getElem (by omega))⟩
      obtain ⟨y, hb⟩ := hb
      rw [Option.bind_eq_some_iff] at hb
      obtain ⟨cs', h1, h2⟩ := hb
      obtain ⟨z, hz, hw⟩ := three_cells he hfs hfield h2 j hj
      exact ⟨z, by rw [(World.cells?_some h1).2.2 j hj, hz], hw⟩
    rcases Nat.eq_zero_or_pos cap0 with h0 | h0
    · have : len0 = 0 := by omega
      subst this; subst h0
      exact ⟨.cap 0, 0, [], ⟨0, 0, 1⟩, rfl, fun i hi => by omega, ⟨by simp, fun i c hi => by simp [ints] at hi⟩, Nat.le_refl _, Nat.zero_le _, fun ρ i _ => .slice0 _ _ _⟩
    · obtain ⟨b, off, spot⟩ := a
      obtain ⟨z0, hz0, _⟩ := each 0 h0 0 (by omega)
      have hspot : spot = none := by simpa [Addr.add] using World.cell?_spot hz0
      subst hspot
      have each' : ∀ i, i < len0 * 3 → ∃ z : Int, W.cell? ⟨b, off + i, none⟩ = some (.int .i64 z) ∧ (Lit.int .i64 z).wf = true := by
        intro i hi
        obtain ⟨z, h1, h2⟩ := each (i / 3) (by omega) (i % 3) (by omega)
        rw [add_plain, add_plain, show off + i / 3 * 3 + i % 3 = off + i by omega] at h1
        exact ⟨z, h1, h2⟩
      let g : Nat → Int := fun i => match W.cell? ⟨b, off + i, none⟩ with | some (.int _ z) => z | _ => 0
      have hg : ∀ i, i < len0 * 3 → W.cell? ⟨b, off + i, none⟩ = some (.int .i64 (g i)) ∧ (Lit.int .i64 (g i)).wf = true := by
        intro i hi
        obtain ⟨z, h1, h2⟩ := each' i hi
        have : g i = z := by simp only [g, h1]
        rw [this]; exact ⟨h1, h2⟩
      have hget : ∀ i, i < len0 * 3 → ((List.range (len0 * 3)).map g).getD i 0 = g i := fun i hi => by simp [hi]
      refine ⟨.cap cap0, len0, (List.range (len0 * 3)).map g, ⟨b, off, 1⟩, by simp, fun i hi => ?_, ⟨by simp, fun i c hi => ?_⟩, hle, by omega, fun ρ i hx => ?_⟩
      · rw [hget i hi]
        have := (hg i hi).2
        simp only [Lit.wf, Bool.and_eq_true, decide_eq_true_eq] at this
        exact this
      · have hlt : i < len0 * 3 := by
          rcases Nat.lt_or_ge i (len0 * 3) with h | h
          · exact h
          · simp only at hi
            rw [List.getElem?_eq_none (by simp [ints_length]; exact h)] at hi; cases hi
        simp only at hi
        rw [ints_get (by simp; exact hlt), hget i hlt] at hi
        cases hi
        exact ⟨rfl, _, (hg i hlt).1, fun _ => .int _ _⟩
      · simp only [mkS]
        have := VRel.slice (ρ := ρ) i 0 len0 cap0 _ hx hle
        simpa using this
end
end Go.Vh
