/- An empty row, added. -/
import Derived.Test.YtleicopofpompaaDoorVh24
set_option linter.unusedSimpArgs false
set_option linter.unusedVariables false
namespace Go.Vh
open Go

def empty : Option ARow := some ⟨true, false, []⟩
theorem empty_at {H : AHeap} {r : Nat} {row : ARow} (h : rowAt (H ++ [empty]) r = some row) : (r < H.length ∧ rowAt H r = some row) ∨ (r = H.length ∧ row = ⟨true, false, []⟩) := by
  rw [rowAt_some] at h
  rcases Nat.lt_or_ge r H.length with hr | hr
  · rw [List.getElem?_append_left hr] at h; exact .inl ⟨hr, rowAt_some.2 h⟩
  · rw [List.getElem?_append_right hr] at h
    obtain ⟨h1, h2⟩ := List.getElem?_eq_some_iff.1 h
    simp only [List.length_cons, List.length_nil] at h1
    have : r - H.length = 0 := by omega
    refine .inr ⟨by omega, ?_⟩
    simp only [this, List.getElem_cons_zero, empty] at h2
    cases h2; rfl

/-- A row that lies nowhere. -/
theorem Weak.pad {n0 : Nat} {s : St} {H : AHeap} : Weak n0 s H s (H ++ [empty]) := by
  intro w0 ex N R0 ρ a w hR rel
  have hs := rel.inv.sim
  have hd : ρ H.length = none := hs.dom _ (Nat.le_refl _)
  have hle : ρ.le (ρ.put H.length ⟨0, 0, 0⟩) := RMap.le_put hd
  have old : ∀ {r x}, r < H.length → (ρ.put H.length ⟨0, 0, 0⟩) r = some x → ρ r = some x := fun {r x} hr hx => by
    simp only [RMap.put] at hx
    rw [if_neg (by omega)] at hx
    exact hx
  have new : ∀ {x}, (ρ.put H.length ⟨0, 0, 0⟩) H.length = some x → x = ⟨0, 0, 0⟩ := fun {x} hx => by
    simp only [RMap.put, if_true, Option.some.injEq] at hx
    exact hx.symm
  refine ⟨ρ.put H.length ⟨0, 0, 0⟩, ⟨⟨fun r hr => ?_, fun r row hr => ?_, fun r row x hr hx k c hk => ?_, fun r row x hr ho hx => ?_, fun r1 r2 a b x y h1 h2 h3 h4 h5 hx hy nx ny => ?_, fun r row x hr hx hne => ?_⟩, rel.inv.frm⟩, fun t => (rel.tmps t).mono hle, rel.size, rel.defers, RMap.le_trans rel.base hle⟩
  · simp only [List.length_append, List.length_cons, List.length_nil] at hr
    simp only [RMap.put]
    rw [if_neg (by omega)]
    exact hs.dom r (by omega)
  · rcases empty_at hr with ⟨hl, h1⟩ | ⟨rfl, _⟩
    · obtain ⟨x, hx⟩ := hs.has r row h1
      exact ⟨x, hle _ _ hx⟩
    · exact ⟨⟨0, 0, 0⟩, by simp [RMap.put]⟩
  · rcases empty_at hr with ⟨hl, h1⟩ | ⟨rfl, rfl⟩
    · obtain ⟨j1, v, j2, j3⟩ := hs.cells r row x h1 (old hl hx) k c hk
      exact ⟨j1, v, j2, j3.mono hle⟩
    · simp at hk
  · rcases empty_at hr with ⟨hl, h1⟩ | ⟨rfl, rfl⟩
    · exact hs.own r row x h1 ho (old hl hx)
    · have := new hx; subst this
      exact ⟨by simp, by simp, fun h => (h rfl).elim⟩
  · rcases empty_at h1 with ⟨l1, k1⟩ | ⟨rfl, rfl⟩
    · rcases empty_at h2 with ⟨l2, k2⟩ | ⟨rfl, rfl⟩
      · exact hs.dist r1 r2 a b x y k1 k2 h3 h4 h5 (old l1 hx) (old l2 hy) nx ny
      · have := new hy; subst this
        exact (ny rfl).elim
    · have := new hx; subst this
      exact (nx rfl).elim
  · rcases empty_at hr with ⟨hl, h1⟩ | ⟨rfl, rfl⟩
    · exact hs.room r row x h1 (old hl hx) hne
    · exact (hne rfl).elim

theorem Weak.trans {n0 : Nat} {s s' s'' : St} {H H' H'' : AHeap} (h : Weak n0 s H s' H') (h' : Weak n0 s' H' s'' H'') : Weak n0 s H s'' H'' := fun w0 ex N R0 ρ a w hR rel =>
  let ⟨ρ', r'⟩ := h w0 ex N R0 ρ a w hR rel
  h' w0 ex N R0 ρ' a w hR r'
end Go.Vh
