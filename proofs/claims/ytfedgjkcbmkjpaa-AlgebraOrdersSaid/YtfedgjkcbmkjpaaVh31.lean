/- From a contract to a row: arguments that are slices, of bools among them. -/
import Derived.Test.YtfedgjkcbmkjpaaVh30
namespace Go.Vh
open Go Go.ChangeShapes Go.WideShapes Go.RowKit Go.ChangeAt Go.Deep

/-- Rows that are only read, with where they lie. -/
structure CRow where
  cs : List AV
  x : Loc

def crows (rs : List CRow) : AHeap := rs.map fun r => ro r.cs
def clocs (rs : List CRow) : RMap := fun i => (rs[i]?).map (·.x)
def CRow.at (r : CRow) (w : World) : Prop := r.x.n ≠ 0 ∧ ∀ i c, r.cs[i]? = some c → c.cell = true ∧ ∃ v, w.cell? ⟨r.x.b, r.x.d + i, none⟩ = some v ∧ ∀ ρ, VRel ρ c v

theorem crows_at {rs : List CRow} {i : Nat} {row : ARow} (h : Vh.rowAt (crows rs) i = some row) : ∃ r, rs[i]? = some r ∧ row = ⟨false, false, r.cs⟩ := by
  rw [rowAt_some, crows, List.getElem?_map, Option.map_eq_some_iff] at h
  obtain ⟨r, h1, h2⟩ := h
  exact ⟨r, h1, by cases h2; rfl⟩

theorem Sim.crows {rs : List CRow} {w : World} {B : Nat} {ex : Nat → Prop} (h : ∀ r ∈ rs, r.at w) : Sim B ex (clocs rs) (Go.Vh.crows rs) w := by
  refine ⟨fun i hi => ?_, fun i row hi => ?_, fun i row x hi hx j c hc => ?_, fun i row x hi ho => ?_, fun i j a b x y hi _ ho => ?_, fun i row x hi hx hne => ?_⟩
  · simp only [Go.Vh.crows, List.length_map] at hi
    simp [clocs, List.getElem?_eq_none hi]
  · obtain ⟨r, h1, rfl⟩ := crows_at hi
    exact ⟨r.x, by simp [clocs, h1]⟩
  · obtain ⟨r, h1, rfl⟩ := crows_at hi
    have hx' : r.x = x := by simpa [clocs, h1] using hx
    subst hx'
    obtain ⟨_, h3⟩ := h r (List.mem_of_getElem? h1)
    obtain ⟨k1, v, k2, k3⟩ := h3 j c hc
    exact ⟨k1, v, k2, k3 _⟩
  · obtain ⟨r, h1, rfl⟩ := crows_at hi
    cases ho
  · obtain ⟨r, h1, rfl⟩ := crows_at hi
    cases ho
  · obtain ⟨r, h1, rfl⟩ := crows_at hi
    have hx' : r.x = x := by simpa [clocs, h1] using hx
    subst hx'
    exact (h r (List.mem_of_getElem? h1)).1

/-- A call whose arguments reach rows that are only read. -/
theorem ACalls.onRows {P : Program} {f : FuncId} {args : List AV} {rs : List CRow} {W : List Nat} {R : AV → AHeap → Prop} (h : ACalls P f args (crows rs) W R) {w : World} (hrs : ∀ r ∈ rs, r.at w) {vs : List Value} (hv : VRelL (clocs rs) args vs) :
    Calls P f vs.toArray w fun e w' => ∃ v v' ρ' H', e = .returned v' ∧ R v H' ∧ VRel ρ' v v' ∧ Frm w.heap.size (fun _ => False) w w' := by
  refine (h.calls _ w vs (Sim.crows hrs) hv fun _ => .any _).mono fun e w' ⟨v, v', ρ', H', h1, h2, _, h4, _, h6, _⟩ => ⟨v, v', ρ', H', h1, h2, h4, ⟨h6.os, h6.tape, h6.output, h6.size, fun k hk _ => h6.block k hk fun ⟨r, row, x, _, q, ho, _⟩ => ?_⟩⟩
  obtain ⟨_, _, rfl⟩ := crows_at q
  cases ho

section
variable {P : Program} {H : Type} {enc : TypeId × Value → H} {W : World}

/-- An argument that is a slice of bools. -/
theorem open_row_bools {t e : TypeId} {v : Value} {d : DataW H} {ps : List MemPlace} {base : Nat} {r0 : Reach} (ht : P.underlying t = some (.slice e)) (he : P.underlying e = some .bool) (hc : P.cellsOf e = 1)
    (hval : Value.okWide P W r0 base t v) (h : DataW.Trod enc P W 0 (fun _ => true) true t v d ps) :
    ∃ (κ : SK) (n : Nat) (f : Nat → Bool) (x : Loc), CRow.at ⟨bt n f, x⟩ W ∧ okS κ n ∧ n ≤ maxLen ∧ ∀ (ρ : RMap) (i : Nat), ρ i = some x → VRel ρ (mkS κ i 0 n) v := by
  obtain ⟨a0, len0, cap0, rfl⟩ := okWide_slice ht hval
  obtain ⟨fuel, hf⟩ := h
  rcases open_bools ht he hc hf with ⟨hcs, _⟩ | ⟨a, len, cap, B, hcs, _, hle, hmax, _, hcell⟩
  · simp [Value.cells] at hcs
    obtain ⟨rfl, rfl, rfl⟩ := hcs
    exact ⟨.nil, 0, fun _ => false, ⟨0, 0, 1⟩, ⟨by simp, fun i c hi => by simp [bt] at hi⟩, rfl, Nat.zero_le _, fun ρ i _ => .nilslice⟩
  · simp [Value.cells] at hcs
    obtain ⟨rfl, rfl, rfl⟩ := hcs
    refine ⟨.cap cap0, len0, B, ⟨a.block, a.off, 1⟩, ⟨by simp, fun i c hi => ?_⟩, hle, by omega, fun ρ i hx => ?_⟩
    · have hlt : i < len0 := by
        rcases Nat.lt_or_ge i len0 with h | h
        · exact h
        · simp only at hi
          rw [List.getElem?_eq_none (by rw [bt_length]; exact h)] at hi; cases hi
      simp only at hi
      rw [bt_get hlt] at hi
      cases hi
      have h0 := hcell i (by omega)
      have hsp := hcell 0 (by omega)
      obtain ⟨b, off, spot⟩ := a
      have hspot : spot = none := by simpa [Addr.add] using World.cell?_spot hsp
      subst hspot
      rw [add_plain] at h0
      exact ⟨rfl, _, h0, fun _ => .bool _⟩
    · simp only [mkS]
      rcases Nat.eq_zero_or_pos cap0 with h0 | h0
      · have : len0 = 0 := by omega
        subst this; subst h0
        exact .slice0 _ _ _
      · have hsp := hcell 0 (by omega)
        obtain ⟨b, off, spot⟩ := a
        have hspot : spot = none := by simpa [Addr.add] using World.cell?_spot hsp
        subst hspot
        have := VRel.slice (ρ := ρ) i 0 len0 cap0 _ hx hle
        simpa using this
end
end Go.Vh
