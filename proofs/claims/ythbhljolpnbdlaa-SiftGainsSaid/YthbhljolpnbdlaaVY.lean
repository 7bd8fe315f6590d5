/- From a contract to a row: arguments that are slices, of bools among them. -/
import Derived.Test.YthbhljolpnbdlaaVX
set_option linter.unusedSimpArgs false
set_option linter.unusedVariables false
namespace Go.Vh
open Go Go.ChangeShapes Go.WideShapes Go.RowKit Go.ChangeAt Go.Deep

/-- Rows that are only read, with where they lie. -/
structure CRow where
  cs : List AV
  x : Loc

def crows (rs : List CRow) : AHeap := rs.map fun r => ro r.cs
def clocs (rs : List CRow) : RMap := fun i => (rs[i]?).map (·.x)
def CRow.at (r : CRow) (w : World) : Prop := r.x.n ≠ 0 ∧ ∀ i c, r.cs[i]? = some c → c.cell = true ∧ ∃ v, w.cell? ⟨r.x.b, r.x.d + i, none⟩ = some v ∧ ∀ ρ, VRel ρ c v

theorem crows_at {rs : List CRow} {i : Nat} {row : ARow} (h : Vh.rowAt (crows rs) i = some row) : ∃ r, rs[i]? = some r ∧ row = ⟨false, false, r.cs⟩ := by
  rw [rowAt_some, crows, List.getElem?_map, Option.map_eq_some_iff] at h
  obtain ⟨r, h1, h2⟩ := h
  exact ⟨r, h1, by cases h2; rfl⟩

theorem Sim.crows {rs : List CRow} {w : World} {B : Nat} {ex : Nat → Prop} (h : ∀ r ∈ rs, r.at w) : Sim B ex (clocs rs) (Go.Vh.crows rs) w := by
  refine ⟨fun i hi => ?_, fun i row hi => ?_, fun i row x hi hx j c hc => ?_, fun i row x hi ho => ?_, fun i j a b x y hi _ ho => ?_, fun i row x hi hx hne => ?_⟩
  · simp only [Go.Vh.crows, List.length_map] at hi
    simp [clocs, List.getElem?_eq_none hi]
  · obtain ⟨r, h1, rfl⟩ := crows_at hi
    exact ⟨r.x, by simp [clocs, h1]⟩
  · obtain ⟨r, h1, rfl⟩ := crows_at hi
    have hx' : r.x = x := by simpa [clocs, h1] using hx
    subst hx'
    obtain ⟨_, h3⟩ := h r (List.mem_of_getElem? h1)
    obtain ⟨k1, v, k2, k3⟩ := h3 j c hc
    exact ⟨k1, v, k2, k3 _⟩
  · obtain ⟨r, h1, rfl⟩ := crows_at hi
    cases ho
  · obtain ⟨r, h1, rfl⟩ := crows_at hi
    cases ho
  · obtain ⟨r, h1, rfl⟩ := crows_at hi
    have hx' : r.x = x := by simpa [clocs, h1] using hx
    subst hx'
    exact (h r (List.mem_of_getElem? h1)).1

/-- A call whose arguments reach rows that are only read. -/
theorem ACalls.onRows {P : Program} {f : FuncId} {args : List AV} {rs : List CRow} {W : List Nat} {R : AV → AHeap → Prop} (h : ACalls P f args (crows rs) W R) {w : World} (hrs : ∀ r ∈ rs, r.at w) {vs : List Value} (hv : VRelL (clocs rs) args vs) :
    Calls P f vs.toArray w fun e w' => ∃ v v' ρ' H', e = .returned v' ∧ R v H' ∧ VRel ρ' v v' ∧ Frm w.heap.size (fun _ => False) w w' := by
  refine (h.calls _ w vs (Sim.crows hrs) hv fun _ => .any _).mono fun e w' ⟨v, v', ρ', H', h1, h2, _, h4, _, h6, _⟩ => ⟨v, v', ρ', H', h1, h2, h4, ⟨h6.os, h6.tape, h6.output, h6.size, fun k hk _ => h6.block k hk fun ⟨r, row, x, _, q, ho, _⟩ => ?_⟩⟩
  obtain ⟨_, _, rfl⟩ := crows_at q
  cases ho

section
variable {P : Program} {H : Type} {enc : TypeId × Value → H} {W : World}

end
end Go.Vh


/- Rows of numbers by index; lists of bools; answers that are appended to; flat rows read by a callee. -/
namespace Go.Vh
open Go

/-- n numbers. -/
def nt (n : Nat) (q : Nat → Int) : List AV := (List.range n).map fun i => AV.int .i64 (q i)
section
variable {P : Program} {f : FuncId} {W0 : List Nat} {K : St → AHeap → Prop} {d : Option Nat} {s : St} {H : AHeap} {args caps rest : List AV} {κ κ' : SK} {n n' : Nat} {a b da db : Nat} {ra rb : ARow} {cs cs' : List AV}

end
end Go.Vh


/- Numbers that are appended; rows of a heap by what is known of them; calls whose answers are new; all orders of a region. -/
namespace Go.Vh
open Go
section
variable {s : St} {H : AHeap}
end

section
variable {s : St} {H H0 : AHeap}
end
section
variable {P : Program} {f : FuncId} {W0 : List Nat} {K : St → AHeap → Prop} {d : Option Nat} {s : St} {H : AHeap} {args caps args0 : List AV}
end

theorem row_set0 {H : AHeap} {r : Nat} {x : Option ARow} (h : r < H.length) : Vh.rowAt (H.set r x) r = x := by
  simp [Vh.rowAt, h]
theorem row_other0 {H : AHeap} {r i : Nat} {x : Option ARow} (hn : r ≠ i) : Vh.rowAt (H.set r x) i = Vh.rowAt H i := by
  simp [Vh.rowAt, List.getElem?_set_ne hn]
theorem row_new {H : AHeap} {x y : Option ARow} {r : Nat} : Vh.rowAt (H.set r y ++ [x]) H.length = x := by
  simp [Vh.rowAt]
end Go.Vh


/- From a contract to a row: a field that is a slice of integers. -/
namespace Go.Vh
open Go Go.ChangeShapes Go.WideShapes Go.RowKit Go.ChangeAt Go.Deep

section
variable {P : Program} {H : Type} {enc : TypeId × Value → H} {W : World}
theorem field_ints {t e : TypeId} {k : IntKind} {v : Value} {fuel : Nat} {x : DataW H × List MemPlace} (ht : P.underlying t = some (.slice e)) (he : P.underlying e = some (.int k)) (hc : P.cellsOf e = 1)
    (hf : DataW.trod enc P W 0 (fun _ => true) true fuel t [v] = some x) :
    ∃ (κ : SK) (r : IRow), r.k = k ∧ r.at W ∧ okS κ r.l.length ∧ r.l.length ≤ maxLen ∧ (∀ n ∈ r.l, (Lit.int k n).wf = true) ∧ ∀ (ρ : RMap) (i : Nat), ρ i = some r.x → VRel ρ (mkS κ i 0 r.l.length) v := by
  rcases open_ints ht he hc hf with ⟨hcs, _⟩ | ⟨a, len0, cap0, zs, hcs, _, hle, hmax, hz, _, hcell, hw⟩
  · simp only [List.cons.injEq, and_true] at hcs
    subst hcs
    exact ⟨.nil, ⟨k, [], ⟨0, 0, 1⟩⟩, rfl, ⟨by simp, fun i hi => by simp at hi⟩, rfl, by simp, fun n hn => by simp at hn, fun ρ i _ => .nilslice⟩
  · simp only [List.cons.injEq, and_true] at hcs
    subst hcs
    simp only [if_true] at hz
    refine ⟨.cap cap0, ⟨k, zs.take len0, ⟨a.block, a.off, 1⟩⟩, rfl, ⟨by simp, fun i hi => ?_⟩, ?_, ?_, fun n hn => hw n (List.mem_of_mem_take hn), fun ρ i hx => ?_⟩
    · simp only [List.length_take] at hi
      have h0 := hcell i (by omega)
      have hsp := hcell 0 (by omega)
      obtain ⟨b, off, spot⟩ := a
      have hspot : spot = none := by simpa [Addr.add] using World.cell?_spot hsp
      subst hspot
      rw [add_plain] at h0
      simp only
      rw [h0]
      simp [List.getD_eq_getElem?_getD, List.getElem?_take, show i < len0 by omega]
    · simp only [okS, List.length_take]; omega
    · simp only [List.length_take]; omega
    · have hl : (zs.take len0).length = len0 := by rw [List.length_take]; omega
      simp only [hl, mkS]
      rcases Nat.eq_zero_or_pos cap0 with h0 | h0
      · have : len0 = 0 := by omega
        subst this; subst h0
        exact .slice0 _ _ _
      · have hsp := hcell 0 (by omega)
        obtain ⟨b, off, spot⟩ := a
        have hspot : spot = none := by simpa [Addr.add] using World.cell?_spot hsp
        subst hspot
        have := VRel.slice (ρ := ρ) i 0 len0 cap0 _ hx hle
        simpa using this
end
end Go.Vh


/- From a contract to a row: an argument that is a struct. -/
namespace Go.Vh
open Go Go.ChangeShapes Go.WideShapes Go.RowKit Go.ChangeAt Go.Deep

section
variable {P : Program} {H : Type} {enc : TypeId × Value → H} {W : World}

/-- A field that is a slice of bools. -/
theorem field_bools {t e : TypeId} {v : Value} {fuel : Nat} {x : DataW H × List MemPlace} (ht : P.underlying t = some (.slice e)) (he : P.underlying e = some .bool) (hc : P.cellsOf e = 1)
    (hf : DataW.trod enc P W 0 (fun _ => true) true fuel t [v] = some x) :
    ∃ (κ : SK) (n : Nat) (f : Nat → Bool) (x : Loc), CRow.at ⟨bt n f, x⟩ W ∧ okS κ n ∧ n ≤ maxLen ∧ ∀ (ρ : RMap) (i : Nat), ρ i = some x → VRel ρ (mkS κ i 0 n) v := by
  rcases open_bools ht he hc hf with ⟨hcs, _⟩ | ⟨a, len0, cap0, B, hcs, _, hle, hmax, _, hcell⟩
  · simp only [List.cons.injEq, and_true] at hcs
    subst hcs
    exact ⟨.nil, 0, fun _ => false, ⟨0, 0, 1⟩, ⟨by simp, fun i c hi => by simp [bt] at hi⟩, rfl, Nat.zero_le _, fun ρ i _ => .nilslice⟩
  · simp only [List.cons.injEq, and_true] at hcs
    subst hcs
    refine ⟨.cap cap0, len0, B, ⟨a.block, a.off, 1⟩, ⟨by simp, fun i c hi => ?_⟩, hle, by omega, fun ρ i hx => ?_⟩
    · have hlt : i < len0 := by
        rcases Nat.lt_or_ge i len0 with h | h
        · exact h
        · simp only at hi
          rw [List.getElem?_eq_none (by rw [bt_length]; exact h)] at hi; cases hi
      simp only at hi
      rw [bt_get hlt] at hi
      cases hi
      have h0 := hcell i (by omega)
      have hsp := hcell 0 (by omega)
      obtain ⟨b, off, spot⟩ := a
      have hspot : spot = none := by simpa [Addr.add] using World.cell?_spot hsp
      subst hspot
      rw [add_plain] at h0
      exact ⟨rfl, _, h0, fun _ => .bool _⟩
    · simp only [mkS]
      rcases Nat.eq_zero_or_pos cap0 with h0 | h0
      · have : len0 = 0 := by omega
        subst this; subst h0
        exact .slice0 _ _ _
      · have hsp := hcell 0 (by omega)
        obtain ⟨b, off, spot⟩ := a
        have hspot : spot = none := by simpa [Addr.add] using World.cell?_spot hsp
        subst hspot
        have := VRel.slice (ρ := ρ) i 0 len0 cap0 _ hx hle
        simpa using this

end
end Go.Vh


/- From a contract to a row: an argument that is a slice of structs of an integer, a truth, two integers and a truth. -/
namespace Go.Vh
open Go Go.ChangeShapes Go.WideShapes Go.RowKit Go.ChangeAt Go.Deep

section
variable {P : Program} {H : Type} {enc : TypeId × Value → H} {W : World}

theorem cell_int {e : TypeId} {fs : Array Field} (he : P.underlying e = some (.struct fs)) {j : Nat} {f : Field} (hf : fs[j]? = some f) (ho : f.offset = j) (hu : P.underlying f.type = some (.int .i64)) (hc : P.cellsOf f.type = 1)
    {fuel : Nat} {cs : List Value} {y : DataW H × List MemPlace} (h : DataW.trod enc P W 0 (fun _ => true) true fuel e cs = some y) :
    ∃ z : Int, cs[j]? = some (.int .i64 z) ∧ (Lit.int .i64 z).wf = true := by
  obtain ⟨xs, n, _, _, _, hxs, hfld⟩ := DataW.trod_struct he h
  have h1 := hfld j f hf
  have hlt : j < xs.length := by
    have := (Array.getElem?_eq_some_iff.1 hf).1
    omega
  rw [List.getElem?_eq_getElem hlt, ho, hc] at h1
  obtain ⟨z, hz, _, hw⟩ := DataW.trod_int hu h1
  refine ⟨z, ?_, hw⟩
  have := congrArg (fun l : List Value => l[0]?) hz
  simpa using this
theorem cell_bool {e : TypeId} {fs : Array Field} (he : P.underlying e = some (.struct fs)) {j : Nat} {f : Field} (hf : fs[j]? = some f) (ho : f.offset = j) (hu : P.underlying f.type = some .bool) (hc : P.cellsOf f.type = 1)
    {fuel : Nat} {cs : List Value} {y : DataW H × List MemPlace} (h : DataW.trod enc P W 0 (fun _ => true) true fuel e cs = some y) :
    ∃ z : Bool, cs[j]? = some (.bool z) := by
  obtain ⟨xs, n, _, _, _, hxs, hfld⟩ := DataW.trod_struct he h
  have h1 := hfld j f hf
  have hlt : j < xs.length := by
    have := (Array.getElem?_eq_some_iff.1 hf).1
    omega
  rw [List.getElem?_eq_getElem hlt, ho, hc] at h1
  obtain ⟨z, hz, _⟩ := DataW.trod_bool hu h1
  refine ⟨z, ?_⟩
  have := congrArg (fun l : List Value => l[0]?) hz
  simpa using this

end
end Go.Vh


/- From a contract to a row: fields that are slices of structs. -/
namespace Go.Vh
open Go Go.ChangeShapes Go.WideShapes Go.RowKit Go.ChangeAt Go.Deep

section
variable {P : Program} {H : Type} {enc : TypeId × Value → H} {W : World}
theorem field_fives {t e : TypeId} {v : Value} {fuel : Nat} {y0 : DataW H × List MemPlace} (ht : P.underlying t = some (.slice e)) (hc : P.cellsOf e = 5)
    (hcell : ∀ {fuel : Nat} {cs : List Value} {y : DataW H × List MemPlace}, DataW.trod enc P W 0 (fun _ => true) true fuel e cs = some y → ∃ (a : Int) (b : Bool) (c d : Int) (f : Bool), cs[0]? = some (.int .i64 a) ∧ cs[1]? = some (.bool b) ∧ cs[2]? = some (.int .i64 c) ∧ cs[3]? = some (.int .i64 d) ∧ cs[4]? = some (.bool f))
    (hf : DataW.trod enc P W 0 (fun _ => true) true fuel t [v] = some y0) :
    ∃ (κ : SK) (n : Nat) (g : Nat → AV) (x : Loc), (∀ i, i < n → (∃ z, g (i * 5) = .int .i64 z) ∧ (∃ z, g (i * 5 + 1) = .bool z) ∧ (∃ z, g (i * 5 + 2) = .int .i64 z) ∧ (∃ z, g (i * 5 + 3) = .int .i64 z) ∧ ∃ z, g (i * 5 + 4) = .bool z) ∧ CRow.at ⟨(List.range (n * 5)).map g, x⟩ W ∧ okS κ n ∧ n ≤ maxLen ∧ ∀ (ρ : RMap) (i : Nat), ρ i = some x → VRel ρ (mkS κ i 0 n) v := by
  rcases DataW.trod_slice ht hf with ⟨hcs, _⟩ | ⟨a, len0, cap0, elems, rest, m, _, hcs, _, _, hle, hmax, hlen, hel, hsp, _⟩
  · simp only [List.cons.injEq, and_true] at hcs
    subst hcs
    exact ⟨.nil, 0, fun _ => .any, ⟨0, 0, 1⟩, fun i hi => by omega, ⟨by simp, fun i c hi => by simp at hi⟩, rfl, Nat.zero_le _, fun ρ i _ => .nilslice⟩
  · simp only [List.cons.injEq, and_true] at hcs
    subst hcs
    obtain ⟨hrl, hrest⟩ := hsp rfl
    have each : ∀ i, i < cap0 → ∃ (a1 : Int) (b1 : Bool) (c1 d1 : Int) (f1 : Bool), W.cell? ((a.add (i * 5)).add 0) = some (.int .i64 a1) ∧ W.cell? ((a.add (i * 5)).add 1) = some (.bool b1) ∧ W.cell? ((a.add (i * 5)).add 2) = some (.int .i64 c1) ∧ W.cell? ((a.add (i * 5)).add 3) = some (.int .i64 d1) ∧ W.cell? ((a.add (i * 5)).add 4) = some (.bool f1) := by
      intro i hi
      have hb : ∃ y, (W.cells? 0 (a.add (i * 5)) 5).bind (DataW.trod enc P W 0 (fun _ => true) true m e) = some y := by
        by_cases hlt : i < len0
        · have := hel i hlt
          rw [hc] at this
          exact ⟨_, this.trans (List.getElem?_eq_getElem (by omega))⟩
        · have := hrest (i - len0) (by omega)
          rw [hc, show len0 + (i - len0) = i by omega] at this
          exact ⟨_, this.trans (List.getElem?_eq_getElem (by omega))⟩
      obtain ⟨y, hb⟩ := hb
      rw [Option.bind_eq_some_iff] at hb
      obtain ⟨cs', h1, h2⟩ := hb
      obtain ⟨a1, b1, c1, d1, f1, k0, k1, k2, k3, k4⟩ := hcell h2
      have hw := (World.cells?_some h1).2.2
      exact ⟨a1, b1, c1, d1, f1, by rw [hw 0 (by omega), k0], by rw [hw 1 (by omega), k1], by rw [hw 2 (by omega), k2], by rw [hw 3 (by omega), k3], by rw [hw 4 (by omega), k4]⟩
    rcases Nat.eq_zero_or_pos cap0 with h0 | h0
    · have : len0 = 0 := by omega
      subst this; subst h0
      exact ⟨.cap 0, 0, fun _ => .any, ⟨0, 0, 1⟩, fun i hi => by omega, ⟨by simp, fun i c hi => by simp at hi⟩, Nat.le_refl _, Nat.zero_le _, fun ρ i _ => .slice0 _ _ _⟩
    · obtain ⟨b, off, spot⟩ := a
      obtain ⟨z0, _, _, _, _, hz0, _⟩ := each 0 h0
      have hspot : spot = none := by simpa [Addr.add] using World.cell?_spot hz0
      subst hspot
      let g : Nat → AV := fun i => match W.cell? ⟨b, off + i, none⟩ with | some (.int k z) => .int k z | some (.bool z) => .bool z | _ => .any
      have hg : ∀ i, i < len0 → ((∃ z, g (i * 5) = .int .i64 z) ∧ (∃ z, g (i * 5 + 1) = .bool z) ∧ (∃ z, g (i * 5 + 2) = .int .i64 z) ∧ (∃ z, g (i * 5 + 3) = .int .i64 z) ∧ ∃ z, g (i * 5 + 4) = .bool z) ∧ ∀ j, j < 5 → (g (i * 5 + j)).cell = true ∧ ∃ u, W.cell? ⟨b, off + (i * 5 + j), none⟩ = some u ∧ ∀ ρ, VRel ρ (g (i * 5 + j)) u := by
        intro i hi
        obtain ⟨a1, b1, c1, d1, f1, k0, k1, k2, k3, k4⟩ := each i (by omega)
        rw [add_plain, add_plain] at k0 k1 k2 k3 k4
        rw [show off + i * 5 + 0 = off + (i * 5) by omega] at k0
        rw [show off + i * 5 + 1 = off + (i * 5 + 1) by omega] at k1
        rw [show off + i * 5 + 2 = off + (i * 5 + 2) by omega] at k2
        rw [show off + i * 5 + 3 = off + (i * 5 + 3) by omega] at k3
        rw [show off + i * 5 + 4 = off + (i * 5 + 4) by omega] at k4
        have g0 : g (i * 5) = .int .i64 a1 := by simp only [g, k0]
        have g1 : g (i * 5 + 1) = .bool b1 := by simp only [g, k1]
        have g2 : g (i * 5 + 2) = .int .i64 c1 := by simp only [g, k2]
        have g3 : g (i * 5 + 3) = .int .i64 d1 := by simp only [g, k3]
        have g4 : g (i * 5 + 4) = .bool f1 := by simp only [g, k4]
        refine ⟨⟨⟨_, g0⟩, ⟨_, g1⟩, ⟨_, g2⟩, ⟨_, g3⟩, ⟨_, g4⟩⟩, fun j hj => ?_⟩
        rcases (show j = 0 ∨ j = 1 ∨ j = 2 ∨ j = 3 ∨ j = 4 by omega) with rfl | rfl | rfl | rfl | rfl
        · rw [Nat.add_zero, g0]; exact ⟨rfl, _, k0, fun _ => .int _ _⟩
        · rw [g1]; exact ⟨rfl, _, k1, fun _ => .bool _⟩
        · rw [g2]; exact ⟨rfl, _, k2, fun _ => .int _ _⟩
        · rw [g3]; exact ⟨rfl, _, k3, fun _ => .int _ _⟩
        · rw [g4]; exact ⟨rfl, _, k4, fun _ => .bool _⟩
      refine ⟨.cap cap0, len0, g, ⟨b, off, 1⟩, fun i hi => (hg i hi).1, ⟨by simp, fun i c hi => ?_⟩, hle, by omega, fun ρ i hx => ?_⟩
      · have hlt : i < len0 * 5 := by
          rcases Nat.lt_or_ge i (len0 * 5) with h | h
          · exact h
          · simp only at hi
            rw [List.getElem?_eq_none (by simp; exact h)] at hi; cases hi
        simp only at hi
        rw [List.getElem?_map, List.getElem?_range hlt] at hi
        cases hi
        have := (hg (i / 5) (by omega)).2 (i % 5) (by omega)
        rw [show i / 5 * 5 + i % 5 = i by omega] at this
        exact this
      · simp only [mkS]
        have := VRel.slice (ρ := ρ) i 0 len0 cap0 _ hx hle
        simpa using this
end
end Go.Vh

