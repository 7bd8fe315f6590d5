/- From a contract to a row: arguments that are slices, of bools among them. -/
import Derived.Test.YthbhljolpnbdlaaVX
set_option linter.unusedSimpArgs false
set_option linter.unusedVariables false
namespace Go.Vh
open Go Go.ChangeShapes Go.WideShapes Go.RowKit Go.ChangeAt Go.Deep

/-- Rows that are only read, with where they lie. -/
structure CRow where
  cs : List AV
  x : Loc

def crows (rs : List CRow) : AHeap := rs.map fun r => ro r.cs
def clocs (rs : List CRow) : RMap := fun i => (rs[i]?).map (·.x)
def CRow.at (r : CRow) (w : World) : Prop := r.x.n ≠ 0 ∧ ∀ i c, r.cs[i]? = some c → c.cell = true ∧ ∃ v, w.cell? ⟨r.x.b, r.x.d + i, none⟩ = some v ∧ ∀ ρ, VRel ρ c v

theorem crows_at {rs : List CRow} {i : Nat} {row : ARow} (h : Vh.rowAt (crows rs) i = some row) : ∃ r, rs[i]? = some r ∧ row = ⟨false, false, r.cs⟩ := by
  rw [rowAt_some, crows, List.getElem?_map, Option.map_eq_some_iff] at h
  obtain ⟨r, h1, h2⟩ := h
  exact ⟨r, h1, by cases h2; rfl⟩

theorem Sim.crows {rs : List CRow} {w : World} {B : Nat} {ex : Nat → Prop} (h : ∀ r ∈ rs, r.at w) : Sim B ex (clocs rs) (Go.Vh.crows rs) w := by
  refine ⟨fun i hi => ?_, fun i row hi => ?_, fun i row x hi hx j c hc => ?_, fun i row x hi ho => ?_, fun i j a b x y hi _ ho => ?_, fun i row x hi hx hne => ?_⟩
  · simp only [Go.Vh.crows, List.length_map] at hi
    simp [clocs, List.getElem?_eq_none hi]
  · obtain ⟨r, h1, rfl⟩ := crows_at hi
    exact ⟨r.x, by simp [clocs, h1]⟩
  · obtain ⟨r, h1, rfl⟩ := crows_at hi
    have hx' : r.x = x := by simpa [clocs, h1] using hx
    subst hx'
    obtain ⟨_, h3⟩ := h r (List.mem_of_getElem? h1)
    obtain ⟨k1, v, k2, k3⟩ := h3 j c hc
    exact ⟨k1, v, k2, k3 _⟩
  · obtain ⟨r, h1, rfl⟩ := crows_at hi
    cases ho
  · obtain ⟨r, h1, rfl⟩ := crows_at hi
    cases ho
  · obtain ⟨r, h1, rfl⟩ := crows_at hi
    have hx' : r.x = x := by simpa [clocs, h1] using hx
    subst hx'
    exact (h r (List.mem_of_getElem? h1)).1

/-- A call whose arguments reach rows that are only read. -/
theorem ACalls.onRows {P : Program} {f : FuncId} {args : List AV} {rs : List CRow} {W : List Nat} {R : AV → AHeap → Prop} (h : ACalls P f args (crows rs) W R) {w : World} (hrs : ∀ r ∈ rs, r.at w) {vs : List Value} (hv : VRelL (clocs rs) args vs) :
    Calls P f vs.toArray w fun e w' => ∃ v v' ρ' H', e = .returned v' ∧ R v H' ∧ VRel ρ' v v' ∧ Frm w.heap.size (fun _ => False) w w' := by
  refine (h.calls _ w vs (Sim.crows hrs) hv fun _ => .any _).mono fun e w' ⟨v, v', ρ', H', h1, h2, _, h4, _, h6, _⟩ => ⟨v, v', ρ', H', h1, h2, h4, ⟨h6.os, h6.tape, h6.output, h6.size, fun k hk _ => h6.block k hk fun ⟨r, row, x, _, q, ho, _⟩ => ?_⟩⟩
  obtain ⟨_, _, rfl⟩ := crows_at q
  cases ho

section
variable {P : Program} {H : Type} {enc : TypeId × Value → H} {W : World}

end
end Go.Vh


/- Rows of numbers by index; lists of bools; answers that are appended to; flat rows read by a callee. -/
namespace Go.Vh
open Go

/-- n numbers. -/
def nt (n : Nat) (q : Nat → Int) : List AV := (List.range n).map fun i => AV.int .i64 (q i)
section
variable {P : Program} {f : FuncId} {W0 : List Nat} {K : St → AHeap → Prop} {d : Option Nat} {s : St} {H : AHeap} {args caps rest : List AV} {κ κ' : SK} {n n' : Nat} {a b da db : Nat} {ra rb : ARow} {cs cs' : List AV}

end
end Go.Vh


/- Numbers that are appended; rows of a heap by what is known of them; calls whose answers are new; all orders of a region. -/
namespace Go.Vh
open Go
section
variable {s : St} {H : AHeap}
end

section
variable {s : St} {H H0 : AHeap}
end
section
variable {P : Program} {f : FuncId} {W0 : List Nat} {K : St → AHeap → Prop} {d : Option Nat} {s : St} {H : AHeap} {args caps args0 : List AV}
end

theorem row_set0 {H : AHeap} {r : Nat} {x : Option ARow} (h : r < H.length) : Vh.rowAt (H.set r x) r = x := by
  simp [Vh.rowAt, h]
theorem row_other0 {H : AHeap} {r i : Nat} {x : Option ARow} (hn : r ≠ i) : Vh.rowAt (H.set r x) i = Vh.rowAt H i := by
  simp [Vh.rowAt, List.getElem?_set_ne hn]
theorem row_new {H : AHeap} {x y : Option ARow} {r : Nat} : Vh.rowAt (H.set r y ++ [x]) H.length = x := by
  simp [Vh.rowAt]
end Go.Vh


/- From a contract to a row: an argument that is a slice of structs of an integer, a truth, two integers and a truth. -/
namespace Go.Vh
open Go Go.ChangeShapes Go.WideShapes Go.RowKit Go.ChangeAt Go.Deep

section
variable {P : Program} {H : Type} {enc : TypeId × Value → H} {W : World}

theorem cell_int {e : TypeId} {fs : Array Field} (he : P.underlying e = some (.struct fs)) {j : Nat} {f : Field} (hf : fs[j]? = some f) (ho : f.offset = j) (hu : P.underlying f.type = some (.int .i64)) (hc : P.cellsOf f.type = 1)
    {fuel : Nat} {cs : List Value} {y : DataW H × List MemPlace} (h : DataW.trod enc P W 0 (fun _ => true) true fuel e cs = some y) :
    ∃ z : Int, cs[j]? = some (.int .i64 z) ∧ (Lit.int .i64 z).wf = true := by
  obtain ⟨xs, n, _, _, _, hxs, hfld⟩ := DataW.trod_struct he h
  have h1 := hfld j f hf
  have hlt : j < xs.length := by
    have := (Array.getElem?_eq_some_iff.1 hf).1
    omega
  rw [List.getElem?_eq_getElem hlt, ho, hc] at h1
  obtain ⟨z, hz, _, hw⟩ := DataW.trod_int hu h1
  refine ⟨z, ?_, hw⟩
  have := congrArg (fun l : List Value => l[0]?) hz
  simpa using this
theorem cell_bool {e : TypeId} {fs : Array Field} (he : P.underlying e = some (.struct fs)) {j : Nat} {f : Field} (hf : fs[j]? = some f) (ho : f.offset = j) (hu : P.underlying f.type = some .bool) (hc : P.cellsOf f.type = 1)
    {fuel : Nat} {cs : List Value} {y : DataW H × List MemPlace} (h : DataW.trod enc P W 0 (fun _ => true) true fuel e cs = some y) :
    ∃ z : Bool, cs[j]? = some (.bool z) := by
  obtain ⟨xs, n, _, _, _, hxs, hfld⟩ := DataW.trod_struct he h
  have h1 := hfld j f hf
  have hlt : j < xs.length := by
    have := (Array.getElem?_eq_some_iff.1 hf).1
    omega
  rw [List.getElem?_eq_getElem hlt, ho, hc] at h1
  obtain ⟨z, hz, _⟩ := DataW.trod_bool hu h1
  refine ⟨z, ?_⟩
  have := congrArg (fun l : List Value => l[0]?) hz
  simpa using this

/-- An argument that is a slice of such structs. -/
theorem open_row_fives {t e : TypeId} {v : Value} {d : DataW H} {ps : List MemPlace} {base : Nat} {r0 : Reach} (ht : P.underlying t = some (.slice e)) (hc : P.cellsOf e = 5)
    (hcell : ∀ {fuel : Nat} {cs : List Value} {y : DataW H × List MemPlace}, DataW.trod enc P W 0 (fun _ => true) true fuel e cs = some y → ∃ (a : Int) (b : Bool) (c d : Int) (f : Bool), cs[0]? = some (.int .i64 a) ∧ cs[1]? = some (.bool b) ∧ cs[2]? = some (.int .i64 c) ∧ cs[3]? = some (.int .i64 d) ∧ cs[4]? = some (.bool f))
    (hval : Value.okWide P W r0 base t v) (h : DataW.Trod enc P W 0 (fun _ => true) true t v d ps) :
    ∃ (κ : SK) (n : Nat) (g : Nat → AV) (x : Loc), (∀ i, i < n → (∃ z, g (i * 5) = .int .i64 z) ∧ (∃ z, g (i * 5 + 1) = .bool z) ∧ (∃ z, g (i * 5 + 2) = .int .i64 z) ∧ (∃ z, g (i * 5 + 3) = .int .i64 z) ∧ ∃ z, g (i * 5 + 4) = .bool z) ∧ CRow.at ⟨(List.range (n * 5)).map g, x⟩ W ∧ okS κ n ∧ n ≤ maxLen ∧ ∀ (ρ : RMap) (i : Nat), ρ i = some x → VRel ρ (mkS κ i 0 n) v := by
  obtain ⟨a0, len0, cap0, rfl⟩ := okWide_slice ht hval
  obtain ⟨fuel, hf⟩ := h
  rcases DataW.trod_slice ht hf with ⟨hcs, _⟩ | ⟨a, len, cap, elems, rest, m, _, hcs, _, _, hle, hmax, hlen, hel, hsp, _⟩
  · simp [Value.cells] at hcs
    obtain ⟨rfl, rfl, rfl⟩ := hcs
    exact ⟨.nil, 0, fun _ => .any, ⟨0, 0, 1⟩, fun i hi => by omega, ⟨by simp, fun i c hi => by simp at hi⟩, rfl, Nat.zero_le _, fun ρ i _ => .nilslice⟩
  · simp [Value.cells] at hcs
    obtain ⟨rfl, rfl, rfl⟩ := hcs
    obtain ⟨hrl, hrest⟩ := hsp rfl
    have each : ∀ i, i < cap0 → ∃ (a1 : Int) (b1 : Bool) (c1 d1 : Int) (f1 : Bool), W.cell? ((a.add (i * 5)).add 0) = some (.int .i64 a1) ∧ W.cell? ((a.add (i * 5)).add 1) = some (.bool b1) ∧ W.cell? ((a.add (i * 5)).add 2) = some (.int .i64 c1) ∧ W.cell? ((a.add (i * 5)).add 3) = some (.int .i64 d1) ∧ W.cell? ((a.add (i * 5)).add 4) = some (.bool f1) := by
      intro i hi
      have hb : ∃ y, (W.cells? 0 (a.add (i * 5)) 5).bind (DataW.trod enc P W 0 (fun _ => true) true m e) = some y := by
        by_cases hlt : i < len0
        · have := hel i hlt
          rw [hc] at this
          exact ⟨_, this.trans (List.getElem?_eq_getElem (by omega))⟩
        · have := hrest (i - len0) (by omega)
          rw [hc, show len0 + (i - len0) = i by omega] at this
          exact ⟨_, this.trans (List.getElem?_eq_getElem (by omega))⟩
      obtain ⟨y, hb⟩ := hb
      rw [Option.bind_eq_some_iff] at hb
      obtain ⟨cs', h1, h2⟩ := hb
      obtain ⟨a1, b1, c1, d1, f1, k0, k1, k2, k3, k4⟩ := hcell h2
      have hw := (World.cells?_some h1).2.2
      exact ⟨a1, b1, c1, d1, f1, by rw [hw 0 (by omega), k0], by rw [hw 1 (by omega), k1], by rw [hw 2 (by omega), k2], by rw [hw 3 (by omega), k3], by rw [hw 4 (by omega), k4]⟩
    rcases Nat.eq_zero_or_pos cap0 with h0 | h0
    · have : len0 = 0 := by omega
      subst this; subst h0
      exact ⟨.cap 0, 0, fun _ => .any, ⟨0, 0, 1⟩, fun i hi => by omega, ⟨by simp, fun i c hi => by simp at hi⟩, Nat.le_refl _, Nat.zero_le _, fun ρ i _ => .slice0 _ _ _⟩
    · obtain ⟨b, off, spot⟩ := a
      obtain ⟨z0, _, _, _, _, hz0, _⟩ := each 0 h0
      have hspot : spot = none := by simpa [Addr.add] using World.cell?_spot hz0
      subst hspot
      let g : Nat → AV := fun i => match W.cell? ⟨b, off + i, none⟩ with | some (.int k z) => .int k z | some (.bool z) => .bool z | _ => .any
      have hg : ∀ i, i < len0 → ((∃ z, g (i * 5) = .int .i64 z) ∧ (∃ z, g (i * 5 + 1) = .bool z) ∧ (∃ z, g (i * 5 + 2) = .int .i64 z) ∧ (∃ z, g (i * 5 + 3) = .int .i64 z) ∧ ∃ z, g (i * 5 + 4) = .bool z) ∧ ∀ j, j < 5 → (g (i * 5 + j)).cell = true ∧ ∃ u, W.cell? ⟨b, off + (i * 5 + j), none⟩ = some u ∧ ∀ ρ, VRel ρ (g (i * 5 + j)) u := by
        intro i hi
        obtain ⟨a1, b1, c1, d1, f1, k0, k1, k2, k3, k4⟩ := each i (by omega)
        rw [add_plain, add_plain] at k0 k1 k2 k3 k4
        rw [show off + i * 5 + 0 = off + (i * 5) by omega] at k0
        rw [show off + i * 5 + 1 = off + (i * 5 + 1) by omega] at k1
        rw [show off + i * 5 + 2 = off + (i * 5 + 2) by omega] at k2
        rw [show off + i * 5 + 3 = off + (i * 5 + 3) by omega] at k3
        rw [show off + i * 5 + 4 = off + (i * 5 + 4) by omega] at k4
        have g0 : g (i * 5) = .int .i64 a1 := by simp only [g, k0]
        have g1 : g (i * 5 + 1) = .bool b1 := by simp only [g, k1]
        have g2 : g (i * 5 + 2) = .int .i64 c1 := by simp only [g, k2]
        have g3 : g (i * 5 + 3) = .int .i64 d1 := by simp only [g, k3]
        have g4 : g (i * 5 + 4) = .bool f1 := by simp only [g, k4]
        refine ⟨⟨⟨_, g0⟩, ⟨_, g1⟩, ⟨_, g2⟩, ⟨_, g3⟩, ⟨_, g4⟩⟩, fun j hj => ?_⟩
        rcases (show j = 0 ∨ j = 1 ∨ j = 2 ∨ j = 3 ∨ j = 4 by omega) with rfl | rfl | rfl | rfl | rfl
        · rw [Nat.add_zero, g0]; exact ⟨rfl, _, k0, fun _ => .int _ _⟩
        · rw [g1]; exact ⟨rfl, _, k1, fun _ => .bool _⟩
        · rw [g2]; exact ⟨rfl, _, k2, fun _ => .int _ _⟩
        · rw [g3]; exact ⟨rfl, _, k3, fun _ => .int _ _⟩
        · rw [g4]; exact ⟨rfl, _, k4, fun _ => .bool _⟩
      refine ⟨.cap cap0, len0, g, ⟨b, off, 1⟩, fun i hi => (hg i hi).1, ⟨by simp, fun i c hi => ?_⟩, hle, by omega, fun ρ i hx => ?_⟩
      · have hlt : i < len0 * 5 := by
          rcases Nat.lt_or_ge i (len0 * 5) with h | h
          · exact h
          · simp only at hi
            rw [List.getElem?_eq_none (by simp; exact h)] at hi; cases hi
        simp only at hi
        rw [List.getElem?_map, List.getElem?_range hlt] at hi
        cases hi
        have := (hg (i / 5) (by omega)).2 (i % 5) (by omega)
        rw [show i / 5 * 5 + i % 5 = i by omega] at this
        exact this
      · simp only [mkS]
        have := VRel.slice (ρ := ρ) i 0 len0 cap0 _ hx hle
        simpa using this
end
end Go.Vh


/- From a contract to a row: an argument that is a slice of structs of integers and truths. -/
namespace Go.Vh
open Go Go.ChangeShapes Go.WideShapes Go.RowKit Go.ChangeAt Go.Deep

/-- a cell of such a struct: true where it is a truth -/
def isK : Bool → AV → Prop
  | true, v => ∃ z, v = .bool z
  | false, v => ∃ z, v = .int .i64 z
def isKV : Bool → Value → Prop
  | true, v => ∃ z, v = .bool z
  | false, v => ∃ z, v = .int .i64 z

section
variable {P : Program} {H : Type} {enc : TypeId × Value → H} {W : World}

/-- An argument that is a slice of such structs. -/
theorem open_row_structs (ks : List Bool) {k : Nat} (hks : ks.length = k) (hk0 : 0 < k) {t e : TypeId} {v : Value} {d : DataW H} {ps : List MemPlace} {base : Nat} {r0 : Reach} (ht : P.underlying t = some (.slice e)) (hc : P.cellsOf e = k)
    (hcell : ∀ {fuel : Nat} {cs : List Value} {y : DataW H × List MemPlace}, DataW.trod enc P W 0 (fun _ => true) true fuel e cs = some y → ∀ (j : Nat) (b : Bool), ks[j]? = some b → ∃ u, cs[j]? = some u ∧ isKV b u)
    (hval : Value.okWide P W r0 base t v) (h : DataW.Trod enc P W 0 (fun _ => true) true t v d ps) :
    ∃ (κ : SK) (n : Nat) (g : Nat → AV) (x : Loc), (∀ i, i < n → ∀ (j : Nat) (b : Bool), ks[j]? = some b → isK b (g (i * k + j))) ∧ CRow.at ⟨(List.range (n * k)).map g, x⟩ W ∧ okS κ n ∧ n ≤ maxLen ∧ ∀ (ρ : RMap) (i : Nat), ρ i = some x → VRel ρ (mkS κ i 0 n) v := by
  obtain ⟨a0, len0, cap0, rfl⟩ := okWide_slice ht hval
  obtain ⟨fuel, hf⟩ := h
  rcases DataW.trod_slice ht hf with ⟨hcs, _⟩ | ⟨a, len, cap, elems, rest, m, _, hcs, _, _, hle, hmax, hlen, hel, hsp, _⟩
  · simp [Value.cells] at hcs
    obtain ⟨rfl, rfl, rfl⟩ := hcs
    exact ⟨.nil, 0, fun _ => .any, ⟨0, 0, 1⟩, fun i hi => by omega, ⟨by simp, fun i c hi => by simp at hi⟩, rfl, Nat.zero_le _, fun ρ i _ => .nilslice⟩
  · simp [Value.cells] at hcs
    obtain ⟨rfl, rfl, rfl⟩ := hcs
    obtain ⟨hrl, hrest⟩ := hsp rfl
    have each : ∀ i, i < cap0 → ∀ (j : Nat) (b : Bool), ks[j]? = some b → ∃ u, W.cell? ((a.add (i * k)).add j) = some u ∧ isKV b u := by
      intro i hi j b hj
      have hjk : j < k := by have := (List.getElem?_eq_some_iff.1 hj).1; omega
      have hb : ∃ y, (W.cells? 0 (a.add (i * k)) k).bind (DataW.trod enc P W 0 (fun _ => true) true m e) = some y := by
        by_cases hlt : i < len0
        · have := hel i hlt
          rw [hc] at this
          exact ⟨_, this.trans (List.getElem?_eq_getElem (by omega))⟩
        · have := hrest (i - len0) (by omega)
          rw [hc, show len0 + (i - len0) = i by omega] at this
          exact ⟨_, this.trans (List.getElem?_eq_getElem (by omega))⟩
      obtain ⟨y, hb⟩ := hb
      rw [Option.bind_eq_some_iff] at hb
      obtain ⟨cs', h1, h2⟩ := hb
      obtain ⟨u, hu, hku⟩ := hcell h2 j b hj
      have hw := (World.cells?_some h1).2.2
      exact ⟨u, by rw [hw j hjk, hu], hku⟩
    rcases Nat.eq_zero_or_pos cap0 with h0 | h0
    · have : len0 = 0 := by omega
      subst this; subst h0
      exact ⟨.cap 0, 0, fun _ => .any, ⟨0, 0, 1⟩, fun i hi => by omega, ⟨by simp, fun i c hi => by simp at hi⟩, Nat.le_refl _, Nat.zero_le _, fun ρ i _ => .slice0 _ _ _⟩
    · obtain ⟨b, off, spot⟩ := a
      obtain ⟨b0, hb0⟩ : ∃ b0, ks[0]? = some b0 := ⟨ks[0]'(by omega), by simp [hks, hk0]⟩
      obtain ⟨z0, hz0, _⟩ := each 0 h0 0 b0 hb0
      have hspot : spot = none := by simpa [Addr.add] using World.cell?_spot hz0
      subst hspot
      let g : Nat → AV := fun i => match W.cell? ⟨b, off + i, none⟩ with | some (.int k z) => .int k z | some (.bool z) => .bool z | _ => .any
      have hg : ∀ i, i < len0 → ∀ j b', ks[j]? = some b' → isK b' (g (i * k + j)) ∧ (g (i * k + j)).cell = true ∧ ∃ u, W.cell? ⟨b, off + (i * k + j), none⟩ = some u ∧ ∀ ρ, VRel ρ (g (i * k + j)) u := by
        intro i hi j b' hj
        obtain ⟨u, hu, hku⟩ := each i (by omega) j b' hj
        rw [add_plain, add_plain, Nat.add_assoc] at hu
        cases b' with
        | true =>
          obtain ⟨z, rfl⟩ := hku
          have hgz : g (i * k + j) = .bool z := by simp only [g, hu]
          rw [hgz]
          exact ⟨⟨z, rfl⟩, rfl, _, hu, fun _ => .bool _⟩
        | false =>
          obtain ⟨z, rfl⟩ := hku
          have hgz : g (i * k + j) = .int .i64 z := by simp only [g, hu]
          rw [hgz]
          exact ⟨⟨z, rfl⟩, rfl, _, hu, fun _ => .int _ _⟩
      refine ⟨.cap cap0, len0, g, ⟨b, off, 1⟩, fun i hi j b' hj => (hg i hi j b' hj).1, ⟨by simp, fun i c hi => ?_⟩, hle, by omega, fun ρ i hx => ?_⟩
      · have hlt : i < len0 * k := by
          rcases Nat.lt_or_ge i (len0 * k) with h | h
          · exact h
          · simp only at hi
            rw [List.getElem?_eq_none (by simp; exact h)] at hi; cases hi
        simp only at hi
        rw [List.getElem?_map, List.getElem?_range hlt] at hi
        cases hi
        have hdm : i / k * k + i % k = i := by rw [Nat.mul_comm]; exact Nat.div_add_mod i k
        have hmk : i % k < ks.length := by rw [hks]; exact Nat.mod_lt _ hk0
        have := (hg (i / k) (Nat.div_lt_of_lt_mul (by rw [Nat.mul_comm]; exact hlt)) (i % k) ks[i % k] (by simp [hmk])).2
        rw [hdm] at this
        exact this
      · simp only [mkS]
        have := VRel.slice (ρ := ρ) i 0 len0 cap0 _ hx hle
        simpa using this
theorem crow_ints {r : IRow} {W : World} (hk : r.k = .i64) (h : r.at W) : CRow.at ⟨ints .i64 r.l, r.x⟩ W := by
  obtain ⟨kk, ll, xx⟩ := r
  subst hk
  refine ⟨h.1, fun i c hi => ?_⟩
  have hlt : i < ll.length := by
    rcases Nat.lt_or_ge i ll.length with h | h
    · exact h
    · simp only at hi
      rw [List.getElem?_eq_none (by rw [ints_length]; exact h)] at hi; cases hi
  simp only at hi
  rw [ints_get hlt] at hi
  cases hi
  exact ⟨rfl, _, h.2 i hlt, fun _ => .int _ _⟩
end
end Go.Vh

