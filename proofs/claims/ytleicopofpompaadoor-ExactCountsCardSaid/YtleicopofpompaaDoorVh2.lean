/- The virtual heap: what a new block, a store, an append does to 'Sim'. -/
import Derived.Test.YtleicopofpompaaDoorVh1
import Derived.Laws.IdiomCopy
import Derived.Laws.Append
set_option linter.unusedSimpArgs false
set_option linter.unusedVariables false
namespace Go.Vh
open Go

/-! ### worlds -/
theorem heap_setCells (b : Nat) : ∀ (vs : List Value) (o : Nat) (w : World) (k : Nat), k ≠ b → (w.setCells b o vs).heap[k]? = w.heap[k]?
  | [], _, _, _, _ => rfl
  | v :: r, o, w, k, h => by
    rw [World.setCells, heap_setCells b r _ _ _ h]
    exact RowKit.Below.heap_setCell _ _ _ _ h
theorem size_setCells (b : Nat) : ∀ (vs : List Value) (o : Nat) (w : World), (w.setCells b o vs).heap.size = w.heap.size
  | [], _, _ => rfl
  | v :: r, o, w => by rw [World.setCells, size_setCells b r]; simp
theorem os_setCells (b : Nat) : ∀ (vs : List Value) (o : Nat) (w : World), (w.setCells b o vs).os = w.os ∧ (w.setCells b o vs).tape = w.tape ∧ (w.setCells b o vs).output = w.output
  | [], _, _ => ⟨rfl, rfl, rfl⟩
  | v :: r, o, w => by rw [World.setCells]; obtain ⟨h1, h2, h3⟩ := os_setCells b r (o+1) (w.setCell ⟨b, o, none⟩ v); exact ⟨h1, h2, h3⟩
theorem block_setCell (w : World) (b o : Nat) (v : Value) {C e fr} (h : w.heap[b]? = some (.cells C e fr)) : ∃ C', (w.setCell ⟨b, o, none⟩ v).heap[b]? = some (.cells C' e fr) ∧ C'.size = C.size := by
  refine ⟨C.setIfInBounds o v, ?_, by simp⟩
  simp [World.setCell, Array.getElem?_modify, h]
theorem block_setCells (b : Nat) : ∀ (vs : List Value) (o : Nat) (w : World) {C : Array Value} {e fr}, w.heap[b]? = some (.cells C e fr) → ∃ C', (w.setCells b o vs).heap[b]? = some (.cells C' e fr) ∧ C'.size = C.size
  | [], _, _, C, _, _, h => ⟨C, h, rfl⟩
  | v :: r, o, w, C, e, fr, h => by
    obtain ⟨C1, h1, s1⟩ := block_setCell w b o v h
    obtain ⟨C2, h2, s2⟩ := block_setCells b r (o+1) _ h1
    exact ⟨C2, h2, s2.trans s1⟩
theorem cell_of_block {w : World} {b : Nat} {C : Array Value} {e fr} (h : w.heap[b]? = some (.cells C e fr)) (i : Nat) : w.cell? ⟨b, i, none⟩ = C[i]? := by
  simp [World.cell?, h]
theorem lt_of_cell {w : World} {b o : Nat} {v : Value} (h : w.cell? ⟨b, o, none⟩ = some v) : b < w.heap.size := by
  have := World.block_lt_of_cell? (w := w) (a := ⟨b, o, none⟩) (u := v) h
  exact this

/-! ### rows of a heap -/
theorem rowAt_append {H : AHeap} {o : Option ARow} {r : Nat} : rowAt (H ++ [o]) r = if r = H.length then o else rowAt H r := by
  unfold rowAt
  by_cases h : r = H.length
  · subst h; simp
  · rw [if_neg h]
    rcases Nat.lt_or_ge r H.length with h' | h'
    · rw [List.getElem?_append_left h']
    · rw [List.getElem?_eq_none (by simp; omega), List.getElem?_eq_none h']
theorem rowAt_set {H : AHeap} {o : Option ARow} {r r' : Nat} (hr : r < H.length) : rowAt (H.set r o) r' = if r' = r then o else rowAt H r' := by
  unfold rowAt
  by_cases h : r' = r
  · subst h; simp [hr]
  · rw [if_neg h, List.getElem?_set_ne (Ne.symm h)]
theorem rowAt_lt {H : AHeap} {r : Nat} {row : ARow} (h : rowAt H r = some row) : r < H.length := by
  rcases Nat.lt_or_ge r H.length with h' | h'
  · exact h'
  · simp [rowAt, List.getElem?_eq_none h'] at h

def RMap.put (ρ : RMap) (r : Nat) (x : Loc) : RMap := fun r' => if r' = r then some x else ρ r'
theorem RMap.le_put {ρ : RMap} {r : Nat} {x : Loc} (h : ρ r = none) : ρ.le (ρ.put r x) := fun r' y hy => by
  unfold RMap.put
  by_cases e : r' = r
  · subst e; rw [h] at hy; cases hy
  · rw [if_neg e]; exact hy
theorem RMap.put_same {ρ : RMap} {r : Nat} {x : Loc} : ρ.put r x r = some x := by simp [RMap.put]

variable {B : Nat} {ex : Nat → Prop} {ρ : RMap} {H : AHeap} {w : World}

/-- The cells of a row are where they are, also if the world has changed elsewhere. -/
theorem Sim.of_cells (h : Sim B ex ρ H w) {w' : World} (hc : ∀ r row x, rowAt H r = some row → ρ r = some x → ∀ i, i < row.cells.length → w'.cell? ⟨x.b, x.d + i, none⟩ = w.cell? ⟨x.b, x.d + i, none⟩)
    (ho : ∀ r row x, rowAt H r = some row → row.own = true → ρ r = some x → x.n ≠ 0 → (∃ C e fr, w'.heap[x.b]? = some (.cells C e fr) ∧ C.size = x.n) ∧ ∀ i, i < x.n → w'.frozen? ⟨x.b, i, none⟩ = false) : Sim B ex ρ H w' where
  dom := h.dom
  has := h.has
  cells := fun r row x hr hx i c hi => by
    obtain ⟨h1, v, h2, h3⟩ := h.cells r row x hr hx i c hi
    exact ⟨h1, v, by rw [hc r row x hr hx i (List.getElem?_eq_some_iff.1 hi).1, h2], h3⟩
  own := fun r row x hr hown hx => by
    obtain ⟨h1, h2, h3⟩ := h.own r row x hr hown hx
    exact ⟨h1, h2, fun hn => ⟨(h3 hn).1, ho r row x hr hown hx hn⟩⟩
  dist := h.dist
  room := h.room

theorem Sim.drew (h : Sim B ex ρ H w) : Sim B ex ρ H w.drew :=
  h.of_cells (fun _ _ _ _ _ _ _ => rfl) (fun r row x hr ho hx hn => ((h.own r row x hr ho hx).2.2 hn).2)

/-- A row that nobody may use any more. -/
theorem Sim.kill (h : Sim B ex ρ H w) (r : Nat) : Sim B ex ρ (H.set r none) w := by
  rcases Nat.lt_or_ge r H.length with hr | hr
  case inr => rw [List.set_eq_of_length_le (by omega)]; exact h
  have key : ∀ r' row, rowAt (H.set r none) r' = some row → rowAt H r' = some row := fun r' row he => by
    rw [rowAt_set hr] at he
    by_cases e : r' = r
    · simp [e] at he
    · simpa [e] using he
  exact ⟨fun r' hr' => h.dom r' (by simpa using hr'), fun r' row he => h.has r' row (key _ _ he), fun r' row x he => h.cells r' row x (key _ _ he),
    fun r' row x he => h.own r' row x (key _ _ he), fun r1 r2 a b x y h1 h2 => h.dist r1 r2 a b x y (key _ _ h1) (key _ _ h2), fun r' row x he => h.room r' row x (key _ _ he)⟩

/-- A new row, at a place that is told. -/
theorem Sim.push (h : Sim B ex ρ H w) (row : ARow) (x : Loc)
    (hc : ∀ i c, row.cells[i]? = some c → c.cell = true ∧ ∃ v, w.cell? ⟨x.b, x.d + i, none⟩ = some v ∧ VRel ρ c v)
    (ho : row.own = true → x.d + row.cells.length ≤ x.n ∧ (row.slack = false → x.d + row.cells.length = x.n) ∧
      (x.n ≠ 0 → (B ≤ x.b ∨ ex x.b) ∧ (∃ C e fr, w.heap[x.b]? = some (.cells C e fr) ∧ C.size = x.n) ∧ ∀ i, i < x.n → w.frozen? ⟨x.b, i, none⟩ = false))
    (hd : ∀ r' row' x', rowAt H r' = some row' → ρ r' = some x' → (row.own = true ∨ row.cells ≠ []) → (row'.own = true ∨ row'.cells ≠ []) → (row.own = true ∨ row'.own = true) → x.n ≠ 0 → x'.n ≠ 0 → x.b ≠ x'.b)
    (hn : row.cells ≠ [] → x.n ≠ 0) : Sim B ex (ρ.put H.length x) (H ++ [some row]) w := by
  have h0 : ρ H.length = none := h.dom _ (Nat.le_refl _)
  have hl := RMap.le_put (x := x) h0
  have old : ∀ {r y}, r ≠ H.length → (ρ.put H.length x) r = some y → ρ r = some y := fun hr hy => by
    simpa [RMap.put, hr] using hy
  have new : ∀ {y}, (ρ.put H.length x) H.length = some y → y = x := fun hy => by
    simpa [RMap.put] using hy.symm
  refine ⟨fun r hr => ?_, fun r row' hr => ?_, fun r row' y hr hy i c hi => ?_, fun r row' y hr ho' hy => ?_, ?_, ?_⟩
  · simp only [List.length_append, List.length_singleton] at hr
    simp only [RMap.put]; rw [if_neg (by omega)]; exact h.dom r (by omega)
  · rw [rowAt_append] at hr
    by_cases e : r = H.length
    · exact ⟨x, by simp [RMap.put, e]⟩
    · simp only [e, if_false] at hr
      obtain ⟨y, hy⟩ := h.has r row' hr
      exact ⟨y, hl _ _ hy⟩
  · rw [rowAt_append] at hr
    by_cases e : r = H.length
    · subst e; simp at hr; subst hr
      obtain rfl := new hy
      obtain ⟨h1, v, h2, h3⟩ := hc i c hi
      exact ⟨h1, v, h2, h3.mono hl⟩
    · simp only [e, if_false] at hr
      obtain ⟨h1, v, h2, h3⟩ := h.cells r row' y hr (old e hy) i c hi
      exact ⟨h1, v, h2, h3.mono hl⟩
  · rw [rowAt_append] at hr
    by_cases e : r = H.length
    · subst e; simp at hr; subst hr
      obtain rfl := new hy
      exact ho ho'
    · simp only [e, if_false] at hr
      exact h.own r row' y hr ho' (old e hy)
  · intro r1 r2 a b y z h1 h2 h3 h4 h5 hy hz ny nz
    rw [rowAt_append] at h1 h2
    by_cases e1 : r1 = H.length
    · subst e1
      have e2 : r2 ≠ H.length := fun e => h4 e.symm
      simp at h1; subst h1
      simp only [e2, if_false] at h2
      obtain rfl := new hy
      exact hd r2 b z h2 (old e2 hz) (.inl h3) h5 (.inl h3) ny nz
    · simp only [e1, if_false] at h1
      by_cases e2 : r2 = H.length
      · subst e2; simp at h2; subst h2
        obtain rfl := new hz
        exact fun e => hd r1 a y h1 (old e1 hy) h5 (.inl h3) (.inr h3) nz ny e.symm
      · simp only [e2, if_false] at h2
        exact h.dist r1 r2 a b y z h1 h2 h3 h4 h5 (old e1 hy) (old e2 hz) ny nz
  · intro r row' y hr hy hne
    rw [rowAt_append] at hr
    by_cases e : r = H.length
    · subst e; simp at hr; subst hr
      obtain rfl := new hy
      exact hn hne
    · simp only [e, if_false] at hr
      exact h.room r row' y hr (old e hy) hne

theorem Sim.old_lt (h : Sim B ex ρ H w) {r row x} (hr : rowAt H r = some row) (hx : ρ r = some x) (hne : row.own = true ∨ row.cells ≠ []) (hn : x.n ≠ 0) : x.b < w.heap.size := by
  by_cases hc : row.cells = []
  · have ho : row.own = true := hne.resolve_right (fun k => k hc)
    obtain ⟨C, e, fr, hb, _⟩ := ((h.own r row x hr ho hx).2.2 hn).2.1
    exact (Array.getElem?_eq_some_iff.1 hb).1
  · obtain ⟨c, l, e⟩ := List.exists_cons_of_ne_nil hc
    obtain ⟨_, v, h2, _⟩ := h.cells r row x hr hx 0 c (by simp [e])
    exact lt_of_cell h2

/-- A new block. -/
theorem Sim.alloc (h : Sim B ex ρ H w) (hB : B ≤ w.heap.size) (slack : Bool) (cells : List AV) (C : Array Value) (e : TypeId) (hcell : ∀ c ∈ cells, c.cell = true)
    (hrel : VRelL ρ cells (C.toList.take cells.length)) (hs : slack = false → cells.length = C.size) :
    Sim B ex (ρ.put H.length ⟨w.heap.size, 0, C.size⟩) (H ++ [some ⟨true, slack, cells⟩]) (w.alloc (.cells C e)) := by
  have hle : cells.length ≤ C.size := by
    have := VRelL.length hrel
    simp at this; omega
  have h1 : Sim B ex ρ H (w.alloc (.cells C e)) := by
    refine h.of_cells (fun r row x hr hx i hi => ?_) (fun r row x hr ho hx hn => ?_)
    · have hne : row.cells ≠ [] := by intro e0; rw [e0] at hi; simp at hi
      have := h.old_lt hr hx (.inr hne) (h.room r row x hr hx hne)
      exact World.cell?_alloc_lt _ _ _ this
    · have hlt := h.old_lt hr hx (.inl ho) hn
      obtain ⟨_, ⟨C', e', fr', hb, hsz⟩, hf⟩ := (h.own r row x hr ho hx).2.2 hn
      refine ⟨⟨C', e', fr', ?_, hsz⟩, fun i hi => ?_⟩
      · rw [RowKit.Below.heap_alloc _ _ _ hlt]; exact hb
      · rw [World.frozen?_alloc_old _ _ _ (by simp; omega)]; exact hf i hi
  have hnew : (w.alloc (.cells C e)).heap[w.heap.size]? = some (.cells C e (0, 0)) := by
    show (w.heap.push _)[w.heap.size]? = _
    simp
  refine h1.push ⟨true, slack, cells⟩ ⟨w.heap.size, 0, C.size⟩ (fun i c hi => ?_) (fun _ => ?_) (fun r' row' x' hr' hx' _ hne _ _ hn' => ?_) (fun hne => ?_)
  · refine ⟨hcell c (List.mem_of_getElem? hi), ?_⟩
    obtain ⟨v, hv, hr⟩ := VRelL.get hrel hi
    refine ⟨v, ?_, hr⟩
    rw [cell_of_block hnew]
    have hi' := (List.getElem?_eq_some_iff.1 hi).1
    rw [List.getElem?_take_of_lt hi'] at hv
    simpa using hv
  · refine ⟨by simpa using hle, fun hk => by simpa using hs hk, fun _ => ⟨.inl hB, ⟨C, e, (0,0), hnew, rfl⟩, fun i _ => ?_⟩⟩
    simp
  · have := h.old_lt hr' hx' hne hn'
    simp; omega
  · have hl : 0 < cells.length := List.length_pos_iff.2 hne
    show C.size ≠ 0
    omega

/-- Cells of an own row are written. -/
theorem Sim.write (h : Sim B ex ρ H w) {r : Nat} {row : ARow} {x : Loc} (hr : rowAt H r = some row) (ho : row.own = true) (hx : ρ r = some x) (i : Nat) (cs : List AV) (vs : List Value)
    (hcell : ∀ c ∈ cs, c.cell = true) (hrel : VRelL ρ cs vs) (hfit : i + cs.length ≤ row.cells.length) :
    Sim B ex ρ (H.set r (some { row with cells := row.cells.take i ++ cs ++ row.cells.drop (i + cs.length) })) (w.setCells x.b (x.d + i) vs) := by
  have hlen := VRelL.length hrel
  have hrl := rowAt_lt hr
  obtain ⟨o1, o2, o3⟩ := h.own r row x hr ho hx
  have hcl : (row.cells.take i ++ cs ++ row.cells.drop (i + cs.length)).length = row.cells.length := by simp; omega
  have hex : ∀ j, j < vs.length → (w.cell? ⟨x.b, x.d + i + j, none⟩).isSome = true := fun j hj => by
    have hj' : i + j < row.cells.length := by omega
    obtain ⟨_, v, hv, _⟩ := h.cells r row x hr hx (i + j) row.cells[i + j] (by simp [hj'])
    rw [Nat.add_assoc, hv]; rfl
  have apart : ∀ {r' row' x'}, rowAt H r' = some row' → ρ r' = some x' → r' ≠ r → row'.cells ≠ [] → vs ≠ [] → x'.b ≠ x.b := fun {r' row' x'} h1 h2 h3 h4 h5 => by
    have hn : x.n ≠ 0 := by
      have : 0 < vs.length := List.length_pos_iff.2 h5
      omega
    exact (h.dist r r' row row' x x' hr h1 ho (Ne.symm h3) (.inr h4) hx h2 hn (h.room _ _ _ h1 h2 h4)).symm
  have key : ∀ r' row', rowAt (H.set r (some { row with cells := row.cells.take i ++ cs ++ row.cells.drop (i + cs.length) })) r' = some row' → (r' = r ∧ row' = { row with cells := row.cells.take i ++ cs ++ row.cells.drop (i + cs.length) }) ∨ (r' ≠ r ∧ rowAt H r' = some row') := fun r' row' he => by
    rw [rowAt_set hrl] at he
    by_cases e : r' = r
    · simp only [e, if_true, Option.some.injEq] at he; exact .inl ⟨e, he.symm⟩
    · simp only [e, if_false] at he; exact .inr ⟨e, he⟩
  refine ⟨fun r' hr' => h.dom r' (by simpa using hr'), fun r' row' he => ?_, fun r' row' y he hy j c hj => ?_, fun r' row' y he ho' hy => ?_, ?_, ?_⟩
  · rcases key _ _ he with ⟨e1, _⟩ | ⟨_, e2⟩
    · exact ⟨x, by rw [e1]; exact hx⟩
    · exact h.has r' row' e2
  · rcases key _ _ he with ⟨e1, e2⟩ | ⟨e1, e2⟩
    · subst e1; subst e2
      obtain rfl : x = y := Option.some.inj (hx.symm.trans hy)
      simp only at hj
      by_cases ha : j < i
      · have hj0 : row.cells[j]? = some c := by
          rw [List.append_assoc, List.getElem?_append_left (by simp; omega), List.getElem?_take_of_lt ha] at hj; exact hj
        obtain ⟨h1, v, h2, h3⟩ := h.cells r' row x hr hx j c hj0
        refine ⟨h1, v, ?_, h3⟩
        rw [World.cell?_setCells_out _ _ _ _ _ (fun _ _ => .inl (by simp; omega))]; exact h2
      · by_cases hb : j < i + cs.length
        · have hj0 : cs[j - i]? = some c := by
            rw [List.append_assoc, List.getElem?_append_right (by simp; omega), List.getElem?_append_left (by simp; omega)] at hj
            simpa [Nat.min_eq_left (show i ≤ row.cells.length by omega)] using hj
          obtain ⟨v, hv, hrv⟩ := VRelL.get hrel hj0
          refine ⟨hcell c (List.mem_of_getElem? hj0), v, ?_, hrv⟩
          obtain ⟨hl, hv'⟩ := List.getElem?_eq_some_iff.1 hv
          have := World.cell?_setCells_in x.b vs (x.d + i) w hex (j - i) hl
          rw [show x.d + i + (j - i) = x.d + j by omega, hv'] at this
          exact this
        · have hj0 : row.cells[j]? = some c := by
            rw [List.getElem?_append_right (by simp; omega)] at hj
            simp only [List.length_append, List.length_take, List.getElem?_drop] at hj
            rw [show i + cs.length + (j - (min i row.cells.length + cs.length)) = j by omega] at hj
            exact hj
          obtain ⟨h1, v, h2, h3⟩ := h.cells r' row x hr hx j c hj0
          refine ⟨h1, v, ?_, h3⟩
          rw [World.cell?_setCells_out _ _ _ _ _ (fun _ _ => .inr (by simp; omega))]; exact h2
    · obtain ⟨h1, v, h2, h3⟩ := h.cells r' row' y e2 hy j c hj
      refine ⟨h1, v, ?_, h3⟩
      by_cases hv : vs = []
      · subst hv; exact h2
      · have hne : row'.cells ≠ [] := by intro e0; rw [e0] at hj; simp at hj
        rw [World.cell?_setCells_out _ _ _ _ _ (fun e _ => absurd e (apart e2 hy e1 hne hv))]; exact h2
  · have keep : ∀ y : Loc, y.n ≠ 0 → ((B ≤ y.b ∨ ex y.b) ∧ (∃ C e fr, w.heap[y.b]? = some (.cells C e fr) ∧ C.size = y.n) ∧ ∀ i, i < y.n → w.frozen? ⟨y.b, i, none⟩ = false) →
        ((B ≤ y.b ∨ ex y.b) ∧ (∃ C e fr, (w.setCells x.b (x.d + i) vs).heap[y.b]? = some (.cells C e fr) ∧ C.size = y.n) ∧ ∀ k, k < y.n → (w.setCells x.b (x.d + i) vs).frozen? ⟨y.b, k, none⟩ = false) := fun y _ ⟨k1, ⟨C, e, fr, k2, k3⟩, k4⟩ => by
      refine ⟨k1, ?_, fun k hk => by rw [World.frozen?_setCells]; exact k4 k hk⟩
      by_cases hb : y.b = x.b
      · obtain ⟨C', c1, c2⟩ := block_setCells x.b vs (x.d + i) w (hb ▸ k2)
        exact ⟨C', e, fr, by rw [hb]; exact c1, by omega⟩
      · exact ⟨C, e, fr, by rw [heap_setCells _ _ _ _ _ hb]; exact k2, k3⟩
    rcases key _ _ he with ⟨e1, e2⟩ | ⟨e1, e2⟩
    · subst e1; subst e2
      obtain rfl : x = y := Option.some.inj (hx.symm.trans hy)
      simp only
      rw [hcl]
      exact ⟨o1, o2, fun hn => keep x hn (o3 hn)⟩
    · obtain ⟨k1, k2, k3⟩ := h.own r' row' y e2 ho' hy
      exact ⟨k1, k2, fun hn => keep y hn (k3 hn)⟩
  · intro r1 r2 a b y z h1 h2 h3 h4 h5 hy hz
    have h1' : ∃ a', rowAt H r1 = some a' ∧ a'.own = true := by
      rcases key _ _ h1 with ⟨e1, e2⟩ | ⟨e1, e2⟩
      · exact ⟨row, by rw [e1]; exact hr, ho⟩
      · exact ⟨a, e2, h3⟩
    have h2' : ∃ b', rowAt H r2 = some b' ∧ (b'.own = true ∨ b'.cells ≠ []) := by
      rcases key _ _ h2 with ⟨e1, e2⟩ | ⟨e1, e2⟩
      · exact ⟨row, by rw [e1]; exact hr, .inl ho⟩
      · exact ⟨b, e2, h5⟩
    obtain ⟨a', ha, ha'⟩ := h1'
    obtain ⟨b', hb, hb'⟩ := h2'
    exact h.dist r1 r2 a' b' y z ha hb ha' h4 hb' hy hz
  · intro r' row' y he hy hne
    rcases key _ _ he with ⟨e1, e2⟩ | ⟨e1, e2⟩
    · subst e1; subst e2
      refine h.room r' row y hr hy (fun e0 => hne ?_)
      have : row.cells.length = 0 := by rw [e0]; rfl
      exact List.length_eq_zero_iff.1 (by rw [hcl]; exact this)
    · exact h.room r' row' y e2 hy hne

end Go.Vh
