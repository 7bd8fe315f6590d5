/- A virtual heap: values with rows in place of blocks, and what it means that a world holds them. -/
import Derived.Calls
import Derived.RowKit3
import Derived.Below
import Derived.Laws.Cells
import Derived.Laws.Sem
import Derived.Laws.World
import Derived.Laws.IdiomCopy
import Derived.Laws.Append
import Derived.WalkKit
import Derived.WalkSpells
import Derived.WalkLawsBesides
import Derived.Laws.Externs
set_option linter.unusedSimpArgs false
set_option linter.unusedVariables false
namespace Go.Vh
open Go

/-- A virtual value: an address is a row and an offset. -/
inductive AV where
  | any
  | bool (b : Bool)
  | int (k : IntKind) (n : Int)
  | str (s : ByteArray)
  | lit (v : Value)
  | nilptr
  | ptr (r off : Nat)
  | nilslice
  | slice (r off len cap : Nat)
  | sliceU (r off len sz : Nat)
  | func (f : FuncId) (captured : List AV)
  | bound (f : FuncId) (first captured : List AV)
  | agg (l : List AV)
  | tuple (l : List AV)
  | iface (t : TypeId) (v : AV)
  | yld (r : Nat)
  deriving Inhabited

/-- A row: cells that are known. 'own': nobody else reaches its block; 'slack': its block may go on behind them. -/
structure ARow where
  own : Bool
  slack : Bool
  cells : List AV
  deriving Inhabited

abbrev AHeap := List (Option ARow)
abbrev St := Nat → AV

/-- Where a row lies: the block, the offset of its first cell, the size of the block. -/
structure Loc where
  b : Nat
  d : Nat
  n : Nat

abbrev RMap := Nat → Option Loc

def RMap.le (ρ ρ' : RMap) : Prop := ∀ r x, ρ r = some x → ρ' r = some x
theorem RMap.le_refl (ρ : RMap) : ρ.le ρ := fun _ _ h => h
theorem RMap.le_trans {ρ ρ' ρ'' : RMap} (h : ρ.le ρ') (h' : ρ'.le ρ'') : ρ.le ρ'' := fun r x e => h' r x (h r x e)

mutual
inductive VRel (ρ : RMap) : AV → Value → Prop
  | any (v) : VRel ρ .any v
  | bool (b) : VRel ρ (.bool b) (.bool b)
  | int (k n) : VRel ρ (.int k n) (.int k n)
  | str (s) : VRel ρ (.str s) (.string s)
  | lit (v) : VRel ρ (.lit v) v
  | nilptr : VRel ρ .nilptr (.pointer none)
  | ptr (r off x) : ρ r = some x → VRel ρ (.ptr r off) (.pointer (some ⟨x.b, x.d + off, none⟩))
  | nilslice : VRel ρ .nilslice (.slice none 0 0)
  | slice (r off len cap x) : ρ r = some x → len ≤ cap → VRel ρ (.slice r off len cap) (.slice (some ⟨x.b, x.d + off, none⟩) len cap)
  | slice0 (r off a) : VRel ρ (.slice r off 0 0) (.slice a 0 0)
  | sliceU (r off len sz cap x) : ρ r = some x → len ≤ cap → x.d + off + cap * sz ≤ x.n → VRel ρ (.sliceU r off len sz) (.slice (some ⟨x.b, x.d + off, none⟩) len cap)
  | sliceU0 (r off sz a) : VRel ρ (.sliceU r off 0 sz) (.slice a 0 0)
  | func (f l cs) : VRelL ρ l cs.toList → VRel ρ (.func f l) (.func (.func f) #[] cs)
  | bound (f k l fs cs) : VRelL ρ k fs.toList → VRelL ρ l cs.toList → VRel ρ (.bound f k l) (.func (.func f) fs cs)
  | agg (l cs) : VRelL ρ l cs.toList → VRel ρ (.agg l) (.agg cs)
  | tuple (l cs) : VRelL ρ l cs.toList → VRel ρ (.tuple l) (.tuple cs)
  | iface (t a v) : VRel ρ a v → VRel ρ (.iface t a) (.iface t v)
  | yld (r x) : ρ r = some x → VRel ρ (.yld r) (.func (.yield x.b) #[] #[])
inductive VRelL (ρ : RMap) : List AV → List Value → Prop
  | nil : VRelL ρ [] []
  | cons (a v l vs) : VRel ρ a v → VRelL ρ l vs → VRelL ρ (a :: l) (v :: vs)
end

mutual
theorem VRel.mono {ρ ρ' : RMap} (hl : ρ.le ρ') : ∀ {a v}, VRel ρ a v → VRel ρ' a v
  | _, _, .any v => .any v
  | _, _, .bool b => .bool b
  | _, _, .int k n => .int k n
  | _, _, .str s => .str s
  | _, _, .lit v => .lit v
  | _, _, .nilptr => .nilptr
  | _, _, .ptr r off x h => .ptr r off x (hl _ _ h)
  | _, _, .nilslice => .nilslice
  | _, _, .slice r off len cap x h h1 => .slice r off len cap x (hl _ _ h) h1
  | _, _, .slice0 r off a => .slice0 r off a
  | _, _, .sliceU r off len sz cap x h h1 h2 => .sliceU r off len sz cap x (hl _ _ h) h1 h2
  | _, _, .sliceU0 r off sz a => .sliceU0 r off sz a
  | _, _, .func f l cs h => .func f l cs (VRelL.mono hl h)
  | _, _, .bound f k l fs cs h h' => .bound f k l fs cs (VRelL.mono hl h) (VRelL.mono hl h')
  | _, _, .agg l cs h => .agg l cs (VRelL.mono hl h)
  | _, _, .tuple l cs h => .tuple l cs (VRelL.mono hl h)
  | _, _, .iface t a v h => .iface t a v (VRel.mono hl h)
  | _, _, .yld r x h => .yld r x (hl _ _ h)
theorem VRelL.mono {ρ ρ' : RMap} (hl : ρ.le ρ') : ∀ {l vs}, VRelL ρ l vs → VRelL ρ' l vs
  | _, _, .nil => .nil
  | _, _, .cons a v l vs h t => .cons a v l vs (VRel.mono hl h) (VRelL.mono hl t)
end

theorem VRelL.length {ρ : RMap} : ∀ {l : List AV} {vs : List Value}, VRelL ρ l vs → l.length = vs.length
  | _, _, .nil => rfl
  | _, _, .cons _ _ _ _ _ t => by simp [VRelL.length t]
theorem VRelL.get {ρ : RMap} : ∀ {l : List AV} {vs : List Value}, VRelL ρ l vs → ∀ {i : Nat} {a : AV}, l[i]? = some a → ∃ v, vs[i]? = some v ∧ VRel ρ a v
  | _, _, .nil, i, a, h => by simp at h
  | _, _, .cons a0 v l vs h0 t, 0, a, h => by simp at h; subst h; exact ⟨v, rfl, h0⟩
  | _, _, .cons a0 v l vs h0 t, i+1, a, h => by simp at h ⊢; exact VRelL.get t h
theorem VRelL.append {ρ : RMap} : ∀ {l : List AV} {vs : List Value} {l' vs'}, VRelL ρ l vs → VRelL ρ l' vs' → VRelL ρ (l ++ l') (vs ++ vs')
  | _, _, _, _, .nil, h => h
  | _, _, _, _, .cons a v l vs h0 t, h => .cons a v _ _ h0 (VRelL.append t h)

/-! ### The heap -/
def rowAt (H : AHeap) (r : Nat) : Option ARow := (H[r]?).getD none

theorem rowAt_some {H : AHeap} {r : Nat} {row : ARow} : rowAt H r = some row ↔ H[r]? = some (some row) := by
  unfold rowAt
  cases h : H[r]? with
  | none => simp
  | some o => simp

/-- A value that one cell may hold. -/
def AV.cell : AV → Bool
  | .any | .agg _ | .tuple _ => false
  | .lit (.agg _) | .lit (.tuple _) => false
  | _ => true

/-- 'B': blocks from there on are the call's own; 'ex': older ones that it may write. A row whose location has the size 0 lies nowhere. -/
structure Sim (B : Nat) (ex : Nat → Prop) (ρ : RMap) (H : AHeap) (w : World) : Prop where
  dom : ∀ r, H.length ≤ r → ρ r = none
  has : ∀ r row, rowAt H r = some row → ∃ x, ρ r = some x
  cells : ∀ r row x, rowAt H r = some row → ρ r = some x → ∀ i c, row.cells[i]? = some c → c.cell = true ∧ ∃ v, w.cell? ⟨x.b, x.d + i, none⟩ = some v ∧ VRel ρ c v
  own : ∀ r row x, rowAt H r = some row → row.own = true → ρ r = some x →
    x.d + row.cells.length ≤ x.n ∧ (row.slack = false → x.d + row.cells.length = x.n) ∧
    (x.n ≠ 0 → (B ≤ x.b ∨ ex x.b) ∧ (∃ C e fr, w.heap[x.b]? = some (.cells C e fr) ∧ C.size = x.n) ∧ ∀ i, i < x.n → w.frozen? ⟨x.b, i, none⟩ = false)
  dist : ∀ r r' row row' x x', rowAt H r = some row → rowAt H r' = some row' → row.own = true → r ≠ r' → (row'.own = true ∨ row'.cells ≠ []) →
    ρ r = some x → ρ r' = some x' → x.n ≠ 0 → x'.n ≠ 0 → x.b ≠ x'.b
  room : ∀ r row x, rowAt H r = some row → ρ r = some x → row.cells ≠ [] → x.n ≠ 0

/-- What a call has done to what stood before it. -/
structure Frm (B : Nat) (ex : Nat → Prop) (w w' : World) : Prop where
  os : w'.os = w.os
  tape : w'.tape = w.tape
  output : w'.output = w.output
  size : w.heap.size ≤ w'.heap.size
  block : ∀ k, k < B → ¬ ex k → w'.heap[k]? = w.heap[k]?

theorem Frm.refl {B ex w} : Frm B ex w w := ⟨rfl, rfl, rfl, Nat.le_refl _, fun _ _ _ => rfl⟩
theorem Frm.trans {B ex w w' w''} (h : Frm B ex w w') (h' : Frm B ex w' w'') : Frm B ex w w'' :=
  ⟨h'.os.trans h.os, h'.tape.trans h.tape, h'.output.trans h.output, Nat.le_trans h.size h'.size, fun k hk he => (h'.block k hk he).trans (h.block k hk he)⟩

/-- The state of an activation. -/
structure Inv (w0 : World) (ex : Nat → Prop) (ρ : RMap) (H : AHeap) (w : World) : Prop where
  sim : Sim w0.heap.size ex ρ H w
  frm : Frm w0.heap.size ex w0 w

/-- A temporary's value; from 1048576 on: where the package's variables lie. -/
def tv (a : Act) (t : Nat) : Value := if t < 1048576 then a.tmps.getD t undef else .pointer (some ⟨t - 1048576, 0, none⟩)
theorem tv_lt {a : Act} {t : Nat} (h : t < 1048576) : tv a t = a.tmps.getD t undef := by unfold tv; rw [if_pos h]
theorem tv_glob {a : Act} {g : Nat} : tv a (1048576 + g) = .pointer (some ⟨g, 0, none⟩) := by
  unfold tv; rw [if_neg (by omega), Nat.add_sub_cancel_left]

def SRel (ρ : RMap) (s : St) (a : Act) : Prop := ∀ t, VRel ρ (s t) (tv a t)

def upd (s : St) (d : Nat) (v : AV) : St := fun t => if t = d then v else s t

theorem SRel.put {ρ : RMap} {s : St} {a : Act} (h : SRel ρ s a) {d : Nat} (hd : d < a.tmps.size) (hG : a.tmps.size ≤ 1048576) {v : AV} {v' : Value} (hv : VRel ρ v v') :
    SRel ρ (upd s d v) (a.put (some d) v') := by
  intro t
  by_cases ht : t = d
  · subst ht
    rw [tv_lt (by omega)]
    simp [Act.put, upd, hd, hv]
  · have := h t
    simp only [upd, if_neg ht]
    unfold tv at this ⊢
    by_cases hG' : t < 1048576
    · rw [if_pos hG'] at this ⊢
      have e : (a.tmps.setIfInBounds d v').getD t undef = a.tmps.getD t undef := by
        simp only [Array.getD_eq_getD_getElem?]
        rw [Array.getElem?_setIfInBounds_ne (Ne.symm ht)]
      show VRel ρ (s t) ((a.tmps.setIfInBounds d v').getD t undef)
      rw [e]; exact this
    · rw [if_neg hG'] at this ⊢
      exact this

theorem SRel.mono {ρ ρ' : RMap} {s : St} {a : Act} (hl : ρ.le ρ') (h : SRel ρ s a) : SRel ρ' s a := fun t => (h t).mono hl

end Go.Vh


/- The virtual heap: what a new block, a store, an append does to 'Sim'. -/
namespace Go.Vh
open Go

/-! ### worlds -/
theorem heap_setCells (b : Nat) : ∀ (vs : List Value) (o : Nat) (w : World) (k : Nat), k ≠ b → (w.setCells b o vs).heap[k]? = w.heap[k]?
  | [], _, _, _, _ => rfl
  | v :: r, o, w, k, h => by
    rw [World.setCells, heap_setCells b r _ _ _ h]
    exact RowKit.Below.heap_setCell _ _ _ _ h
theorem size_setCells (b : Nat) : ∀ (vs : List Value) (o : Nat) (w : World), (w.setCells b o vs).heap.size = w.heap.size
  | [], _, _ => rfl
  | v :: r, o, w => by rw [World.setCells, size_setCells b r]; simp
theorem os_setCells (b : Nat) : ∀ (vs : List Value) (o : Nat) (w : World), (w.setCells b o vs).os = w.os ∧ (w.setCells b o vs).tape = w.tape ∧ (w.setCells b o vs).output = w.output
  | [], _, _ => ⟨rfl, rfl, rfl⟩
  | v :: r, o, w => by rw [World.setCells]; obtain ⟨h1, h2, h3⟩ := os_setCells b r (o+1) (w.setCell ⟨b, o, none⟩ v); exact ⟨h1, h2, h3⟩
theorem block_setCell (w : World) (b o : Nat) (v : Value) {C e fr} (h : w.heap[b]? = some (.cells C e fr)) : ∃ C', (w.setCell ⟨b, o, none⟩ v).heap[b]? = some (.cells C' e fr) ∧ C'.size = C.size := by
  refine ⟨C.setIfInBounds o v, ?_, by simp⟩
  simp [World.setCell, Array.getElem?_modify, h]
theorem block_setCells (b : Nat) : ∀ (vs : List Value) (o : Nat) (w : World) {C : Array Value} {e fr}, w.heap[b]? = some (.cells C e fr) → ∃ C', (w.setCells b o vs).heap[b]? = some (.cells C' e fr) ∧ C'.size = C.size
  | [], _, _, C, _, _, h => ⟨C, h, rfl⟩
  | v :: r, o, w, C, e, fr, h => by
    obtain ⟨C1, h1, s1⟩ := block_setCell w b o v h
    obtain ⟨C2, h2, s2⟩ := block_setCells b r (o+1) _ h1
    exact ⟨C2, h2, s2.trans s1⟩
theorem cell_of_block {w : World} {b : Nat} {C : Array Value} {e fr} (h : w.heap[b]? = some (.cells C e fr)) (i : Nat) : w.cell? ⟨b, i, none⟩ = C[i]? := by
  simp [World.cell?, h]
theorem lt_of_cell {w : World} {b o : Nat} {v : Value} (h : w.cell? ⟨b, o, none⟩ = some v) : b < w.heap.size := by
  have := World.block_lt_of_cell? (w := w) (a := ⟨b, o, none⟩) (u := v) h
  exact this

/-! ### rows of a heap -/
theorem rowAt_append {H : AHeap} {o : Option ARow} {r : Nat} : rowAt (H ++ [o]) r = if r = H.length then o else rowAt H r := by
  unfold rowAt
  by_cases h : r = H.length
  · subst h; simp
  · rw [if_neg h]
    rcases Nat.lt_or_ge r H.length with h' | h'
    · rw [List.getElem?_append_left h']
    · rw [List.getElem?_eq_none (by simp; omega), List.getElem?_eq_none h']
theorem rowAt_set {H : AHeap} {o : Option ARow} {r r' : Nat} (hr : r < H.length) : rowAt (H.set r o) r' = if r' = r then o else rowAt H r' := by
  unfold rowAt
  by_cases h : r' = r
  · subst h; simp [hr]
  · rw [if_neg h, List.getElem?_set_ne (Ne.symm h)]
theorem rowAt_lt {H : AHeap} {r : Nat} {row : ARow} (h : rowAt H r = some row) : r < H.length := by
  rcases Nat.lt_or_ge r H.length with h' | h'
  · exact h'
  · simp [rowAt, List.getElem?_eq_none h'] at h

def RMap.put (ρ : RMap) (r : Nat) (x : Loc) : RMap := fun r' => if r' = r then some x else ρ r'
theorem RMap.le_put {ρ : RMap} {r : Nat} {x : Loc} (h : ρ r = none) : ρ.le (ρ.put r x) := fun r' y hy => by
  unfold RMap.put
  by_cases e : r' = r
  · subst e; rw [h] at hy; cases hy
  · rw [if_neg e]; exact hy
theorem RMap.put_same {ρ : RMap} {r : Nat} {x : Loc} : ρ.put r x r = some x := by simp [RMap.put]

variable {B : Nat} {ex : Nat → Prop} {ρ : RMap} {H : AHeap} {w : World}

/-- The cells of a row are where they are, also if the world has changed elsewhere. -/
theorem Sim.of_cells (h : Sim B ex ρ H w) {w' : World} (hc : ∀ r row x, rowAt H r = some row → ρ r = some x → ∀ i, i < row.cells.length → w'.cell? ⟨x.b, x.d + i, none⟩ = w.cell? ⟨x.b, x.d + i, none⟩)
    (ho : ∀ r row x, rowAt H r = some row → row.own = true → ρ r = some x → x.n ≠ 0 → (∃ C e fr, w'.heap[x.b]? = some (.cells C e fr) ∧ C.size = x.n) ∧ ∀ i, i < x.n → w'.frozen? ⟨x.b, i, none⟩ = false) : Sim B ex ρ H w' where
  dom := h.dom
  has := h.has
  cells := fun r row x hr hx i c hi => by
    obtain ⟨h1, v, h2, h3⟩ := h.cells r row x hr hx i c hi
    exact ⟨h1, v, by rw [hc r row x hr hx i (List.getElem?_eq_some_iff.1 hi).1, h2], h3⟩
  own := fun r row x hr hown hx => by
    obtain ⟨h1, h2, h3⟩ := h.own r row x hr hown hx
    exact ⟨h1, h2, fun hn => ⟨(h3 hn).1, ho r row x hr hown hx hn⟩⟩
  dist := h.dist
  room := h.room

theorem Sim.drew (h : Sim B ex ρ H w) : Sim B ex ρ H w.drew :=
  h.of_cells (fun _ _ _ _ _ _ _ => rfl) (fun r row x hr ho hx hn => ((h.own r row x hr ho hx).2.2 hn).2)

/-- A row that nobody may use any more. -/
theorem Sim.kill (h : Sim B ex ρ H w) (r : Nat) : Sim B ex ρ (H.set r none) w := by
  rcases Nat.lt_or_ge r H.length with hr | hr
  case inr => rw [List.set_eq_of_length_le (by omega)]; exact h
  have key : ∀ r' row, rowAt (H.set r none) r' = some row → rowAt H r' = some row := fun r' row he => by
    rw [rowAt_set hr] at he
    by_cases e : r' = r
    · simp [e] at he
    · simpa [e] using he
  exact ⟨fun r' hr' => h.dom r' (by simpa using hr'), fun r' row he => h.has r' row (key _ _ he), fun r' row x he => h.cells r' row x (key _ _ he),
    fun r' row x he => h.own r' row x (key _ _ he), fun r1 r2 a b x y h1 h2 => h.dist r1 r2 a b x y (key _ _ h1) (key _ _ h2), fun r' row x he => h.room r' row x (key _ _ he)⟩

/-- A new row, at a place that is told. -/
theorem Sim.push (h : Sim B ex ρ H w) (row : ARow) (x : Loc)
    (hc : ∀ i c, row.cells[i]? = some c → c.cell = true ∧ ∃ v, w.cell? ⟨x.b, x.d + i, none⟩ = some v ∧ VRel ρ c v)
    (ho : row.own = true → x.d + row.cells.length ≤ x.n ∧ (row.slack = false → x.d + row.cells.length = x.n) ∧
      (x.n ≠ 0 → (B ≤ x.b ∨ ex x.b) ∧ (∃ C e fr, w.heap[x.b]? = some (.cells C e fr) ∧ C.size = x.n) ∧ ∀ i, i < x.n → w.frozen? ⟨x.b, i, none⟩ = false))
    (hd : ∀ r' row' x', rowAt H r' = some row' → ρ r' = some x' → (row.own = true ∨ row.cells ≠ []) → (row'.own = true ∨ row'.cells ≠ []) → (row.own = true ∨ row'.own = true) → x.n ≠ 0 → x'.n ≠ 0 → x.b ≠ x'.b)
    (hn : row.cells ≠ [] → x.n ≠ 0) : Sim B ex (ρ.put H.length x) (H ++ [some row]) w := by
  have h0 : ρ H.length = none := h.dom _ (Nat.le_refl _)
  have hl := RMap.le_put (x := x) h0
  have old : ∀ {r y}, r ≠ H.length → (ρ.put H.length x) r = some y → ρ r = some y := fun hr hy => by
    simpa [RMap.put, hr] using hy
  have new : ∀ {y}, (ρ.put H.length x) H.length = some y → y = x := fun hy => by
    simpa [RMap.put] using hy.symm
  refine ⟨fun r hr => ?_, fun r row' hr => ?_, fun r row' y hr hy i c hi => ?_, fun r row' y hr ho' hy => ?_, ?_, ?_⟩
  · simp only [List.length_append, List.length_singleton] at hr
    simp only [RMap.put]; rw [if_neg (by omega)]; exact h.dom r (by omega)
  · rw [rowAt_append] at hr
    by_cases e : r = H.length
    · exact ⟨x, by simp [RMap.put, e]⟩
    · simp only [e, if_false] at hr
      obtain ⟨y, hy⟩ := h.has r row' hr
      exact ⟨y, hl _ _ hy⟩
  · rw [rowAt_append] at hr
    by_cases e : r = H.length
    · subst e; simp at hr; subst hr
      obtain rfl := new hy
      obtain ⟨h1, v, h2, h3⟩ := hc i c hi
      exact ⟨h1, v, h2, h3.mono hl⟩
    · simp only [e, if_false] at hr
      obtain ⟨h1, v, h2, h3⟩ := h.cells r row' y hr (old e hy) i c hi
      exact ⟨h1, v, h2, h3.mono hl⟩
  · rw [rowAt_append] at hr
    by_cases e : r = H.length
    · subst e; simp at hr; subst hr
      obtain rfl := new hy
      exact ho ho'
    · simp only [e, if_false] at hr
      exact h.own r row' y hr ho' (old e hy)
  · intro r1 r2 a b y z h1 h2 h3 h4 h5 hy hz ny nz
    rw [rowAt_append] at h1 h2
    by_cases e1 : r1 = H.length
    · subst e1
      have e2 : r2 ≠ H.length := fun e => h4 e.symm
      simp at h1; subst h1
      simp only [e2, if_false] at h2
      obtain rfl := new hy
      exact hd r2 b z h2 (old e2 hz) (.inl h3) h5 (.inl h3) ny nz
    · simp only [e1, if_false] at h1
      by_cases e2 : r2 = H.length
      · subst e2; simp at h2; subst h2
        obtain rfl := new hz
        exact fun e => hd r1 a y h1 (old e1 hy) h5 (.inl h3) (.inr h3) nz ny e.symm
      · simp only [e2, if_false] at h2
        exact h.dist r1 r2 a b y z h1 h2 h3 h4 h5 (old e1 hy) (old e2 hz) ny nz
  · intro r row' y hr hy hne
    rw [rowAt_append] at hr
    by_cases e : r = H.length
    · subst e; simp at hr; subst hr
      obtain rfl := new hy
      exact hn hne
    · simp only [e, if_false] at hr
      exact h.room r row' y hr (old e hy) hne

theorem Sim.old_lt (h : Sim B ex ρ H w) {r row x} (hr : rowAt H r = some row) (hx : ρ r = some x) (hne : row.own = true ∨ row.cells ≠ []) (hn : x.n ≠ 0) : x.b < w.heap.size := by
  by_cases hc : row.cells = []
  · have ho : row.own = true := hne.resolve_right (fun k => k hc)
    obtain ⟨C, e, fr, hb, _⟩ := ((h.own r row x hr ho hx).2.2 hn).2.1
    exact (Array.getElem?_eq_some_iff.1 hb).1
  · obtain ⟨c, l, e⟩ := List.exists_cons_of_ne_nil hc
    obtain ⟨_, v, h2, _⟩ := h.cells r row x hr hx 0 c (by simp [e])
    exact lt_of_cell h2

/-- A new block. -/
theorem Sim.alloc (h : Sim B ex ρ H w) (hB : B ≤ w.heap.size) (slack : Bool) (cells : List AV) (C : Array Value) (e : TypeId) (hcell : ∀ c ∈ cells, c.cell = true)
    (hrel : VRelL ρ cells (C.toList.take cells.length)) (hs : slack = false → cells.length = C.size) :
    Sim B ex (ρ.put H.length ⟨w.heap.size, 0, C.size⟩) (H ++ [some ⟨true, slack, cells⟩]) (w.alloc (.cells C e)) := by
  have hle : cells.length ≤ C.size := by
    have := VRelL.length hrel
    simp at this; omega
  have h1 : Sim B ex ρ H (w.alloc (.cells C e)) := by
    refine h.of_cells (fun r row x hr hx i hi => ?_) (fun r row x hr ho hx hn => ?_)
    · have hne : row.cells ≠ [] := by intro e0; rw [e0] at hi; simp at hi
      have := h.old_lt hr hx (.inr hne) (h.room r row x hr hx hne)
      exact World.cell?_alloc_lt _ _ _ this
    · have hlt := h.old_lt hr hx (.inl ho) hn
      obtain ⟨_, ⟨C', e', fr', hb, hsz⟩, hf⟩ := (h.own r row x hr ho hx).2.2 hn
      refine ⟨⟨C', e', fr', ?_, hsz⟩, fun i hi => ?_⟩
      · rw [RowKit.Below.heap_alloc _ _ _ hlt]; exact hb
      · rw [World.frozen?_alloc_old _ _ _ (by simp; omega)]; exact hf i hi
  have hnew : (w.alloc (.cells C e)).heap[w.heap.size]? = some (.cells C e (0, 0)) := by
    show (w.heap.push _)[w.heap.size]? = _
    simp
  refine h1.push ⟨true, slack, cells⟩ ⟨w.heap.size, 0, C.size⟩ (fun i c hi => ?_) (fun _ => ?_) (fun r' row' x' hr' hx' _ hne _ _ hn' => ?_) (fun hne => ?_)
  · refine ⟨hcell c (List.mem_of_getElem? hi), ?_⟩
    obtain ⟨v, hv, hr⟩ := VRelL.get hrel hi
    refine ⟨v, ?_, hr⟩
    rw [cell_of_block hnew]
    have hi' := (List.getElem?_eq_some_iff.1 hi).1
    rw [List.getElem?_take_of_lt hi'] at hv
    simpa using hv
  · refine ⟨by simpa using hle, fun hk => by simpa using hs hk, fun _ => ⟨.inl hB, ⟨C, e, (0,0), hnew, rfl⟩, fun i _ => ?_⟩⟩
    simp
  · have := h.old_lt hr' hx' hne hn'
    simp; omega
  · have hl : 0 < cells.length := List.length_pos_iff.2 hne
    show C.size ≠ 0
    omega

/-- Cells of an own row are written. -/
theorem Sim.write (h : Sim B ex ρ H w) {r : Nat} {row : ARow} {x : Loc} (hr : rowAt H r = some row) (ho : row.own = true) (hx : ρ r = some x) (i : Nat) (cs : List AV) (vs : List Value)
    (hcell : ∀ c ∈ cs, c.cell = true) (hrel : VRelL ρ cs vs) (hfit : i + cs.length ≤ row.cells.length) :
    Sim B ex ρ (H.set r (some { row with cells := row.cells.take i ++ cs ++ row.cells.drop (i + cs.length) })) (w.setCells x.b (x.d + i) vs) := by
  have hlen := VRelL.length hrel
  have hrl := rowAt_lt hr
  obtain ⟨o1, o2, o3⟩ := h.own r row x hr ho hx
  have hcl : (row.cells.take i ++ cs ++ row.cells.drop (i + cs.length)).length = row.cells.length := by simp; omega
  have hex : ∀ j, j < vs.length → (w.cell? ⟨x.b, x.d + i + j, none⟩).isSome = true := fun j hj => by
    have hj' : i + j < row.cells.length := by omega
    obtain ⟨_, v, hv, _⟩ := h.cells r row x hr hx (i + j) row.cells[i + j] (by simp [hj'])
    rw [Nat.add_assoc, hv]; rfl
  have apart : ∀ {r' row' x'}, rowAt H r' = some row' → ρ r' = some x' → r' ≠ r → row'.cells ≠ [] → vs ≠ [] → x'.b ≠ x.b := fun {r' row' x'} h1 h2 h3 h4 h5 => by
    have hn : x.n ≠ 0 := by
      have : 0 < vs.length := List.length_pos_iff.2 h5
      omega
    exact (h.dist r r' row row' x x' hr h1 ho (Ne.symm h3) (.inr h4) hx h2 hn (h.room _ _ _ h1 h2 h4)).symm
  have key : ∀ r' row', rowAt (H.set r (some { row with cells := row.cells.take i ++ cs ++ row.cells.drop (i + cs.length) })) r' = some row' → (r' = r ∧ row' = { row with cells := row.cells.take i ++ cs ++ row.cells.drop (i + cs.length) }) ∨ (r' ≠ r ∧ rowAt H r' = some row') := fun r' row' he => by
    rw [rowAt_set hrl] at he
    by_cases e : r' = r
    · simp only [e, if_true, Option.some.injEq] at he; exact .inl ⟨e, he.symm⟩
    · simp only [e, if_false] at he; exact .inr ⟨e, he⟩
  refine ⟨fun r' hr' => h.dom r' (by simpa using hr'), fun r' row' he => ?_, fun r' row' y he hy j c hj => ?_, fun r' row' y he ho' hy => ?_, ?_, ?_⟩
  · rcases key _ _ he with ⟨e1, _⟩ | ⟨_, e2⟩
    · exact ⟨x, by rw [e1]; exact hx⟩
    · exact h.has r' row' e2
  · rcases key _ _ he with ⟨e1, e2⟩ | ⟨e1, e2⟩
    · subst e1; subst e2
      obtain rfl : x = y := Option.some.inj (hx.symm.trans hy)
      simp only at hj
      by_cases ha : j < i
      · have hj0 : row.cells[j]? = some c := by
          rw [List.append_assoc, List.getElem?_append_left (by simp; omega), List.getElem?_take_of_lt ha] at hj; exact hj
        obtain ⟨h1, v, h2, h3⟩ := h.cells r' row x hr hx j c hj0
        refine ⟨h1, v, ?_, h3⟩
        rw [World.cell?_setCells_out _ _ _ _ _ (fun _ _ => .inl (by simp; omega))]; exact h2
      · by_cases hb : j < i + cs.length
        · have hj0 : cs[j - i]? = some c := by
            rw [List.append_assoc, List.getElem?_append_right (by simp; omega), List.getElem?_append_left (by simp; omega)] at hj
            simpa [Nat.min_eq_left (show i ≤ row.cells.length by omega)] using hj
          obtain ⟨v, hv, hrv⟩ := VRelL.get hrel hj0
          refine ⟨hcell c (List.mem_of_getElem? hj0), v, ?_, hrv⟩
          obtain ⟨hl, hv'⟩ := List.getElem?_eq_some_iff.1 hv
          have := World.cell?_setCells_in x.b vs (x.d + i) w hex (j - i) hl
          rw [show x.d + i + (j - i) = x.d + j by omega, hv'] at this
          exact this
        · have hj0 : row.cells[j]? = some c := by
            rw [List.getElem?_append_right (by simp; omega)] at hj
            simp only [List.length_append, List.length_take, List.getElem?_drop] at hj
            rw [show i + cs.length + (j - (min i row.cells.length + cs.length)) = j by omega] at hj
            exact hj
          obtain ⟨h1, v, h2, h3⟩ := h.cells r' row x hr hx j c hj0
          refine ⟨h1, v, ?_, h3⟩
          rw [World.cell?_setCells_out _ _ _ _ _ (fun _ _ => .inr (by simp; omega))]; exact h2
    · obtain ⟨h1, v, h2, h3⟩ := h.cells r' row' y e2 hy j c hj
      refine ⟨h1, v, ?_, h3⟩
      by_cases hv : vs = []
      · subst hv; exact h2
      · have hne : row'.cells ≠ [] := by intro e0; rw [e0] at hj; simp at hj
        rw [World.cell?_setCells_out _ _ _ _ _ (fun e _ => absurd e (apart e2 hy e1 hne hv))]; exact h2
  · have keep : ∀ y : Loc, y.n ≠ 0 → ((B ≤ y.b ∨ ex y.b) ∧ (∃ C e fr, w.heap[y.b]? = some (.cells C e fr) ∧ C.size = y.n) ∧ ∀ i, i < y.n → w.frozen? ⟨y.b, i, none⟩ = false) →
        ((B ≤ y.b ∨ ex y.b) ∧ (∃ C e fr, (w.setCells x.b (x.d + i) vs).heap[y.b]? = some (.cells C e fr) ∧ C.size = y.n) ∧ ∀ k, k < y.n → (w.setCells x.b (x.d + i) vs).frozen? ⟨y.b, k, none⟩ = false) := fun y _ ⟨k1, ⟨C, e, fr, k2, k3⟩, k4⟩ => by
      refine ⟨k1, ?_, fun k hk => by rw [World.frozen?_setCells]; exact k4 k hk⟩
      by_cases hb : y.b = x.b
      · obtain ⟨C', c1, c2⟩ := block_setCells x.b vs (x.d + i) w (hb ▸ k2)
        exact ⟨C', e, fr, by rw [hb]; exact c1, by omega⟩
      · exact ⟨C, e, fr, by rw [heap_setCells _ _ _ _ _ hb]; exact k2, k3⟩
    rcases key _ _ he with ⟨e1, e2⟩ | ⟨e1, e2⟩
    · subst e1; subst e2
      obtain rfl : x = y := Option.some.inj (hx.symm.trans hy)
      simp only
      rw [hcl]
      exact ⟨o1, o2, fun hn => keep x hn (o3 hn)⟩
    · obtain ⟨k1, k2, k3⟩ := h.own r' row' y e2 ho' hy
      exact ⟨k1, k2, fun hn => keep y hn (k3 hn)⟩
  · intro r1 r2 a b y z h1 h2 h3 h4 h5 hy hz
    have h1' : ∃ a', rowAt H r1 = some a' ∧ a'.own = true := by
      rcases key _ _ h1 with ⟨e1, e2⟩ | ⟨e1, e2⟩
      · exact ⟨row, by rw [e1]; exact hr, ho⟩
      · exact ⟨a, e2, h3⟩
    have h2' : ∃ b', rowAt H r2 = some b' ∧ (b'.own = true ∨ b'.cells ≠ []) := by
      rcases key _ _ h2 with ⟨e1, e2⟩ | ⟨e1, e2⟩
      · exact ⟨row, by rw [e1]; exact hr, .inl ho⟩
      · exact ⟨b, e2, h5⟩
    obtain ⟨a', ha, ha'⟩ := h1'
    obtain ⟨b', hb, hb'⟩ := h2'
    exact h.dist r1 r2 a' b' y z ha hb ha' h4 hb' hy hz
  · intro r' row' y he hy hne
    rcases key _ _ he with ⟨e1, e2⟩ | ⟨e1, e2⟩
    · subst e1; subst e2
      refine h.room r' row y hr hy (fun e0 => hne ?_)
      have : row.cells.length = 0 := by rw [e0]; rfl
      exact List.length_eq_zero_iff.1 (by rw [hcl]; exact this)
    · exact h.room r' row' y e2 hy hne

end Go.Vh


/- The operations that only compute: their meaning on virtual values. -/
namespace Go.Vh
open Go

inductive Opd where
  | t (n : Nat)
  | c (v : AV)
  deriving Inhabited

def AV.const1 : Value → AV
  | .int k n => .int k n
  | .bool b => .bool b
  | .string s => .str s
  | .pointer none => .nilptr
  | .slice none 0 0 => .nilslice
  | v => .lit v
def AV.const : Value → AV
  | .agg cs => .agg (cs.toList.map AV.const1)
  | v => AV.const1 v

def Opd.of : Operand → Option Opd
  | .tmp n => if n < 1048576 then some (Opd.t n) else none
  | .const v => some (Opd.c (AV.const v))
  | .func f => some (Opd.c (.func f []))
  | .global g => some (Opd.t (1048576 + g))

def evo (s : St) : Opd → AV
  | .t n => s n
  | .c v => v

theorem VRel.const1 {ρ : RMap} (v : Value) : VRel ρ (AV.const1 v) v := by
  unfold AV.const1
  split <;> constructor
theorem VRelL.const1 {ρ : RMap} : ∀ l : List Value, VRelL ρ (l.map AV.const1) l
  | [] => .nil
  | v :: l => .cons _ _ _ _ (VRel.const1 v) (VRelL.const1 l)
theorem VRel.const {ρ : RMap} (v : Value) : VRel ρ (AV.const v) v := by
  unfold AV.const
  split
  · exact .agg _ _ (VRelL.const1 _)
  · exact VRel.const1 _

theorem evo_rel {ρ : RMap} {s : St} {a : Act} (h : SRel ρ s a) {x : Operand} {y : Opd} (hy : Opd.of x = some y) : VRel ρ (evo s y) (a.eval x) := by
  cases x with
  | tmp n =>
    simp only [Opd.of] at hy
    split at hy
    · rename_i hn
      simp only [Option.some.injEq] at hy; subst hy
      have := h n
      rw [tv_lt hn] at this
      exact this
    · cases hy
  | const v => simp only [Opd.of, Option.some.injEq] at hy; subst hy; exact VRel.const _
  | global g =>
    simp only [Opd.of, Option.some.injEq] at hy; subst hy
    have := h (1048576 + g)
    rw [tv_glob] at this
    exact this
  | func f => simp only [Opd.of, Option.some.injEq] at hy; subst hy; exact .func _ _ _ .nil

/-- What only computes. -/
inductive POp where
  | move (x : Opd)
  | pick (c a b : Opd)
  | bin (op : BinOp) (x y : Opd)
  | binB (neg : Bool) (x y : Opd)
  | isNil (neg : Bool) (x y : Opd)
  | not (x : Opd)
  | neg (x : Opd)
  | compl (x : Opd)
  | conv (k : IntKind) (x : Opd)
  | build (zero : List AV) (parts : List (Nat × Nat × Opd))
  | field (off n : Nat) (agg : Bool) (x : Opd)
  | fieldAddr (off : Nat) (x : Opd)
  | indexAddr (sz : Nat) (x i : Opd)
  | indexAddrA (len sz : Nat) (x i : Opd)
  | indexStr (x i : Opd)
  | slice (sz : Nat) (x : Opd) (lo hi : Option Opd)
  | sliceStr (x : Opd) (lo hi : Option Opd)
  | slice3 (sz : Nat) (x : Opd) (lo : Option Opd) (hi mx : Opd)
  | extract (x : Opd) (i : Nat)
  | len (x : Opd)
  | lenStr (x : Opd)
  | cap (x : Opd)
  | minmax (isMax : Bool) (x y : Opd)
  | makeFunc (f : FuncId) (caps : List Opd)
  | makeBound (f : FuncId) (first caps : List Opd)
  | nilCheck (x : Opd)
  | minmaxL (isMax : Bool) (l : List Opd)
  | eqPtr (neg : Bool) (x y : Opd)
  | idxByte (x c : Opd)
  | eqAgg (neg : Bool) (fs : List (Nat × Nat)) (x y : Opd)
  | stuck
  deriving Inhabited

/-- two flat cells of one kind (0 integers, 1 truths, 2 strings) -/
def cellEq : Nat → AV → AV → Option Bool
  | 0, .int k a, .int k' b => if k = k' then some (a == b) else none
  | 1, .bool a, .bool b => some (a == b)
  | 2, .str a, .str b => some (a == b)
  | _, _, _ => none
def aggEq (l l' : List AV) : List (Nat × Nat) → Option Bool
  | [] => some true
  | (o, k) :: fs => match l[o]?, l'[o]? with
    | some a, some b => match cellEq k a b, aggEq l l' fs with
      | some r, some r' => some (r && r')
      | _, _ => none
    | _, _ => none

def abits (op : BinOp) (k : IntKind) (x y : Int) : Int :=
  let a := BitVec.ofInt k.bits x
  let b := BitVec.ofInt k.bits y
  match op with
  | .and => k.wrap (a &&& b).toNat
  | .or => k.wrap (a ||| b).toNat
  | .xor => k.wrap (a ^^^ b).toNat
  | _ => k.wrap (a &&& ~~~b).toNat

def aint (op : BinOp) (k : IntKind) (a b : Int) : Option AV :=
  match op with
  | .add => some (.int k (k.wrap (a + b)))
  | .sub => some (.int k (k.wrap (a - b)))
  | .mul => some (.int k (k.wrap (a * b)))
  | .quo => if b = 0 then none else some (.int k (k.wrap (a.tdiv b)))
  | .rem => if b = 0 then none else some (.int k (a.tmod b))
  | .and => some (.int k (abits .and k a b))
  | .or => some (.int k (abits .or k a b))
  | .xor => some (.int k (abits .xor k a b))
  | .andNot => some (.int k (abits .andNot k a b))
  | .eql => some (.bool (a == b))
  | .neq => some (.bool (a != b))
  | .lss => some (.bool (decide (a < b)))
  | .leq => some (.bool (decide (a ≤ b)))
  | .gtr => some (.bool (decide (b < a)))
  | .geq => some (.bool (decide (b ≤ a)))
  | _ => none

def ashift (op : BinOp) (k : IntKind) (a b : Int) : Option AV :=
  if b < 0 then none else
  match op with
  | .shl => some (.int k (k.wrap (a * 2 ^ (min b.toNat k.bits))))
  | .shr => some (.int k (a.fdiv (2 ^ (min b.toNat k.bits))))
  | _ => none

def astr (op : BinOp) (x y : ByteArray) : Option AV :=
  match op with
  | .add => if x.size + y.size ≤ 9223372036854775807 then some (.str (x ++ y)) else none
  | .eql => some (.bool (x.toList == y.toList))
  | .neq => some (.bool !(x.toList == y.toList))
  | .lss => some (.bool (Op.bytesLess x.toList y.toList))
  | _ => none

def abin (op : BinOp) (x y : AV) : Option AV :=
  match x, y with
  | .int k a, .int k' b => match op with
    | .shl => ashift .shl k a b
    | .shr => ashift .shr k a b
    | op => if k = k' then aint op k a b else none
  | .str a, .str b => astr op a b
  | _, _ => none

def alen : AV → Option Nat
  | .nilslice => some 0
  | .slice _ _ n _ => some n
  | .sliceU _ _ n _ => some n
  | .lit (.slice (some _) n _) => some n
  | _ => none

/-- Is it nil? Where that is not known: none. -/
def anil : AV → Option Bool
  | .nilslice => some true
  | .slice _ _ n c => if n = 0 ∧ c = 0 then none else some false
  | .sliceU _ _ n _ => if n = 0 then none else some false
  | .lit (.slice (some _) _ _) => some false
  | _ => none

/-- Are two pointers the same? Where that is not known: none. -/
def aptr : AV → AV → Option Bool
  | .nilptr, .nilptr => some true
  | .nilptr, .ptr _ _ => some false
  | .ptr _ _, .nilptr => some false
  | .ptr r o, .ptr r' o' => if r = r' ∧ o = o' then some true else none
  | _, _ => none

def aparts (v : AV) : List AV := match v with | .agg l => l | v => [v]

def afill (cs : List AV) : List (Nat × Nat × AV) → Option (List AV)
  | [] => some cs
  | (off, size, v) :: rest =>
    if (aparts v).length = size ∧ off + size ≤ cs.length ∧ (aparts v).all AV.cell = true then afill (cs.take off ++ aparts v ++ cs.drop (off + size)) rest else none

def abound (x : AV) (most : Nat) : Option Nat :=
  match x with
  | .int _ i => if 0 ≤ i ∧ i ≤ most then some i.toNat else none
  | _ => none

def aindexAddr (sz : Nat) (x i : AV) : Option AV :=
  match x, i with
  | .slice r off n _, .int _ j => if 0 ≤ j ∧ j < n then some (.ptr r (off + j.toNat * sz)) else none
  | .sliceU r off n _, .int _ j => if 0 ≤ j ∧ j < n then some (.ptr r (off + j.toNat * sz)) else none
  | _, _ => none

/-- A bound that may lack. -/
def ahi (b : Option AV) (dflt most : Nat) : Option Nat :=
  match b with
  | some v => abound v most
  | none => some dflt

def aslice (sz : Nat) (x : AV) (lo hi : Option AV) : Option AV :=
  match x with
  | .slice r off n c => (ahi hi n c).bind fun h => (ahi lo 0 h).bind fun l => some (.slice r (off + l * sz) (h - l) (c - l))
  | .sliceU r off n sz' => (ahi hi n n).bind fun h => (ahi lo 0 h).bind fun l => if sz' = sz then some (.sliceU r (off + l * sz) (h - l) sz) else none
  | .nilslice => (ahi hi 0 0).bind fun h => (ahi lo 0 h).bind fun _ => some .nilslice
  | _ => none

/-- A slice with its capacity named. -/
def aslice3 (sz : Nat) (x : AV) (lo : Option AV) (hi mx : AV) : Option AV :=
  match x with
  | .slice r off _ c => (abound mx c).bind fun m => (abound hi m).bind fun h => (ahi lo 0 h).bind fun l => some (.slice r (off + l * sz) (h - l) (m - l))
  | _ => none

def asliceStr (x : AV) (lo hi : Option AV) : Option AV :=
  match x with
  | .str s => (ahi hi s.size s.size).bind fun h => (ahi lo 0 h).bind fun l => some (.str (s.extract l h))
  | _ => none

def amm (isMax : Bool) (x y : AV) : Option AV :=
  match x, y with
  | .int k a, .int _ b => some (.int k (if isMax then (if b > a then b else a) else (if b < a then b else a)))
  | _, _ => none
def amms (isMax : Bool) (l : List AV) : Option AV :=
  match l with
  | [] => none
  | x :: r => r.foldlM (amm isMax) x

def ipure (p : POp) (s : St) : Option AV :=
  match p with
  | .move x => some (evo s x)
  | .pick c a b => match evo s c with
    | .bool true => some (evo s a)
    | .bool false => some (evo s b)
    | _ => none
  | .bin op x y => abin op (evo s x) (evo s y)
  | .binB neg x y => match evo s x, evo s y with
    | .bool a, .bool b => some (.bool (if neg then !(a == b) else a == b))
    | _, _ => none
  | .isNil neg x y => match anil (evo s x), anil (evo s y) with
    | some true, some b => some (.bool (if neg then !b else b))
    | some b, some true => some (.bool (if neg then !b else b))
    | _, _ => none
  | .not x => match evo s x with
    | .bool b => some (.bool !b)
    | _ => none
  | .neg x => match evo s x with
    | .int k n => some (.int k (k.wrap (0 - n)))
    | _ => none
  | .compl x => match evo s x with
    | .int k n => some (.int k (abits .xor k (if k.signed then -1 else k.max) n))
    | _ => none
  | .conv k x => match evo s x with
    | .int _ n => some (.int k (k.wrap n))
    | _ => none
  | .build zero parts => (afill zero (parts.map fun (o, n, x) => (o, n, evo s x))).map AV.agg
  | .field off n agg x => match evo s x with
    | .agg l => if agg then (if off + n ≤ l.length then some (.agg ((l.drop off).take n)) else none) else l[off]?
    | _ => none
  | .fieldAddr off x => match evo s x with
    | .ptr r o => some (.ptr r (o + off))
    | _ => none
  | .indexAddr sz x i => aindexAddr sz (evo s x) (evo s i)
  | .indexAddrA len sz x i => match evo s x, evo s i with
    | .ptr r o, .int _ j => if 0 ≤ j ∧ j < len then some (.ptr r (o + j.toNat * sz)) else none
    | _, _ => none
  | .indexStr x i => match evo s x, evo s i with
    | .str b, .int _ j => if 0 ≤ j then (b[j.toNat]?).map fun c => .int .u8 c.toNat else none
    | _, _ => none
  | .slice sz x lo hi => aslice sz (evo s x) (lo.map (evo s)) (hi.map (evo s))
  | .slice3 sz x lo hi mx => aslice3 sz (evo s x) (lo.map (evo s)) (evo s hi) (evo s mx)
  | .sliceStr x lo hi => asliceStr (evo s x) (lo.map (evo s)) (hi.map (evo s))
  | .extract x i => match evo s x with
    | .tuple l => l[i]?
    | _ => none
  | .len x => (alen (evo s x)).map fun (n : Nat) => AV.int .i64 (n : Int)
  | .lenStr x => match evo s x with
    | .str b => some (.int .i64 b.size)
    | _ => none
  | .cap x => match evo s x with
    | .nilslice => some (.int .i64 0)
    | .slice _ _ _ c => some (.int .i64 c)
    | _ => none
  | .minmax isMax x y => match evo s x, evo s y with
    | .int k a, .int _ b => some (.int k (if isMax then (if b > a then b else a) else (if b < a then b else a)))
    | _, _ => none
  | .makeFunc f caps => some (.func f (caps.map (evo s)))
  | .makeBound f first caps => some (.bound f (first.map (evo s)) (caps.map (evo s)))
  | .nilCheck x => match evo s x with
    | .ptr r o => some (.ptr r o)
    | .func f l => some (.func f l)
    | .bound f k l => some (.bound f k l)
    | .iface t v => some (.iface t v)
    | _ => none
  | .minmaxL isMax l => amms isMax (l.map (evo s))
  | .eqPtr neg x y => (aptr (evo s x) (evo s y)).map fun b => AV.bool (if neg then !b else b)
  | .idxByte x c => match evo s x, evo s c with
    | .str b, .int .u8 n => some (.int .i64 (firstIdx b n.toNat.toUInt8))
    | _, _ => none
  | .eqAgg neg fs x y => match evo s x, evo s y with
    | .agg l, .agg l' => (aggEq l l' fs).map fun b => AV.bool (if neg then !b else b)
    | _, _ => none
  | .stuck => none

end Go.Vh

