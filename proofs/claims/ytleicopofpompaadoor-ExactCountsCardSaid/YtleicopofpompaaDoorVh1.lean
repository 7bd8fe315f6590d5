/- A virtual heap: values with rows in place of blocks, and what it means that a world holds them. -/
import Derived.Calls
import Derived.RowKit3
import Derived.Below
import Derived.Laws.Cells
import Derived.Laws.Sem
import Derived.Laws.World
set_option linter.unusedSimpArgs false
set_option linter.unusedVariables false
namespace Go.Vh
open Go

/-- A virtual value: an address is a row and an offset. -/
inductive AV where
  | any
  | bool (b : Bool)
  | int (k : IntKind) (n : Int)
  | str (s : ByteArray)
  | lit (v : Value)
  | nilptr
  | ptr (r off : Nat)
  | nilslice
  | slice (r off len cap : Nat)
  | sliceU (r off len sz : Nat)
  | func (f : FuncId) (captured : List AV)
  | bound (f : FuncId) (first captured : List AV)
  | agg (l : List AV)
  | tuple (l : List AV)
  | iface (t : TypeId) (v : AV)
  deriving Inhabited

/-- A row: cells that are known. 'own': nobody else reaches its block; 'slack': its block may go on behind them. -/
structure ARow where
  own : Bool
  slack : Bool
  cells : List AV
  deriving Inhabited

abbrev AHeap := List (Option ARow)
abbrev St := Nat → AV

/-- Where a row lies: the block, the offset of its first cell, the size of the block. -/
structure Loc where
  b : Nat
  d : Nat
  n : Nat

abbrev RMap := Nat → Option Loc

def RMap.le (ρ ρ' : RMap) : Prop := ∀ r x, ρ r = some x → ρ' r = some x
theorem RMap.le_refl (ρ : RMap) : ρ.le ρ := fun _ _ h => h
theorem RMap.le_trans {ρ ρ' ρ'' : RMap} (h : ρ.le ρ') (h' : ρ'.le ρ'') : ρ.le ρ'' := fun r x e => h' r x (h r x e)

mutual
inductive VRel (ρ : RMap) : AV → Value → Prop
  | any (v) : VRel ρ .any v
  | bool (b) : VRel ρ (.bool b) (.bool b)
  | int (k n) : VRel ρ (.int k n) (.int k n)
  | str (s) : VRel ρ (.str s) (.string s)
  | lit (v) : VRel ρ (.lit v) v
  | nilptr : VRel ρ .nilptr (.pointer none)
  | ptr (r off x) : ρ r = some x → VRel ρ (.ptr r off) (.pointer (some ⟨x.b, x.d + off, none⟩))
  | nilslice : VRel ρ .nilslice (.slice none 0 0)
  | slice (r off len cap x) : ρ r = some x → len ≤ cap → VRel ρ (.slice r off len cap) (.slice (some ⟨x.b, x.d + off, none⟩) len cap)
  | slice0 (r off a) : VRel ρ (.slice r off 0 0) (.slice a 0 0)
  | sliceU (r off len sz cap x) : ρ r = some x → len ≤ cap → x.d + off + cap * sz ≤ x.n → VRel ρ (.sliceU r off len sz) (.slice (some ⟨x.b, x.d + off, none⟩) len cap)
  | sliceU0 (r off sz a) : VRel ρ (.sliceU r off 0 sz) (.slice a 0 0)
  | func (f l cs) : VRelL ρ l cs.toList → VRel ρ (.func f l) (.func (.func f) #[] cs)
  | bound (f k l fs cs) : VRelL ρ k fs.toList → VRelL ρ l cs.toList → VRel ρ (.bound f k l) (.func (.func f) fs cs)
  | agg (l cs) : VRelL ρ l cs.toList → VRel ρ (.agg l) (.agg cs)
  | tuple (l cs) : VRelL ρ l cs.toList → VRel ρ (.tuple l) (.tuple cs)
  | iface (t a v) : VRel ρ a v → VRel ρ (.iface t a) (.iface t v)
inductive VRelL (ρ : RMap) : List AV → List Value → Prop
  | nil : VRelL ρ [] []
  | cons (a v l vs) : VRel ρ a v → VRelL ρ l vs → VRelL ρ (a :: l) (v :: vs)
end

mutual
theorem VRel.mono {ρ ρ' : RMap} (hl : ρ.le ρ') : ∀ {a v}, VRel ρ a v → VRel ρ' a v
  | _, _, .any v => .any v
  | _, _, .bool b => .bool b
  | _, _, .int k n => .int k n
  | _, _, .str s => .str s
  | _, _, .lit v => .lit v
  | _, _, .nilptr => .nilptr
  | _, _, .ptr r off x h => .ptr r off x (hl _ _ h)
  | _, _, .nilslice => .nilslice
  | _, _, .slice r off len cap x h h1 => .slice r off len cap x (hl _ _ h) h1
  | _, _, .slice0 r off a => .slice0 r off a
  | _, _, .sliceU r off len sz cap x h h1 h2 => .sliceU r off len sz cap x (hl _ _ h) h1 h2
  | _, _, .sliceU0 r off sz a => .sliceU0 r off sz a
  | _, _, .func f l cs h => .func f l cs (VRelL.mono hl h)
  | _, _, .bound f k l fs cs h h' => .bound f k l fs cs (VRelL.mono hl h) (VRelL.mono hl h')
  | _, _, .agg l cs h => .agg l cs (VRelL.mono hl h)
  | _, _, .tuple l cs h => .tuple l cs (VRelL.mono hl h)
  | _, _, .iface t a v h => .iface t a v (VRel.mono hl h)
theorem VRelL.mono {ρ ρ' : RMap} (hl : ρ.le ρ') : ∀ {l vs}, VRelL ρ l vs → VRelL ρ' l vs
  | _, _, .nil => .nil
  | _, _, .cons a v l vs h t => .cons a v l vs (VRel.mono hl h) (VRelL.mono hl t)
end

theorem VRelL.length {ρ : RMap} : ∀ {l : List AV} {vs : List Value}, VRelL ρ l vs → l.length = vs.length
  | _, _, .nil => rfl
  | _, _, .cons _ _ _ _ _ t => by simp [VRelL.length t]
theorem VRelL.get {ρ : RMap} : ∀ {l : List AV} {vs : List Value}, VRelL ρ l vs → ∀ {i : Nat} {a : AV}, l[i]? = some a → ∃ v, vs[i]? = some v ∧ VRel ρ a v
  | _, _, .nil, i, a, h => by simp at h
  | _, _, .cons a0 v l vs h0 t, 0, a, h => by simp at h; subst h; exact ⟨v, rfl, h0⟩
  | _, _, .cons a0 v l vs h0 t, i+1, a, h => by simp at h ⊢; exact VRelL.get t h
theorem VRelL.of_get {ρ : RMap} : ∀ {l : List AV} {vs : List Value}, l.length = vs.length → (∀ (i : Nat) a v, l[i]? = some a → vs[i]? = some v → VRel ρ a v) → VRelL ρ l vs
  | [], [], _, _ => .nil
  | [], _ :: _, h, _ => by simp at h
  | _ :: _, [], h, _ => by simp at h
  | a :: l, v :: vs, h, hg => .cons a v l vs (hg 0 a v rfl rfl) (VRelL.of_get (by simpa using h) fun i a' v' h1 h2 => hg (i+1) a' v' (by simpa using h1) (by simpa using h2))
theorem VRelL.append {ρ : RMap} : ∀ {l : List AV} {vs : List Value} {l' vs'}, VRelL ρ l vs → VRelL ρ l' vs' → VRelL ρ (l ++ l') (vs ++ vs')
  | _, _, _, _, .nil, h => h
  | _, _, _, _, .cons a v l vs h0 t, h => .cons a v _ _ h0 (VRelL.append t h)

/-! ### The heap -/
def rowAt (H : AHeap) (r : Nat) : Option ARow := (H[r]?).getD none

theorem rowAt_some {H : AHeap} {r : Nat} {row : ARow} : rowAt H r = some row ↔ H[r]? = some (some row) := by
  unfold rowAt
  cases h : H[r]? with
  | none => simp
  | some o => simp

/-- A value that one cell may hold. -/
def AV.cell : AV → Bool
  | .any | .agg _ | .tuple _ => false
  | .lit (.agg _) | .lit (.tuple _) => false
  | _ => true

/-- 'B': blocks from there on are the call's own; 'ex': older ones that it may write. A row whose location has the size 0 lies nowhere. -/
structure Sim (B : Nat) (ex : Nat → Prop) (ρ : RMap) (H : AHeap) (w : World) : Prop where
  dom : ∀ r, H.length ≤ r → ρ r = none
  has : ∀ r row, rowAt H r = some row → ∃ x, ρ r = some x
  cells : ∀ r row x, rowAt H r = some row → ρ r = some x → ∀ i c, row.cells[i]? = some c → c.cell = true ∧ ∃ v, w.cell? ⟨x.b, x.d + i, none⟩ = some v ∧ VRel ρ c v
  own : ∀ r row x, rowAt H r = some row → row.own = true → ρ r = some x →
    x.d + row.cells.length ≤ x.n ∧ (row.slack = false → x.d + row.cells.length = x.n) ∧
    (x.n ≠ 0 → (B ≤ x.b ∨ ex x.b) ∧ (∃ C e fr, w.heap[x.b]? = some (.cells C e fr) ∧ C.size = x.n) ∧ ∀ i, i < x.n → w.frozen? ⟨x.b, i, none⟩ = false)
  dist : ∀ r r' row row' x x', rowAt H r = some row → rowAt H r' = some row' → row.own = true → r ≠ r' → (row'.own = true ∨ row'.cells ≠ []) →
    ρ r = some x → ρ r' = some x' → x.n ≠ 0 → x'.n ≠ 0 → x.b ≠ x'.b
  room : ∀ r row x, rowAt H r = some row → ρ r = some x → row.cells ≠ [] → x.n ≠ 0

/-- What a call has done to what stood before it. -/
structure Frm (B : Nat) (ex : Nat → Prop) (w w' : World) : Prop where
  os : w'.os = w.os
  tape : w'.tape = w.tape
  output : w'.output = w.output
  size : w.heap.size ≤ w'.heap.size
  block : ∀ k, k < B → ¬ ex k → w'.heap[k]? = w.heap[k]?

theorem Frm.refl {B ex w} : Frm B ex w w := ⟨rfl, rfl, rfl, Nat.le_refl _, fun _ _ _ => rfl⟩
theorem Frm.trans {B ex w w' w''} (h : Frm B ex w w') (h' : Frm B ex w' w'') : Frm B ex w w'' :=
  ⟨h'.os.trans h.os, h'.tape.trans h.tape, h'.output.trans h.output, Nat.le_trans h.size h'.size, fun k hk he => (h'.block k hk he).trans (h.block k hk he)⟩

/-- The state of an activation. -/
structure Inv (w0 : World) (ex : Nat → Prop) (ρ : RMap) (H : AHeap) (w : World) : Prop where
  sim : Sim w0.heap.size ex ρ H w
  frm : Frm w0.heap.size ex w0 w

/-- A temporary's value; from 1048576 on: where the package's variables lie. -/
def tv (a : Act) (t : Nat) : Value := if t < 1048576 then a.tmps.getD t undef else .pointer (some ⟨t - 1048576, 0, none⟩)
theorem tv_lt {a : Act} {t : Nat} (h : t < 1048576) : tv a t = a.tmps.getD t undef := by unfold tv; rw [if_pos h]
theorem tv_glob {a : Act} {g : Nat} : tv a (1048576 + g) = .pointer (some ⟨g, 0, none⟩) := by
  unfold tv; rw [if_neg (by omega), Nat.add_sub_cancel_left]

def SRel (ρ : RMap) (s : St) (a : Act) : Prop := ∀ t, VRel ρ (s t) (tv a t)

def upd (s : St) (d : Nat) (v : AV) : St := fun t => if t = d then v else s t

theorem SRel.put {ρ : RMap} {s : St} {a : Act} (h : SRel ρ s a) {d : Nat} (hd : d < a.tmps.size) (hG : a.tmps.size ≤ 1048576) {v : AV} {v' : Value} (hv : VRel ρ v v') :
    SRel ρ (upd s d v) (a.put (some d) v') := by
  intro t
  by_cases ht : t = d
  · subst ht
    rw [tv_lt (by omega)]
    simp [Act.put, upd, hd, hv]
  · have := h t
    simp only [upd, if_neg ht]
    unfold tv at this ⊢
    by_cases hG' : t < 1048576
    · rw [if_pos hG'] at this ⊢
      have e : (a.tmps.setIfInBounds d v').getD t undef = a.tmps.getD t undef := by
        simp only [Array.getD_eq_getD_getElem?]
        rw [Array.getElem?_setIfInBounds_ne (Ne.symm ht)]
      show VRel ρ (s t) ((a.tmps.setIfInBounds d v').getD t undef)
      rw [e]; exact this
    · rw [if_neg hG'] at this ⊢
      exact this

theorem SRel.mono {ρ ρ' : RMap} {s : St} {a : Act} (hl : ρ.le ρ') (h : SRel ρ s a) : SRel ρ' s a := fun t => (h t).mono hl

end Go.Vh
