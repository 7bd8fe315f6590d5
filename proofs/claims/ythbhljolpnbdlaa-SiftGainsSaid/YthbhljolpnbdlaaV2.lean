/- The operations that read or write the heap. -/
import Derived.Test.YthbhljolpnbdlaaVh4
import Derived.Laws.BytesArg
set_option linter.unusedSimpArgs false
set_option linter.unusedVariables false
namespace Go.Vh
open Go

inductive EOp where
  | load1 (x : Opd)
  | loadN (n : Nat) (x : Opd)
  | alloc (zero : List AV)
  | box (x : Opd)
  | buildSlice (len : Nat) (zeros : List AV) (parts : List (Nat × Nat × Opd))
  | makeSlice (zero : AV) (bytes : Nat) (l c : Opd)
  | makeSliceN (zeros : List AV) (bytes : Nat) (l c : Opd)
  | store (n : Nat) (x v : Opd)
  | append (sz bytes : Nat) (x y : Opd)
  | copy (sz : Nat) (x y : Opd)
  | bytesToStr (x : Opd)
  deriving Inhabited

def cellsAt (H : AHeap) (r off n : Nat) : Option (List AV) :=
  (rowAt H r).bind fun row => if off + n ≤ row.cells.length then some ((row.cells.drop off).take n) else none

/-- What a slice's cells hold. -/
def asrc (sz : Nat) (x : AV) (H : AHeap) : Option (List AV) :=
  match x with
  | .nilslice => some []
  | .slice r off n _ => if n * sz = 0 then some [] else cellsAt H r off (n * sz)
  | .sliceU r off n sz' => if sz' = sz then (if n * sz = 0 then some [] else cellsAt H r off (n * sz)) else none
  | .lit (.slice (some _) n _) => if n = 0 then some [] else none
  | _ => none

def splice (l : List AV) (i : Nat) (cs : List AV) : List AV := l.take i ++ cs ++ l.drop (i + cs.length)

def aput (H : AHeap) (r off : Nat) (cs : List AV) : Option AHeap :=
  (rowAt H r).bind fun row => if row.own = true ∧ off + cs.length ≤ row.cells.length ∧ cs.all AV.cell = true then some (H.set r (some { row with cells := splice row.cells off cs })) else none

def anew (H : AHeap) (slack : Bool) (cells : List AV) : Option AHeap :=
  if cells.all AV.cell = true then some (H ++ [some ⟨true, slack, cells⟩]) else none

/-- An append of n elements with the cells xs. -/
def aappend (sz bytes : Nat) (x : AV) (n : Nat) (xs : List AV) (H : AHeap) : Option (AV × AHeap) :=
  match x with
  | .nilslice => if n * bytes ≤ 70368744177664 then (anew H true xs).map fun H' => (.sliceU H.length 0 n sz, H') else none
  | .slice r off len cap =>
    if (len + n) * bytes ≤ 70368744177664 then
      if cap = 0 then (anew H true xs).map fun H' => (.sliceU H.length 0 n sz, H')
      else if cap < len + n then (cellsAt H r off (len * sz)).bind fun old => (anew H true (old ++ xs)).map fun H' => (.sliceU H.length 0 (len + n) sz, H')
      else (aput H r (off + len * sz) xs).map fun H' => (.slice r off (len + n) cap, H')
    else none
  | .sliceU r off len sz' =>
    if (len + n) * bytes ≤ 70368744177664 ∧ sz' = sz then
      (rowAt H r).bind fun row => if row.own = true ∧ row.slack = true ∧ off + len * sz = row.cells.length ∧ xs.all AV.cell = true then
        some (.sliceU H.length 0 (len + n) sz, H.set r none ++ [some ⟨true, true, row.cells.drop off ++ xs⟩]) else none
    else none
  | _ => none

def abytes : List AV → Option (List Int)
  | [] => some []
  | .int .u8 n :: l => (abytes l).map fun r => n :: r
  | _ => none

def ieff (e : EOp) (s : St) (H : AHeap) : Option (AV × AHeap) :=
  match e with
  | .load1 x => match evo s x with
    | .ptr r off => ((rowAt H r).bind fun row => row.cells[off]?).map fun v => (v, H)
    | _ => none
  | .loadN n x => match evo s x with
    | .ptr r off => (cellsAt H r off n).map fun l => (.agg l, H)
    | _ => none
  | .alloc zero => (anew H false zero).map fun H' => (.ptr H.length 0, H')
  | .box x => (anew H false (aparts (evo s x))).map fun H' => (.ptr H.length 0, H')
  | .buildSlice len zeros parts => (afill zeros (parts.map fun (o, n, x) => (o, n, evo s x))).bind fun l => (anew H false l).map fun H' => (.slice H.length 0 len len, H')
  | .makeSlice zero bytes l c => match evo s l, evo s c with
    | .int _ l, .int _ c => if 0 ≤ l ∧ l ≤ c ∧ bytes * c ≤ 281474976710656 ∧ c ≤ 9223372036854775807 then
        (anew H false (List.replicate c.toNat zero)).map fun H' => (.slice H.length 0 l.toNat c.toNat, H') else none
    | _, _ => none
  | .makeSliceN zeros bytes l c => match evo s l, evo s c with
    | .int _ l, .int _ c => if 0 ≤ l ∧ l ≤ c ∧ bytes * c ≤ 281474976710656 ∧ c ≤ 9223372036854775807 then
        (anew H false (List.replicate c.toNat zeros).flatten).map fun H' => (.slice H.length 0 l.toNat c.toNat, H') else none
    | _, _ => none
  | .store n x v => match evo s x with
    | .ptr r off => if (aparts (evo s v)).length = n then (aput H r off (aparts (evo s v))).map fun H' => (.any, H') else none
    | _ => none
  | .append sz bytes x y => match alen (evo s y) with
    | some n => (asrc sz (evo s y) H).bind fun xs => aappend sz bytes (evo s x) n xs H
    | none => none
  | .copy sz x y => match alen (evo s x), alen (evo s y) with
    | some n, some m => (asrc sz (evo s y) H).bind fun xs => match evo s x with
      | .slice r off _ _ => if min m n = 0 then some (.int .i64 0, H) else (aput H r off (xs.take (min m n * sz))).map fun H' => (.int .i64 (min m n : Nat), H')
      | .sliceU r off _ sz' => if min m n = 0 then some (.int .i64 0, H) else if sz' = sz then (aput H r off (xs.take (min m n * sz))).map fun H' => (.int .i64 (min m n : Nat), H') else none
      | .nilslice => some (.int .i64 0, H)
      | _ => none
    | _, _ => none
  | .bytesToStr x => match alen (evo s x) with
    | some _ => (asrc 1 (evo s x) H).bind fun l => (abytes l).map fun ns => (.str (strOfNums ns), H)
    | none => none

def effOf (P : Program) (o : Op) : Option EOp :=
  match o with
  | .load t x => do
    let x ← Opd.of x
    match P.underlying t, sizeA P t with
    | some d, some n => some (if aggD d then .loadN n x else .load1 x)
    | _, _ => none
  | .alloc t => match P.info? t with
    | some ti => ti.zero.map fun z => .alloc (z.cells.toList.map AV.const1)
    | none => none
  | .box _ x => (Opd.of x).map .box
  | .makeSlice t l c => do
    let l ← Opd.of l
    let c ← Opd.of c
    match P.underlying t with
    | some (.slice e) => match P.info? e with
      | some ti => match ti.zero with
        | some z => if ti.size = 1 ∧ z.cells.size = 1 then some (.makeSlice (AV.const1 (z.cells.getD 0 z)) ti.bytes l c) else if ti.size = z.cells.size ∧ 0 < ti.size then some (.makeSliceN (z.cells.toList.map AV.const1) ti.bytes l c) else none
        | none => none
      | none => none
    | _ => none
  | .store t x v => do
    let x ← Opd.of x
    let v ← Opd.of v
    match sizeA P t with
    | some n => some (.store n x v)
    | none => none
  | .convert t u x => do
    let x ← Opd.of x
    match P.underlying t, P.underlying u with
    | some (.slice e), some .string => match P.underlying e with
      | some (.int .u8) => some (.bytesToStr x)
      | _ => none
    | _, _ => none
  | .call c => match c.callee, c.args.toList, c.argTypes.toList with
    | .builtin .append, [x, y], [t, u] => do
      let x ← Opd.of x
      let y ← Opd.of y
      match P.underlying t, P.underlying u with
      | some (.slice e), some (.slice _) => match P.info? e with
        | some ti => match ti.zero with
          | some z => if 0 < ti.bytes ∧ z.cells.size = ti.size then some (.append ti.size ti.bytes x y) else none
          | none => none
        | none => none
      | _, _ => none
    | .builtin .copy, [x, y], [t, u] => do
      let x ← Opd.of x
      let y ← Opd.of y
      match P.underlying t, P.underlying u with
      | some (.slice e), some (.slice _) => (sizeA P e).map fun n => .copy n x y
      | _, _ => none
    | _, _, _ => none
  | _ => none
end Go.Vh


/- The operations that read or write the heap do what they mean on the virtual one. -/
namespace Go.Vh
open Go

/-- What an operation leaves. -/
def Does (P : Program) (a : Act) (o : Oper) (w0 : World) (ex : Nat → Prop) (ρ : RMap) (w : World) (v : AV) (H' : AHeap) (safe : Bool) : Prop :=
  ∃ v' w' ρ', ((execOp a.eval o).run P w = .ok (.value v') w' ∨ ((execOp a.eval o).run P w = .ok .skip w' ∧ v' = undef)) ∧ ρ.le ρ' ∧ VRel ρ' v v' ∧ Inv w0 ex ρ' H' w' ∧ w.heap.size ≤ w'.heap.size ∧
    (safe = true → ∀ k, k < w.heap.size → w'.heap[k]? = w.heap[k]?)

/-- What leaves every old block as it is. -/
def EOp.safe : EOp → Bool
  | .load1 _ | .loadN _ _ | .alloc _ | .box _ | .buildSlice _ _ _ | .makeSlice _ _ _ _ | .makeSliceN _ _ _ _ | .bytesToStr _ => true
  | _ => false

variable {P : Program} {a : Act} {ρ : RMap} {s : St} {w0 w : World} {ex : Nat → Prop} {H H' : AHeap}

theorem oneCell_of {c : AV} {v : Value} (hr : VRel ρ c v) (hc : c.cell = true) : v.oneCell' = true := by
  cases hr
  case lit => cases v <;> first | rfl | (simp [AV.cell] at hc; done)
  all_goals first | rfl | (simp [AV.cell] at hc; done)

theorem array_one (A : Array Value) (h : A.size = 1) : ∃ u, A = #[u] := by
  rcases A with ⟨l⟩
  match l, h with
  | [u], _ => exact ⟨u, rfl⟩

theorem oneCells_of : ∀ {l : List AV} {vs : List Value}, VRelL ρ l vs → l.all AV.cell = true → ∀ v ∈ vs, v.oneCell' = true
  | _, _, .nil, _, v, hv => by cases hv
  | _, _, .cons a x l vs h t, hc, v, hv => by
    simp only [List.all_cons, Bool.and_eq_true] at hc
    rcases List.mem_cons.1 hv with rfl | hv
    · exact oneCell_of h hc.1
    · exact oneCells_of t hc.2 v hv

theorem cells_of_parts {u : AV} {v : Value} (hr : VRel ρ u v) (hc : (aparts u).all AV.cell = true) : VRelL ρ (aparts u) v.cells.toList := by
  have one : ∀ {u : AV} {v : Value}, VRel ρ u v → u.cell = true → VRelL ρ [u] v.cells.toList := fun {u v} hr hc => by
    have h1 := oneCell_of hr hc
    have : v.cells = #[v] := by cases v <;> first | rfl | (simp [Value.oneCell'] at h1)
    rw [this]
    exact .cons _ _ _ _ hr .nil
  cases u
  case agg l =>
    obtain ⟨cs, rfl, h⟩ := hr.agg_inv
    exact h
  all_goals
    simp only [aparts, List.all_cons, List.all_nil, Bool.and_true] at hc ⊢
    exact one hr hc

theorem cellsAt_spec {r off n l} (h : cellsAt H r off n = some l) : ∃ row, rowAt H r = some row ∧ off + n ≤ row.cells.length ∧ l = (row.cells.drop off).take n := by
  simp only [cellsAt, Option.bind_eq_some_iff] at h
  obtain ⟨row, h1, h2⟩ := h
  split at h2
  · simp only [Option.some.injEq] at h2; exact ⟨row, h1, ‹_›, h2.symm⟩
  · cases h2

/-- The cells of a row, read. -/
theorem Sim.read {B} (h : Sim B ex ρ H w) {r row x off n} (hr : rowAt H r = some row) (hx : ρ r = some x) (hle : off + n ≤ row.cells.length) :
    ∃ vs : List Value, vs.length = n ∧ VRelL ρ ((row.cells.drop off).take n) vs ∧ (((row.cells.drop off).take n).all AV.cell = true) ∧ ∀ j v, vs[j]? = some v → w.cell? ((⟨x.b, x.d + off, none⟩ : Addr).add j) = some v := by
  induction n generalizing off with
  | zero => exact ⟨[], rfl, by simp; exact .nil, by simp, fun j v hj => by simp at hj⟩
  | succ n ih =>
    obtain ⟨vs, h1, h2, h3, h4⟩ := ih (off := off + 1) (by omega)
    obtain ⟨hc, v, hv, hrv⟩ := h.cells r row x hr hx off row.cells[off] (by simp)
    have hd : row.cells.drop off = row.cells[off] :: row.cells.drop (off + 1) := List.drop_eq_getElem_cons (by omega)
    refine ⟨v :: vs, by simp [h1], ?_, ?_, fun j u hj => ?_⟩
    · rw [hd, List.take_succ_cons]; exact .cons _ _ _ _ hrv h2
    · rw [hd, List.take_succ_cons]; simp [hc]; simpa using h3
    · cases j with
      | zero =>
        simp at hj; subst hj
        rw [Addr.add_eq]; exact hv
      | succ j =>
        have := h4 j u (by simpa using hj)
        rw [Addr.add_eq] at this ⊢
        rw [show x.d + off + (j + 1) = x.d + (off + 1) + j by omega]; exact this

theorem Inv.hle (inv : Inv w0 ex ρ H w) : w0.heap.size ≤ w.heap.size := inv.frm.size

theorem Frm.alloc {B} (h : Frm B ex w0 w) (hB : B ≤ w.heap.size) (o : Obj) : Frm B ex w0 (w.alloc o) :=
  h.trans ⟨rfl, rfl, rfl, by simp, fun k hk _ => RowKit.Below.heap_alloc _ _ _ (by omega)⟩
theorem Frm.drew {B} (h : Frm B ex w0 w) : Frm B ex w0 w.drew := ⟨h.os, h.tape, h.output, h.size, h.block⟩
theorem Frm.setCells {B} (h : Frm B ex w0 w) {b : Nat} (hb : B ≤ b ∨ ex b) (o : Nat) (vs : List Value) : Frm B ex w0 (w.setCells b o vs) := by
  obtain ⟨h1, h2, h3⟩ := os_setCells b vs o w
  refine h.trans ⟨h1, h2, h3, by rw [size_setCells]; exact Nat.le_refl _, fun k hk hne => heap_setCells _ _ _ _ _ (fun e => ?_)⟩
  subst e
  rcases hb with hb | hb
  · omega
  · exact hne hb

/-- A new block, for the invariant. -/
theorem Inv.alloc (inv : Inv w0 ex ρ H w) (slack : Bool) {cells : List AV} (C : Array Value) (e : TypeId) (hcell : cells.all AV.cell = true) (hrel : VRelL ρ cells (C.toList.take cells.length)) (hs : slack = false → cells.length = C.size) :
    Inv w0 ex (ρ.put H.length ⟨w.heap.size, 0, C.size⟩) (H ++ [some ⟨true, slack, cells⟩]) (w.alloc (.cells C e)) ∧ ρ.le (ρ.put H.length ⟨w.heap.size, 0, C.size⟩) :=
  ⟨⟨inv.sim.alloc inv.hle slack cells C e (fun c hc => (List.all_eq_true.1 hcell) c hc) hrel hs, inv.frm.alloc inv.hle _⟩, RMap.le_put (inv.sim.dom _ (Nat.le_refl _))⟩

theorem anew_spec {slack cells} (h : anew H slack cells = some H') : cells.all AV.cell = true ∧ H' = H ++ [some ⟨true, slack, cells⟩] := by
  unfold anew at h
  split at h
  · simp only [Option.some.injEq] at h; exact ⟨‹_›, h.symm⟩
  · cases h

theorem aput_spec {r off cs} (h : aput H r off cs = some H') : ∃ row, rowAt H r = some row ∧ row.own = true ∧ off + cs.length ≤ row.cells.length ∧ cs.all AV.cell = true ∧ H' = H.set r (some { row with cells := splice row.cells off cs }) := by
  simp only [aput, Option.bind_eq_some_iff] at h
  obtain ⟨row, h1, h2⟩ := h
  split at h2
  · rename_i hc
    simp only [Option.some.injEq] at h2
    exact ⟨row, h1, hc.1, hc.2.1, hc.2.2, h2.symm⟩
  · cases h2

/-- Cells of an own row, written, for the invariant. -/
theorem Inv.write (inv : Inv w0 ex ρ H w) {r row x off} {cs : List AV} {vs : List Value} (hr : rowAt H r = some row) (ho : row.own = true) (hx : ρ r = some x) (hle : off + cs.length ≤ row.cells.length) (hc : cs.all AV.cell = true) (hrel : VRelL ρ cs vs) :
    Inv w0 ex ρ (H.set r (some { row with cells := splice row.cells off cs })) (w.setCells x.b (x.d + off) vs) ∧
      (∀ j, j < vs.length → (w.cell? ⟨x.b, x.d + off + j, none⟩).isSome = true) ∧ (∀ j, j < vs.length → w.frozen? ⟨x.b, x.d + off + j, none⟩ = false) := by
  have hlen := VRelL.length hrel
  obtain ⟨o1, o2, o3⟩ := inv.sim.own r row x hr ho hx
  refine ⟨⟨inv.sim.write hr ho hx off cs vs (fun c hm => (List.all_eq_true.1 hc) c hm) hrel hle, ?_⟩, fun j hj => ?_, fun j hj => ?_⟩
  · by_cases hv : vs = []
    · subst hv; exact inv.frm
    · have : 0 < vs.length := List.length_pos_iff.2 hv
      exact inv.frm.setCells ((o3 (by omega)).1) _ _
  · obtain ⟨_, v, hv, _⟩ := inv.sim.cells r row x hr hx (off + j) row.cells[off + j] (by simp)
    rw [Nat.add_assoc, hv]; rfl
  · exact (o3 (by omega)).2.2 _ (by omega)

variable {dst : Option Nat} {ty : TypeId} {pos : String} {af : Array Edge} {g : Option (Nat × Bool)} {v : AV}

theorem does_load (inv : Inv w0 ex ρ H w) (hs : SRel ρ s a) {t x e} (hc : effOf P (.load t x) = some e) (h : ieff e s H = some (v, H')) :
    H' = H ∧ ∃ v', VRel ρ v v' ∧ (execOp a.eval ⟨dst, .load t x, ty, pos, af, g⟩).run P w = .ok (.value v') w := by
  simp only [effOf, Option.bind_eq_bind, Option.bind_eq_some_iff] at hc
  obtain ⟨x', hx', hc⟩ := hc
  have rx := evo_rel hs hx'
  split at hc
  · rename_i d n hd hn
    simp only [Option.some.injEq] at hc; subst hc
    split at h
    · rename_i hagg
      simp only [ieff] at h
      split at h
      · rename_i r off e; rw [e] at rx
        simp only [Option.map_eq_some_iff, Prod.mk.injEq] at h
        obtain ⟨l, hl, rfl, rfl⟩ := h
        refine ⟨rfl, ?_⟩
        obtain ⟨y, hy, hv⟩ := rx.ptr_inv
        obtain ⟨row, hr, hle, rfl⟩ := cellsAt_spec hl
        obtain ⟨vs, k1, k2, k3, k4⟩ := inv.sim.read hr hy hle
        refine ⟨.agg vs.toArray, .agg _ _ (by simpa using k2), ?_⟩
        have hl := run_loadCells_list (P := P) w ⟨y.b, y.d + off, none⟩ vs k4
        rw [k1] at hl
        simp [execOp, hv, Instr.loadAt, Instr.sureAddr, loadVar, run_isAgg hd, hagg, run_size hn, hl]
      · cases h
    · rename_i hagg
      simp only [ieff] at h
      split at h
      · rename_i r off e; rw [e] at rx
        simp only [Option.map_eq_some_iff, Option.bind_eq_some_iff, Prod.mk.injEq] at h
        obtain ⟨c, ⟨row, hr, hcell⟩, rfl, rfl⟩ := h
        refine ⟨rfl, ?_⟩
        obtain ⟨y, hy, hv⟩ := rx.ptr_inv
        obtain ⟨_, u, hu, hru⟩ := inv.sim.cells r row y hr hy off c hcell
        refine ⟨u, hru, ?_⟩
        simp [execOp, hv, Instr.loadAt, Instr.sureAddr, loadVar, run_isAgg hd, hagg, run_load, hu]
      · cases h
  · cases hc

theorem does_alloc (inv : Inv w0 ex ρ H w) {t e} (hc : effOf P (.alloc t) = some e) (h : ieff e s H = some (v, H')) : Does P a ⟨dst, .alloc t, ty, pos, af, g⟩ w0 ex ρ w v H' e.safe := by
  simp only [effOf] at hc
  split at hc
  · rename_i ti hti
    simp only [Option.map_eq_some_iff] at hc
    obtain ⟨z, hz, rfl⟩ := hc
    simp only [ieff, Option.map_eq_some_iff, Prod.mk.injEq] at h
    obtain ⟨H1, h1, rfl, rfl⟩ := h
    obtain ⟨k1, rfl⟩ := anew_spec h1
    obtain ⟨i1, i2⟩ := inv.alloc false z.cells t k1 (by simp [List.take_of_length_le]; exact VRelL.const1 _) (by simp)
    have hp := VRel.ptr (ρ := ρ.put H.length ⟨w.heap.size, 0, z.cells.size⟩) H.length 0 ⟨w.heap.size, 0, z.cells.size⟩ RMap.put_same
    refine ⟨.pointer (some ⟨w.heap.size, 0, none⟩), w.alloc (.cells z.cells t), _, .inl ?_, i2, hp, i1, by simp, fun _ k hk => RowKit.Below.heap_alloc _ _ _ hk⟩
    simp [execOp, Instr.alloc, zeroValue, typeInfo, hti, hz, newVar, newRow]
  · cases hc

theorem does_box (inv : Inv w0 ex ρ H w) (hs : SRel ρ s a) {t x e} (hc : effOf P (.box t x) = some e) (h : ieff e s H = some (v, H')) : Does P a ⟨dst, .box t x, ty, pos, af, g⟩ w0 ex ρ w v H' e.safe := by
  simp only [effOf, Option.map_eq_some_iff] at hc
  obtain ⟨x', hx', rfl⟩ := hc
  have rx := evo_rel hs hx'
  simp only [ieff, Option.map_eq_some_iff, Prod.mk.injEq] at h
  obtain ⟨H1, h1, rfl, rfl⟩ := h
  obtain ⟨k1, rfl⟩ := anew_spec h1
  have hr := cells_of_parts rx k1
  have hl := VRelL.length hr
  obtain ⟨i1, i2⟩ := inv.alloc false (a.eval x).cells t k1 (by rw [List.take_of_length_le (by simp [hl])]; exact hr) (by simp [hl])
  have hp := VRel.ptr (ρ := ρ.put H.length ⟨w.heap.size, 0, (a.eval x).cells.size⟩) H.length 0 ⟨w.heap.size, 0, (a.eval x).cells.size⟩ RMap.put_same
  refine ⟨.pointer (some ⟨w.heap.size, 0, none⟩), w.alloc (.cells (a.eval x).cells t), _, .inl ?_, i2, hp, i1, by simp, fun _ k hk => RowKit.Below.heap_alloc _ _ _ hk⟩
  simp [execOp, Instr.box, newVar, newRow]

theorem does_store (inv : Inv w0 ex ρ H w) (hs : SRel ρ s a) {t x y e} (hc : effOf P (.store t x y) = some e) (h : ieff e s H = some (v, H')) : Does P a ⟨dst, .store t x y, ty, pos, af, g⟩ w0 ex ρ w v H' e.safe := by
  simp only [effOf, Option.bind_eq_bind, Option.bind_eq_some_iff] at hc
  obtain ⟨x', hx', y', hy', hc⟩ := hc
  have rx := evo_rel hs hx'
  have ry := evo_rel hs hy'
  split at hc
  · rename_i n hn
    simp only [Option.some.injEq] at hc; subst hc
    simp only [ieff] at h
    split at h
    · rename_i r off e; rw [e] at rx
      split at h
      · rename_i hlen
        simp only [Option.map_eq_some_iff, Prod.mk.injEq] at h
        obtain ⟨H1, h1, rfl, rfl⟩ := h
        obtain ⟨row, k1, k2, k3, k4, rfl⟩ := aput_spec h1
        obtain ⟨z, hz, hv⟩ := rx.ptr_inv
        have hr := cells_of_parts ry k4
        have hl := VRelL.length hr
        obtain ⟨i1, i2, i3⟩ := inv.write k1 k2 hz k3 k4 hr
        refine ⟨undef, _, ρ, .inr ⟨?_, rfl⟩, RMap.le_refl _, .any _, i1, by rw [size_setCells]; exact Nat.le_refl _, fun h => by cases h⟩
        have hst := run_storeCells_cells (P := P) z.b (z.d + off) (a.eval y).cells.toList 0 w (by simpa using i2) (by simpa using i3) (oneCells_of hr k4)
        have hsz : (a.eval y).cells.size = n := by rw [← hlen, hl]; simp
        simp only [Nat.add_zero] at hst
        simp [execOp, hv, Instr.storeAt, Instr.sureAddr, storeVar, run_size hn, hsz, hst]
      · cases h
    · cases h
  · cases hc

theorem replicate_rel {z : AV} {u : Value} (h : VRel ρ z u) : ∀ n, VRelL ρ (List.replicate n z) (List.replicate n u)
  | 0 => .nil
  | n + 1 => by rw [List.replicate_succ, List.replicate_succ]; exact .cons _ _ _ _ h (replicate_rel h n)

theorem madeCells_one (u : Value) (n : Nat) : (madeCells #[u] n).toList = List.replicate n u := by
  apply List.ext_getElem
  · simp [madeCells]
  · intro i h1 h2
    simp [madeCells, Nat.mod_one]

theorem madeCells_many (z : Array Value) (h : 0 < z.size) : ∀ n, (madeCells z (n * z.size)).toList = (List.replicate n z.toList).flatten
  | 0 => by simp [madeCells]
  | n + 1 => by
    rw [List.replicate_succ', List.flatten_concat, ← madeCells_many z h n]
    apply List.ext_getElem
    · simp [madeCells, Nat.succ_mul]
    · intro i h1 h2
      simp only [madeCells, Array.toList_map, Array.toList_range, List.length_map, List.length_range] at h1
      rw [List.getElem_append]
      by_cases hi : i < n * z.size
      · rw [dif_pos (by simpa [madeCells] using hi)]
        simp [madeCells]
      · rw [dif_neg (by simpa [madeCells] using hi)]
        simp only [madeCells, Array.toList_map, Array.toList_range, List.getElem_map, List.getElem_range, List.length_map, List.length_range]
        have e : i % z.size = i - n * z.size := by
          rw [Nat.succ_mul] at h1
          rw [← Nat.mod_eq_of_lt (show i - n * z.size < z.size by omega)]
          conv => lhs; rw [show i = (i - n * z.size) + n * z.size by omega]
          exact Nat.add_mul_mod_self_right _ _ _
        have hlt : i - n * z.size < z.size := by rw [Nat.succ_mul] at h1; omega
        rw [e, getElem!_pos z _ hlt]
        simp

theorem flatten_rel {zs : List AV} {us : List Value} (h : VRelL ρ zs us) : ∀ n, VRelL ρ (List.replicate n zs).flatten (List.replicate n us).flatten
  | 0 => .nil
  | n + 1 => by
    rw [List.replicate_succ, List.replicate_succ, List.flatten_cons, List.flatten_cons]
    exact h.append (flatten_rel h n)

theorem does_make (inv : Inv w0 ex ρ H w) (hs : SRel ρ s a) {t x y e} (hc : effOf P (.makeSlice t x y) = some e) (h : ieff e s H = some (v, H')) : Does P a ⟨dst, .makeSlice t x y, ty, pos, af, g⟩ w0 ex ρ w v H' e.safe := by
  simp only [effOf, Option.bind_eq_bind, Option.bind_eq_some_iff] at hc
  obtain ⟨x', hx', y', hy', hc⟩ := hc
  have rx := evo_rel hs hx'
  have ry := evo_rel hs hy'
  split at hc
  · rename_i el hu
    split at hc
    · rename_i ti hti
      split at hc
      · rename_i z hz
        split at hc
        · rename_i h1
          obtain ⟨hsz, hzc⟩ := h1
          simp only [Option.some.injEq] at hc; subst hc
          simp only [ieff] at h
          split at h
          · rename_i kl l kc c e1 e2
            rw [e1] at rx; rw [e2] at ry
            split at h
            · rename_i hb
              obtain ⟨b1, b2, b3, b4⟩ := hb
              simp only [Option.map_eq_some_iff, Prod.mk.injEq] at h
              obtain ⟨H1, h1, rfl, rfl⟩ := h
              obtain ⟨k1, rfl⟩ := anew_spec h1
              obtain ⟨u, hu1⟩ := array_one _ hzc
              have hmk := run_make (P := P) w t el ti z hu hti hz kl kc l c b1 b2 b3 b4
              have hM : (madeCells z.cells (c.toNat * ti.size)).toList = List.replicate c.toNat u := by rw [hu1, hsz, Nat.mul_one, madeCells_one]
              have hzz : AV.const1 (z.cells.getD 0 z) = AV.const1 u := by rw [hu1]; rfl
              have hrel : VRelL ρ (List.replicate c.toNat (AV.const1 (z.cells.getD 0 z))) (madeCells z.cells (c.toNat * ti.size)).toList := by
                rw [hM, hzz]; exact replicate_rel (VRel.const1 u) _
              have hl := VRelL.length hrel
              obtain ⟨i1, i2⟩ := inv.alloc false (madeCells z.cells (c.toNat * ti.size)) el k1 (by rw [hl, List.take_length]; exact hrel) (fun _ => by rw [hl]; simp)
              have hp := VRel.slice (ρ := ρ.put H.length ⟨w.heap.size, 0, (madeCells z.cells (c.toNat * ti.size)).size⟩) H.length 0 l.toNat c.toNat ⟨w.heap.size, 0, (madeCells z.cells (c.toNat * ti.size)).size⟩ RMap.put_same (by omega)
              refine ⟨.slice (some ⟨w.heap.size, 0, none⟩) l.toNat c.toNat, _, _, .inl ?_, i2, hp, i1, by simp, fun _ k hk => RowKit.Below.heap_alloc _ _ _ hk⟩
              simp [execOp, rx.int_inv, ry.int_inv, hmk]
            · cases h
          · cases h
        · split at hc
          · rename_i h1
            obtain ⟨hsz, hpos⟩ := h1
            simp only [Option.some.injEq] at hc; subst hc
            simp only [ieff] at h
            split at h
            · rename_i kl l kc c e1 e2
              rw [e1] at rx; rw [e2] at ry
              split at h
              · rename_i hb
                obtain ⟨b1, b2, b3, b4⟩ := hb
                simp only [Option.map_eq_some_iff, Prod.mk.injEq] at h
                obtain ⟨H1, h1, rfl, rfl⟩ := h
                obtain ⟨k1, rfl⟩ := anew_spec h1
                have hmk := run_make (P := P) w t el ti z hu hti hz kl kc l c b1 b2 b3 b4
                have hM : (madeCells z.cells (c.toNat * ti.size)).toList = (List.replicate c.toNat z.cells.toList).flatten := by rw [hsz]; exact madeCells_many _ (by omega) _
                have hrel : VRelL ρ (List.replicate c.toNat (z.cells.toList.map AV.const1)).flatten (madeCells z.cells (c.toNat * ti.size)).toList := by
                  rw [hM]; exact flatten_rel (VRelL.const1 _) _
                have hl := VRelL.length hrel
                obtain ⟨i1, i2⟩ := inv.alloc false (madeCells z.cells (c.toNat * ti.size)) el k1 (by rw [hl, List.take_length]; exact hrel) (fun _ => by rw [hl]; simp)
                have hp := VRel.slice (ρ := ρ.put H.length ⟨w.heap.size, 0, (madeCells z.cells (c.toNat * ti.size)).size⟩) H.length 0 l.toNat c.toNat ⟨w.heap.size, 0, (madeCells z.cells (c.toNat * ti.size)).size⟩ RMap.put_same (by omega)
                refine ⟨.slice (some ⟨w.heap.size, 0, none⟩) l.toNat c.toNat, _, _, .inl ?_, i2, hp, i1, by simp, fun _ k hk => RowKit.Below.heap_alloc _ _ _ hk⟩
                simp [execOp, rx.int_inv, ry.int_inv, hmk]
              · cases h
            · cases h
          · cases hc
      · cases hc
    · cases hc
  · cases hc
end Go.Vh


/- append and copy. -/
namespace Go.Vh
open Go

variable {P : Program} {a : Act} {ρ : RMap} {s : St} {w0 w : World} {ex : Nat → Prop} {H H' : AHeap}

theorem run_append_grows {t u ty e e' : TypeId} {i : TypeInfo} {z : Value} (ht : P.underlying t = some (.slice e)) (hu : P.underlying u = some (.slice e')) (hi : P.info? e = some i) (hz : i.zero = some z)
    (base : Option Addr) (sLen sCap : Nat) (olds : List Value) (hfo : ∀ w, w.heap = w.heap → (∀ b j v, base = some b → olds[j]? = some v → w.cell? (b.add j) = some v) → (Builtin.firstCells i.size sLen (.slice base sLen sCap)).run P w = .ok olds.toArray w)
    (holds : ∀ b j v, base = some b → olds[j]? = some v → w.cell? (b.add j) = some v)
    (src : Option Addr) (n c : Nat) (news : List Value) (hfn : ∀ w, (∀ b j v, src = some b → news[j]? = some v → w.cell? (b.add j) = some v) → (Builtin.firstCells i.size n (.slice src n c)).run P w = .ok news.toArray w)
    (hnews : ∀ b j v, src = some b → news[j]? = some v → w.cell? (b.add j) = some v)
    (hg : sCap < sLen + n) (hb : (sLen + n) * i.bytes ≤ 140737488355328) (h63 : sLen + n ≤ 9223372036854775807) :
    (Builtin.append_ #[t, u] ty #[.slice base sLen sCap, .slice src n c]).run P w =
      .ok (.slice (some ⟨w.heap.size, 0, none⟩) (sLen + n) (grownCap w (sLen + n) sCap e))
        (w.drew.alloc (.cells (olds.toArray ++ news.toArray ++ Builtin.zeroCells z.cells (grownCap w (sLen + n) sCap e - (sLen + n))) e)) := by
  have hn : ¬ (sLen + n ≤ sCap) := by omega
  have h63' : ¬ (9223372036854775807 < ((sLen : Int) + (n : Int))) := by omega
  have h48 := growslice_fits hg hb
  have h48' : ¬ (281474976710656 < Builtin.nextslicecap (sLen + n) sCap * i.bytes) := by omega
  have hf := hfn w.drew (by simpa using hnews)
  have hfo := hfo w.drew rfl (by simpa using holds)
  simp [Builtin.append_, run_und ht, run_und hu, sizeOf, typeInfo, zeroValue, hi, hz, Builtin.lenOf, hn, h63', h48', Question.forced, hf, hfo, newRow, grownCap]
  congr 2
  apply Array.ext'
  simp [List.append_assoc]

theorem run_append_fits' {t u ty e e' : TypeId} {i : TypeInfo} (ht : P.underlying t = some (.slice e)) (hu : P.underlying u = some (.slice e')) (hi : P.info? e = some i)
    (b off sLen sCap : Nat) (src : Option Addr) (n c : Nat) (news : List Value) (hfn : (Builtin.firstCells i.size n (.slice src n c)).run P w = .ok news.toArray w)
    (hroom : sLen + n ≤ sCap) (h1 : ∀ u ∈ news, u.oneCell' = true) (hc : ∀ j, j < news.length → (w.cell? ⟨b, off + sLen * i.size + j, none⟩).isSome = true) (hf : ∀ j, j < news.length → w.frozen? ⟨b, off + sLen * i.size + j, none⟩ = false) :
    (Builtin.append_ #[t, u] ty #[.slice (some ⟨b, off, none⟩) sLen sCap, .slice src n c]).run P w = .ok (.slice (some ⟨b, off, none⟩) (sLen + n) sCap) (w.setCells b (off + sLen * i.size) news) := by
  have hst := run_storeCells_cells (P := P) b (off + sLen * i.size) news 0 w (by simpa using hc) (by simpa using hf) h1
  simp only [Nat.add_zero] at hst
  simp [Builtin.append_, run_und ht, run_und hu, sizeOf, typeInfo, hi, Builtin.lenOf, hroom, hfn, Addr.add_eq, hst]

/-- Nothing is appended to what is empty. -/
theorem run_append_nothing {t u ty e e' : TypeId} {i : TypeInfo} (ht : P.underlying t = some (.slice e)) (hu : P.underlying u = some (.slice e')) (hi : P.info? e = some i)
    (base : Option Addr) (src : Option Addr) (c : Nat) (hfn : (Builtin.firstCells i.size 0 (.slice src 0 c)).run P w = .ok #[] w) :
    (Builtin.append_ #[t, u] ty #[.slice base 0 0, .slice src 0 c]).run P w = .ok (.slice base 0 0) w := by
  cases base <;> simp [Builtin.append_, run_und ht, run_und hu, sizeOf, typeInfo, hi, Builtin.lenOf, hfn, storeCells]

/-- A slice's cells, as the builtins read them. -/
theorem src_ok (inv : Inv w0 ex ρ H w) {sz : Nat} {x : AV} {x' : Value} (hx : VRel ρ x x') {xs : List AV} (h : asrc sz x H = some xs) {n : Nat} (hn : alen x = some n) :
    ∃ p c vs, x' = .slice p n c ∧ VRelL ρ xs vs ∧ vs.length = n * sz ∧ (∀ b j v, p = some b → vs[j]? = some v → w.cell? (b.add j) = some v) ∧
      (∀ w', (∀ b j v, p = some b → vs[j]? = some v → w'.cell? (b.add j) = some v) → (Builtin.firstCells sz n (.slice p n c)).run P w' = .ok vs.toArray w') := by
  have none : ∀ {p c}, n * sz = 0 → x' = .slice p n c → xs = [] → ∃ p c vs, x' = .slice p n c ∧ VRelL ρ xs vs ∧ vs.length = n * sz ∧ (∀ b j v, p = some b → vs[j]? = some v → w.cell? (b.add j) = some v) ∧
      (∀ w', (∀ b j v, p = some b → vs[j]? = some v → w'.cell? (b.add j) = some v) → (Builtin.firstCells sz n (.slice p n c)).run P w' = .ok vs.toArray w') := fun {p c} h0 he hxs => by
    subst hxs
    refine ⟨p, c, [], he, .nil, by simp [h0], fun b j v _ hj => by simp at hj, fun w' _ => ?_⟩
    cases p <;> simp [Builtin.firstCells, h0, loadCells, loadCellsFrom]
  have some_ : ∀ {p c r off y}, n * sz ≠ 0 → x' = .slice (some ⟨p, c, Option.none⟩) n y → ∀ l : Loc, ρ r = some l → p = l.b → c = l.d + off → cellsAt H r off (n * sz) = some xs →
      ∃ p c vs, x' = .slice p n c ∧ VRelL ρ xs vs ∧ vs.length = n * sz ∧ (∀ b j v, p = some b → vs[j]? = some v → w.cell? (b.add j) = some v) ∧
      (∀ w', (∀ b j v, p = some b → vs[j]? = some v → w'.cell? (b.add j) = some v) → (Builtin.firstCells sz n (.slice p n c)).run P w' = .ok vs.toArray w') := fun {p c r off y} h0 he l hl hp hc h => by
    subst hp; subst hc
    obtain ⟨row, hr, hle, rfl⟩ := cellsAt_spec h
    obtain ⟨vs, k1, k2, k3, k4⟩ := inv.sim.read hr hl hle
    refine ⟨_, _, vs, he, k2, k1, fun b j v hb hj => ?_, fun w' hw' => ?_⟩
    · cases hb; exact k4 j v hj
    · exact run_firstCells_some w' sz n _ n y vs k1 (fun j v hj => hw' _ j v rfl hj)
  unfold asrc at h
  unfold alen at hn
  split at h
  · simp only [Option.some.injEq] at hn h; subst hn; subst h
    exact none (by simp) hx.nilslice_inv rfl
  · rename_i r off m c
    simp only [Option.some.injEq] at hn; subst hn
    split at h
    · rename_i h0
      simp only [Option.some.injEq] at h
      rcases hx.slice_inv with ⟨y, hy, hle, he⟩ | ⟨k0, k1, q, he⟩
      · exact none h0 he h.symm
      · subst k0; exact none h0 he h.symm
    · rename_i h0
      rcases hx.slice_inv with ⟨y, hy, hle, he⟩ | ⟨k0, k1, q, he⟩
      · exact some_ h0 he y hy rfl rfl h
      · subst k0; simp at h0
  · rename_i r off m sz'
    simp only [Option.some.injEq] at hn; subst hn
    split at h
    · rename_i hsz; subst hsz
      split at h
      · rename_i h0
        simp only [Option.some.injEq] at h
        rcases hx.sliceU_inv with ⟨y, c, hy, hle, hfit, he⟩ | ⟨k0, q, he⟩
        · exact none h0 he h.symm
        · subst k0; exact none h0 he h.symm
      · rename_i h0
        rcases hx.sliceU_inv with ⟨y, c, hy, hle, hfit, he⟩ | ⟨k0, q, he⟩
        · exact some_ h0 he y hy rfl rfl h
        · subst k0; simp at h0
    · cases h
  · simp only [Option.some.injEq] at hn; subst hn
    split at h
    · rename_i h0
      simp only [Option.some.injEq] at h
      cases hx
      exact none (by rw [h0, Nat.zero_mul]) rfl h.symm
    · cases h
  · cases h

theorem grownCap_le (w : World) (need old : Nat) (e : TypeId) : need ≤ grownCap w need old e := by
  exact Nat.le_add_right _ _
theorem size_zeroCells (z : Array Value) (n : Nat) : (Builtin.zeroCells z n).size = n * z.size := by simp [Builtin.zeroCells]

/-- What has grown, for the invariant. -/
theorem Inv.grown (inv : Inv w0 ex ρ H w) {cells : List AV} {vs : List Value} (hrel : VRelL ρ cells vs) (hcell : cells.all AV.cell = true) (Z : Array Value) (e : TypeId) (sz len cap : Nat)
    (hcap : cap * sz ≤ vs.length + Z.size) (hle : len ≤ cap) :
    ∃ ρ', ρ.le ρ' ∧ VRel ρ' (.sliceU H.length 0 len sz) (.slice (some ⟨w.heap.size, 0, none⟩) len cap) ∧ Inv w0 ex ρ' (H ++ [some ⟨true, true, cells⟩]) (w.drew.alloc (.cells (vs.toArray ++ Z) e)) := by
  have inv' : Inv w0 ex ρ H w.drew := ⟨inv.sim.drew, inv.frm.drew⟩
  have hl := VRelL.length hrel
  obtain ⟨i1, i2⟩ := inv'.alloc true (vs.toArray ++ Z) e hcell (by simp [hl]; exact hrel) (by simp)
  refine ⟨_, i2, ?_, i1⟩
  have := VRel.sliceU (ρ := ρ.put H.length ⟨w.drew.heap.size, 0, (vs.toArray ++ Z).size⟩) H.length 0 len sz cap ⟨w.drew.heap.size, 0, (vs.toArray ++ Z).size⟩ RMap.put_same hle (by simp; omega)
  simpa using this

variable {dst : Option Nat} {ty : TypeId} {pos : String} {af : Array Edge} {g : Option (Nat × Bool)} {v : AV}

theorem all_append {l l' : List AV} (h : l.all AV.cell = true) (h' : l'.all AV.cell = true) : (l ++ l').all AV.cell = true := by
  simp only [List.all_append, h, h', Bool.and_self]


theorem app_case {t u : TypeId} {X Y : Operand} {r : Value} {w1 : World} (hrun : (Builtin.append_ #[t, u] ty #[a.eval X, a.eval Y]).run P w = .ok r w1)
    {ρ' : RMap} (hle : ρ.le ρ') (hv : VRel ρ' v r) (hi : Inv w0 ex ρ' H' w1) (hsz : w.heap.size ≤ w1.heap.size) :
    Does P a ⟨dst, .call ⟨.builtin .append, #[X, Y], #[t, u]⟩, ty, pos, af, g⟩ w0 ex ρ w v H' false :=
  ⟨r, w1, ρ', .inl (by simp [execOp, resolve, invoke, builtin, hrun]), hle, hv, hi, hsz, fun h => by cases h⟩

theorem does_append (inv : Inv w0 ex ρ H w) (hs : SRel ρ s a) {X Y : Operand} {t u e1 e2 : TypeId} {x y : Opd} {ti : TypeInfo} {z : Value} (hx : Opd.of X = some x) (hy : Opd.of Y = some y)
    (ht : P.underlying t = some (.slice e1)) (hu : P.underlying u = some (.slice e2)) (hi : P.info? e1 = some ti) (hz : ti.zero = some z) (hpos : 0 < ti.bytes) (hzc : z.cells.size = ti.size)
    (h : ieff (.append ti.size ti.bytes x y) s H = some (v, H')) : Does P a ⟨dst, .call ⟨.builtin .append, #[X, Y], #[t, u]⟩, ty, pos, af, g⟩ w0 ex ρ w v H' false := by
  have rx := evo_rel hs hx
  have ry := evo_rel hs hy
  simp only [ieff] at h
  split at h
  case h_2 => cases h
  rename_i n hn
  simp only [Option.bind_eq_some_iff] at h
  obtain ⟨xs, hxs, h⟩ := h
  obtain ⟨p, c, vs, hy', hrel, hlen, hcells, hfirst⟩ := src_ok (P := P) inv ry hxs hn
  -- what grows, out of whatever was there
  have grow : ∀ (H : AHeap) (_ : Inv w0 ex ρ H w) (base : Option Addr) (sLen sCap : Nat) (olds : List Value) (old : List AV), a.eval X = .slice base sLen sCap → VRelL ρ old olds → olds.length = sLen * ti.size →
      (∀ b j v, base = some b → olds[j]? = some v → w.cell? (b.add j) = some v) → (base = none → sLen = 0) → (old ++ xs).all AV.cell = true → sCap < sLen + n → (sLen + n) * ti.bytes ≤ 70368744177664 → sLen + n ≤ 9223372036854775807 →
      ∃ r w1 ρ', (Builtin.append_ #[t, u] ty #[a.eval X, a.eval Y]).run P w = .ok r w1 ∧ ρ.le ρ' ∧ VRel ρ' (.sliceU H.length 0 (sLen + n) ti.size) r ∧ Inv w0 ex ρ' (H ++ [some ⟨true, true, old ++ xs⟩]) w1 ∧ w.heap.size ≤ w1.heap.size := by
    intro H inv base sLen sCap olds old hX hro hlo hco hb0 hall hg hbytes h63
    have hrun := run_append_grows (P := P) (w := w) (ty := ty) ht hu hi hz base sLen sCap olds (fun w' _ hw' => by
        cases base with
        | none =>
          have : olds = [] := List.length_eq_zero_iff.1 (by rw [hlo, hb0 rfl, Nat.zero_mul])
          subst this
          exact run_firstCells_none w' _ _ _ _
        | some b => exact run_firstCells_some w' _ _ _ _ _ olds hlo (fun j v hj => hw' b j v rfl hj)) hco p n c vs (fun w' hw' => hfirst w' hw') hcells hg (by omega) h63
    have hcap := grownCap_le w (sLen + n) sCap e1
    obtain ⟨ρ', k1, k2, k3⟩ := inv.grown (VRelL.append hro hrel) hall (Builtin.zeroCells z.cells (grownCap w (sLen + n) sCap e1 - (sLen + n))) e1 ti.size (sLen + n) (grownCap w (sLen + n) sCap e1)
      (by rw [size_zeroCells, hzc, List.length_append, hlo, hlen, ← Nat.add_mul, ← Nat.add_mul]; exact Nat.le_of_eq (by congr 1; omega)) hcap
    refine ⟨_, _, ρ', ?_, k1, k2, k3, by simp⟩
    rw [hX, hy', hrun]
    simp
  -- the slice is empty, and has no room
  have fresh : ∀ (H : AHeap) (_ : Inv w0 ex ρ H w) (base : Option Addr), a.eval X = .slice base 0 0 → xs.all AV.cell = true → n * ti.bytes ≤ 70368744177664 → n ≤ 9223372036854775807 →
      ∃ r w1 ρ', (Builtin.append_ #[t, u] ty #[a.eval X, a.eval Y]).run P w = .ok r w1 ∧ ρ.le ρ' ∧ VRel ρ' (.sliceU H.length 0 n ti.size) r ∧ Inv w0 ex ρ' (H ++ [some ⟨true, true, xs⟩]) w1 ∧ w.heap.size ≤ w1.heap.size := by
    intro H inv base hX hall hbytes h63
    by_cases hn0 : n = 0
    · subst hn0
      have hvs : vs = [] := List.length_eq_zero_iff.1 (by rw [hlen, Nat.zero_mul])
      subst hvs
      cases hrel
      have hrun := run_append_nothing (P := P) (w := w) (ty := ty) ht hu hi base p c (hfirst w hcells)
      refine ⟨.slice base 0 0, w, ρ.put H.length ⟨0, 0, 0⟩, by rw [hX, hy', hrun], RMap.le_put (inv.sim.dom _ (Nat.le_refl _)), .sliceU0 _ _ _ _, ⟨?_, inv.frm⟩, Nat.le_refl _⟩
      exact inv.sim.push ⟨true, true, []⟩ ⟨0, 0, 0⟩ (fun i c hi => by simp at hi) (fun _ => ⟨by simp, by simp, fun hn => absurd rfl hn⟩) (fun _ _ _ _ _ _ _ _ hn _ => absurd rfl hn) (fun hne => absurd rfl hne)
    · have := grow H inv base 0 0 [] [] hX .nil (by simp) (fun b j v _ hj => by simp at hj) (fun _ => rfl) (by simpa using hall) (by omega) (by simpa using hbytes) (by simpa using h63)
      simpa using this
  have small : ∀ {m : Nat}, m * ti.bytes ≤ 70368744177664 → m ≤ 9223372036854775807 := fun {m} hm => by
    have := Nat.le_mul_of_pos_right m hpos
    omega
  unfold aappend at h
  split at h
  · rename_i e0; rw [e0] at rx
    split at h
    · rename_i hb
      simp only [Option.map_eq_some_iff, Prod.mk.injEq] at h
      obtain ⟨H1, h1, rfl, rfl⟩ := h
      obtain ⟨k1, rfl⟩ := anew_spec h1
      obtain ⟨r, w1, ρ', q1, q2, q3, q4, q5⟩ := fresh H inv none rx.nilslice_inv k1 hb (small hb)
      exact app_case q1 q2 q3 q4 q5
    · cases h
  · rename_i r off len cap e0; rw [e0] at rx
    split at h
    · rename_i hb
      split at h
      · rename_i hc0; subst hc0
        simp only [Option.map_eq_some_iff, Prod.mk.injEq] at h
        obtain ⟨H1, h1, rfl, rfl⟩ := h
        obtain ⟨k1, rfl⟩ := anew_spec h1
        have hX : len = 0 ∧ ∃ base, a.eval X = .slice base 0 0 := by
          rcases rx.slice_inv with ⟨y, hy, hle, he⟩ | ⟨k0, _, q, he⟩
          · have : len = 0 := by omega
            subst this; exact ⟨rfl, _, he⟩
          · exact ⟨k0, _, he⟩
        obtain ⟨rfl, base, hX⟩ := hX
        rw [Nat.zero_add] at hb
        obtain ⟨r, w1, ρ', q1, q2, q3, q4, q5⟩ := fresh H inv base hX k1 hb (small hb)
        exact app_case q1 q2 q3 q4 q5
      · rename_i hc0
        have hX : ∃ l, ρ r = some l ∧ len ≤ cap ∧ a.eval X = .slice (some ⟨l.b, l.d + off, none⟩) len cap := by
          rcases rx.slice_inv with ⟨y, hy, hle, he⟩ | ⟨_, k0, q, he⟩
          · exact ⟨y, hy, hle, he⟩
          · exact absurd k0 hc0
        obtain ⟨l, hl, hle, hX⟩ := hX
        split at h
        · rename_i hg
          simp only [Option.bind_eq_some_iff, Option.map_eq_some_iff, Prod.mk.injEq] at h
          obtain ⟨old, ho, H1, h1, rfl, rfl⟩ := h
          obtain ⟨k1, rfl⟩ := anew_spec h1
          obtain ⟨row, hr, hfit, rfl⟩ := cellsAt_spec ho
          obtain ⟨olds, j1, j2, j3, j4⟩ := inv.sim.read hr hl hfit
          obtain ⟨r, w1, ρ', q1, q2, q3, q4, q5⟩ := grow H inv _ len cap olds _ hX j2 j1 (fun b j v hb hj => by cases hb; exact j4 j v hj) (fun hb => by cases hb) k1 hg hb (small hb)
          exact app_case q1 q2 q3 q4 q5
        · rename_i hg
          simp only [Option.map_eq_some_iff, Prod.mk.injEq] at h
          obtain ⟨H1, h1, rfl, rfl⟩ := h
          obtain ⟨row, k1, k2, k3, k4, rfl⟩ := aput_spec h1
          obtain ⟨i1, i2, i3⟩ := inv.write k1 k2 hl k3 k4 hrel
          have hrun := run_append_fits' (P := P) (w := w) (ty := ty) ht hu hi l.b (l.d + off) len cap p n c vs (hfirst w hcells) (by omega) (oneCells_of hrel k4)
            (by simpa [Nat.add_assoc] using i2) (by simpa [Nat.add_assoc] using i3)
          rw [← hy', ← hX, Nat.add_assoc] at hrun
          exact app_case hrun (RMap.le_refl _) (.slice r off (len + n) cap l hl (by omega)) i1 (by rw [size_setCells]; exact Nat.le_refl _)
    · cases h
  · rename_i r off len sz' e0; rw [e0] at rx
    split at h
    · rename_i hb
      obtain ⟨hb, rfl⟩ := hb
      simp only [Option.bind_eq_some_iff] at h
      obtain ⟨row, hr, h⟩ := h
      split at h
      · rename_i hcond
        obtain ⟨c1, c2, c3, c4⟩ := hcond
        simp only [Option.some.injEq, Prod.mk.injEq] at h
        obtain ⟨rfl, rfl⟩ := h
        have hk := inv.sim.kill r
        have invk : Inv w0 ex ρ (H.set r none) w := ⟨hk, inv.frm⟩
        have hHl : (H.set r none).length = H.length := by simp
        have hdl : (row.cells.drop off).length = len * ti.size := by rw [List.length_drop]; omega
        rcases rx.sliceU_inv with ⟨l, cap, hl, hle, hfit, hX⟩ | ⟨rfl, base, hX⟩
        · have hoff : off + len * ti.size ≤ row.cells.length := by omega
          obtain ⟨olds, j1, j2, j3, j4⟩ := inv.sim.read hr hl hoff
          have htake : (row.cells.drop off).take (len * ti.size) = row.cells.drop off := List.take_of_length_le (by omega)
          rw [htake] at j2 j3
          by_cases hg : cap < len + n
          · obtain ⟨r', w1, ρ', q1, q2, q3, q4, q5⟩ := grow _ invk _ len cap olds _ hX j2 j1 (fun b j v hb hj => by cases hb; exact j4 j v hj) (fun hb => by cases hb) (all_append j3 c4) hg hb (small hb)
            rw [hHl] at q3
            exact app_case q1 q2 q3 q4 q5
          · obtain ⟨o1, o2, o3⟩ := inv.sim.own r row l hr c1 hl
            have hmul : len * ti.size + n * ti.size ≤ cap * ti.size := by rw [← Nat.add_mul]; exact Nat.mul_le_mul_right _ (by omega)
            have hex : ∀ j, j < vs.length → (w.cell? ⟨l.b, l.d + off + len * ti.size + j, none⟩).isSome = true ∧ w.frozen? ⟨l.b, l.d + off + len * ti.size + j, none⟩ = false := fun j hj => by
              obtain ⟨_, ⟨C, e, fr, hC, hsz⟩, hfr⟩ := o3 (by omega)
              refine ⟨?_, hfr _ (by omega)⟩
              rw [cell_of_block hC, Array.getElem?_eq_getElem (by omega)]; rfl
            have hrun := run_append_fits' (P := P) (w := w) (ty := ty) ht hu hi l.b (l.d + off) len cap p n c vs (hfirst w hcells) (by omega) (oneCells_of hrel c4) (fun j hj => (hex j hj).1) (fun j hj => (hex j hj).2)
            rw [← hy', ← hX] at hrun
            have hlv := VRelL.length hrel
            have hnone : ρ H.length = none := inv.sim.dom _ (Nat.le_refl _)
            have alive : ∀ r' row', rowAt (H.set r none) r' = some row' → r' ≠ r ∧ rowAt H r' = some row' := fun r' row' he => by
              rw [rowAt_set (rowAt_lt hr)] at he
              by_cases e : r' = r
              · simp [e] at he
              · exact ⟨e, by simpa [e] using he⟩
            have apart : ∀ {r' row' x'}, rowAt (H.set r none) r' = some row' → ρ r' = some x' → (row'.own = true ∨ row'.cells ≠ []) → l.n ≠ 0 → x'.n ≠ 0 → l.b ≠ x'.b := fun {r' row' x'} h1 h2 h3 h4 h5 =>
              inv.sim.dist r r' row row' l x' hr (alive _ _ h1).2 c1 (Ne.symm (alive _ _ h1).1) h3 hl h2 h4 h5
            have sim1 : Sim w0.heap.size ex ρ (H.set r none) (w.setCells l.b (l.d + off + len * ti.size) vs) := by
              by_cases hv : vs = []
              · subst hv; exact hk
              have hvl : 0 < vs.length := List.length_pos_iff.2 hv
              have hln : l.n ≠ 0 := by omega
              refine hk.of_cells (fun r' row' x' h1 h2 i hi => ?_) (fun r' row' x' h1 h2 h3 h4 => ?_)
              · have hne : row'.cells ≠ [] := by intro e0; rw [e0] at hi; simp at hi
                exact World.cell?_setCells_out _ _ _ _ _ (fun e _ => absurd e.symm (apart h1 h2 (.inr hne) hln (hk.room _ _ _ h1 h2 hne)))
              · obtain ⟨_, ⟨C, e, fr, hC, hsz⟩, hfr⟩ := (hk.own r' row' x' h1 h2 h3).2.2 h4
                refine ⟨⟨C, e, fr, ?_, hsz⟩, fun i hi => by rw [World.frozen?_setCells]; exact hfr i hi⟩
                rw [heap_setCells _ _ _ _ _ (apart h1 h3 (.inl h2) hln h4).symm]; exact hC
            have hsim : Sim w0.heap.size ex (ρ.put (H.set r none).length ⟨l.b, l.d + off, l.n⟩) (H.set r none ++ [some ⟨true, true, row.cells.drop off ++ xs⟩]) (w.setCells l.b (l.d + off + len * ti.size) vs) := by
              refine sim1.push ⟨true, true, row.cells.drop off ++ xs⟩ ⟨l.b, l.d + off, l.n⟩ (fun i ci hci => ?_) (fun _ => ⟨?_, by simp, fun hn0 => ⟨(o3 hn0).1, ?_, fun i hi => ?_⟩⟩) (fun r' row' x' h1 h2 _ h3 _ h4 h5 => apart h1 h2 h3 h4 h5) (fun hne => ?_)
              · simp only at hci ⊢
                by_cases hlt : i < len * ti.size
                · rw [List.getElem?_append_left (by omega)] at hci
                  rw [List.getElem?_drop] at hci
                  obtain ⟨hcc, u, hu1, hu2⟩ := inv.sim.cells r row l hr hl (off + i) ci hci
                  refine ⟨hcc, u, ?_, hu2⟩
                  rw [World.cell?_setCells_out _ _ _ _ _ (fun _ _ => .inl (by simp; omega)), Nat.add_assoc]; exact hu1
                · rw [List.getElem?_append_right (by omega), hdl] at hci
                  obtain ⟨u, hu1, hu2⟩ := VRelL.get hrel hci
                  refine ⟨(List.all_eq_true.1 c4) ci (List.mem_of_getElem? hci), u, ?_, hu2⟩
                  obtain ⟨hlt', hu'⟩ := List.getElem?_eq_some_iff.1 hu1
                  have := World.cell?_setCells_in l.b vs (l.d + off + len * ti.size) w (fun j hj => (hex j hj).1) (i - len * ti.size) hlt'
                  rw [show l.d + off + len * ti.size + (i - len * ti.size) = l.d + off + i by omega, hu'] at this
                  exact this
              · simp only [List.length_append, hdl, hlv, hlen]; omega
              · obtain ⟨C, e, fr, hC, hsz⟩ := (o3 hn0).2.1
                obtain ⟨C', hC', hsz'⟩ := block_setCells l.b vs (l.d + off + len * ti.size) w hC
                exact ⟨C', e, fr, hC', by simp only; omega⟩
              · rw [World.frozen?_setCells]; exact (o3 hn0).2.2 i hi
              · simp only at hne ⊢
                have : 0 < (row.cells.drop off ++ xs).length := List.length_pos_iff.2 hne
                simp only [List.length_append, hdl, hlv, hlen] at this
                omega
            have hfrm : Frm w0.heap.size ex w0 (w.setCells l.b (l.d + off + len * ti.size) vs) := by
              by_cases hv : vs = []
              · subst hv; exact inv.frm
              have hvl : 0 < vs.length := List.length_pos_iff.2 hv
              exact inv.frm.setCells (o3 (by omega)).1 _ _
            rw [hHl] at hsim
            exact app_case hrun (RMap.le_put hnone) (.sliceU _ _ _ _ cap ⟨l.b, l.d + off, l.n⟩ RMap.put_same (by omega) (by simp only; omega)) ⟨hsim, hfrm⟩ (by rw [size_setCells]; exact Nat.le_refl _)
        · have hdrop : row.cells.drop off = [] := List.length_eq_zero_iff.1 (by rw [hdl, Nat.zero_mul])
          rw [Nat.zero_add] at hb
          obtain ⟨r', w1, ρ', q1, q2, q3, q4, q5⟩ := fresh _ invk base hX c4 hb (small hb)
          rw [hHl] at q3
          rw [hdrop, List.nil_append, Nat.zero_add]
          exact app_case q1 q2 q3 q4 q5
      · cases h
    · cases h
  · cases h
end Go.Vh

