/- The operations that read or write the heap. -/
import Derived.Test.YtleicopofpompaaDoorVh4
import Derived.Laws.BytesArg
set_option linter.unusedSimpArgs false
set_option linter.unusedVariables false
namespace Go.Vh
open Go

inductive EOp where
  | load1 (x : Opd)
  | loadN (n : Nat) (x : Opd)
  | alloc (zero : List AV)
  | box (x : Opd)
  | buildSlice (len : Nat) (zeros : List AV) (parts : List (Nat × Nat × Opd))
  | makeSlice (zero : AV) (bytes : Nat) (l c : Opd)
  | makeSliceN (zeros : List AV) (bytes : Nat) (l c : Opd)
  | store (n : Nat) (x v : Opd)
  | append (sz bytes : Nat) (x y : Opd)
  | copy (sz : Nat) (x y : Opd)
  | bytesToStr (x : Opd)
  deriving Inhabited

def cellsAt (H : AHeap) (r off n : Nat) : Option (List AV) :=
  (rowAt H r).bind fun row => if off + n ≤ row.cells.length then some ((row.cells.drop off).take n) else none

/-- What a slice's cells hold. -/
def asrc (sz : Nat) (x : AV) (H : AHeap) : Option (List AV) :=
  match x with
  | .nilslice => some []
  | .slice r off n _ => if n * sz = 0 then some [] else cellsAt H r off (n * sz)
  | .sliceU r off n sz' => if sz' = sz then (if n * sz = 0 then some [] else cellsAt H r off (n * sz)) else none
  | .lit (.slice (some _) n _) => if n = 0 then some [] else none
  | _ => none

def splice (l : List AV) (i : Nat) (cs : List AV) : List AV := l.take i ++ cs ++ l.drop (i + cs.length)

def aput (H : AHeap) (r off : Nat) (cs : List AV) : Option AHeap :=
  (rowAt H r).bind fun row => if row.own = true ∧ off + cs.length ≤ row.cells.length ∧ cs.all AV.cell = true then some (H.set r (some { row with cells := splice row.cells off cs })) else none

def anew (H : AHeap) (slack : Bool) (cells : List AV) : Option AHeap :=
  if cells.all AV.cell = true then some (H ++ [some ⟨true, slack, cells⟩]) else none

/-- An append of n elements with the cells xs. -/
def aappend (sz bytes : Nat) (x : AV) (n : Nat) (xs : List AV) (H : AHeap) : Option (AV × AHeap) :=
  match x with
  | .nilslice => if n * bytes ≤ 70368744177664 then (anew H true xs).map fun H' => (.sliceU H.length 0 n sz, H') else none
  | .slice r off len cap =>
    if (len + n) * bytes ≤ 70368744177664 then
      if cap = 0 then (anew H true xs).map fun H' => (.sliceU H.length 0 n sz, H')
      else if cap < len + n then (cellsAt H r off (len * sz)).bind fun old => (anew H true (old ++ xs)).map fun H' => (.sliceU H.length 0 (len + n) sz, H')
      else (aput H r (off + len * sz) xs).map fun H' => (.slice r off (len + n) cap, H')
    else none
  | .sliceU r off len sz' =>
    if (len + n) * bytes ≤ 70368744177664 ∧ sz' = sz then
      (rowAt H r).bind fun row => if row.own = true ∧ row.slack = true ∧ off + len * sz = row.cells.length ∧ xs.all AV.cell = true then
        some (.sliceU H.length 0 (len + n) sz, H.set r none ++ [some ⟨true, true, row.cells.drop off ++ xs⟩]) else none
    else none
  | _ => none

def abytes : List AV → Option (List Int)
  | [] => some []
  | .int .u8 n :: l => (abytes l).map fun r => n :: r
  | _ => none

def ieff (e : EOp) (s : St) (H : AHeap) : Option (AV × AHeap) :=
  match e with
  | .load1 x => match evo s x with
    | .ptr r off => ((rowAt H r).bind fun row => row.cells[off]?).map fun v => (v, H)
    | _ => none
  | .loadN n x => match evo s x with
    | .ptr r off => (cellsAt H r off n).map fun l => (.agg l, H)
    | _ => none
  | .alloc zero => (anew H false zero).map fun H' => (.ptr H.length 0, H')
  | .box x => (anew H false (aparts (evo s x))).map fun H' => (.ptr H.length 0, H')
  | .buildSlice len zeros parts => (afill zeros (parts.map fun (o, n, x) => (o, n, evo s x))).bind fun l => (anew H false l).map fun H' => (.slice H.length 0 len len, H')
  | .makeSlice zero bytes l c => match evo s l, evo s c with
    | .int _ l, .int _ c => if 0 ≤ l ∧ l ≤ c ∧ bytes * c ≤ 281474976710656 ∧ c ≤ 9223372036854775807 then
        (anew H false (List.replicate c.toNat zero)).map fun H' => (.slice H.length 0 l.toNat c.toNat, H') else none
    | _, _ => none
  | .makeSliceN zeros bytes l c => match evo s l, evo s c with
    | .int _ l, .int _ c => if 0 ≤ l ∧ l ≤ c ∧ bytes * c ≤ 281474976710656 ∧ c ≤ 9223372036854775807 then
        (anew H false (List.replicate c.toNat zeros).flatten).map fun H' => (.slice H.length 0 l.toNat c.toNat, H') else none
    | _, _ => none
  | .store n x v => match evo s x with
    | .ptr r off => if (aparts (evo s v)).length = n then (aput H r off (aparts (evo s v))).map fun H' => (.any, H') else none
    | _ => none
  | .append sz bytes x y => match alen (evo s y) with
    | some n => (asrc sz (evo s y) H).bind fun xs => aappend sz bytes (evo s x) n xs H
    | none => none
  | .copy sz x y => match alen (evo s x), alen (evo s y) with
    | some n, some m => (asrc sz (evo s y) H).bind fun xs => match evo s x with
      | .slice r off _ _ => if min m n = 0 then some (.int .i64 0, H) else (aput H r off (xs.take (min m n * sz))).map fun H' => (.int .i64 (min m n : Nat), H')
      | .sliceU r off _ sz' => if min m n = 0 then some (.int .i64 0, H) else if sz' = sz then (aput H r off (xs.take (min m n * sz))).map fun H' => (.int .i64 (min m n : Nat), H') else none
      | .nilslice => some (.int .i64 0, H)
      | _ => none
    | _, _ => none
  | .bytesToStr x => match alen (evo s x) with
    | some _ => (asrc 1 (evo s x) H).bind fun l => (abytes l).map fun ns => (.str (strOfNums ns), H)
    | none => none

def effOf (P : Program) (o : Op) : Option EOp :=
  match o with
  | .load t x => do
    let x ← Opd.of x
    match P.underlying t, sizeA P t with
    | some d, some n => some (if aggD d then .loadN n x else .load1 x)
    | _, _ => none
  | .alloc t => match P.info? t with
    | some ti => ti.zero.map fun z => .alloc (z.cells.toList.map AV.const1)
    | none => none
  | .box _ x => (Opd.of x).map .box
  | .makeSlice t l c => do
    let l ← Opd.of l
    let c ← Opd.of c
    match P.underlying t with
    | some (.slice e) => match P.info? e with
      | some ti => match ti.zero with
        | some z => if ti.size = 1 ∧ z.cells.size = 1 then some (.makeSlice (AV.const1 (z.cells.getD 0 z)) ti.bytes l c) else if ti.size = z.cells.size ∧ 0 < ti.size then some (.makeSliceN (z.cells.toList.map AV.const1) ti.bytes l c) else none
        | none => none
      | none => none
    | _ => none
  | .store t x v => do
    let x ← Opd.of x
    let v ← Opd.of v
    match sizeA P t with
    | some n => some (.store n x v)
    | none => none
  | .convert t u x => do
    let x ← Opd.of x
    match P.underlying t, P.underlying u with
    | some (.slice e), some .string => match P.underlying e with
      | some (.int .u8) => some (.bytesToStr x)
      | _ => none
    | _, _ => none
  | .call c => match c.callee, c.args.toList, c.argTypes.toList with
    | .builtin .append, [x, y], [t, u] => do
      let x ← Opd.of x
      let y ← Opd.of y
      match P.underlying t, P.underlying u with
      | some (.slice e), some (.slice _) => match P.info? e with
        | some ti => match ti.zero with
          | some z => if 0 < ti.bytes ∧ z.cells.size = ti.size then some (.append ti.size ti.bytes x y) else none
          | none => none
        | none => none
      | _, _ => none
    | .builtin .copy, [x, y], [t, u] => do
      let x ← Opd.of x
      let y ← Opd.of y
      match P.underlying t, P.underlying u with
      | some (.slice e), some (.slice _) => (sizeA P e).map fun n => .copy n x y
      | _, _ => none
    | _, _, _ => none
  | _ => none
end Go.Vh
