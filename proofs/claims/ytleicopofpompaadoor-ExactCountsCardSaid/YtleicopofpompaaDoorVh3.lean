/- The operations that only compute: their meaning on virtual values. -/
import Derived.Test.YtleicopofpompaaDoorVh2
import Derived.WalkKit
import Derived.WalkSpells
import Derived.WalkLawsBesides
set_option linter.unusedSimpArgs false
set_option linter.unusedVariables false
namespace Go.Vh
open Go

inductive Opd where
  | t (n : Nat)
  | c (v : AV)
  deriving Inhabited

def AV.const1 : Value → AV
  | .int k n => .int k n
  | .bool b => .bool b
  | .string s => .str s
  | .pointer none => .nilptr
  | .slice none 0 0 => .nilslice
  | v => .lit v
def AV.const : Value → AV
  | .agg cs => .agg (cs.toList.map AV.const1)
  | v => AV.const1 v

def Opd.of : Operand → Option Opd
  | .tmp n => if n < 1048576 then some (Opd.t n) else none
  | .const v => some (Opd.c (AV.const v))
  | .func f => some (Opd.c (.func f []))
  | .global g => some (Opd.t (1048576 + g))

def evo (s : St) : Opd → AV
  | .t n => s n
  | .c v => v

theorem VRel.const1 {ρ : RMap} (v : Value) : VRel ρ (AV.const1 v) v := by
  unfold AV.const1
  split <;> constructor
theorem VRelL.const1 {ρ : RMap} : ∀ l : List Value, VRelL ρ (l.map AV.const1) l
  | [] => .nil
  | v :: l => .cons _ _ _ _ (VRel.const1 v) (VRelL.const1 l)
theorem VRel.const {ρ : RMap} (v : Value) : VRel ρ (AV.const v) v := by
  unfold AV.const
  split
  · exact .agg _ _ (VRelL.const1 _)
  · exact VRel.const1 _

theorem evo_rel {ρ : RMap} {s : St} {a : Act} (h : SRel ρ s a) {x : Operand} {y : Opd} (hy : Opd.of x = some y) : VRel ρ (evo s y) (a.eval x) := by
  cases x with
  | tmp n =>
    simp only [Opd.of] at hy
    split at hy
    · rename_i hn
      simp only [Option.some.injEq] at hy; subst hy
      have := h n
      rw [tv_lt hn] at this
      exact this
    · cases hy
  | const v => simp only [Opd.of, Option.some.injEq] at hy; subst hy; exact VRel.const _
  | global g =>
    simp only [Opd.of, Option.some.injEq] at hy; subst hy
    have := h (1048576 + g)
    rw [tv_glob] at this
    exact this
  | func f => simp only [Opd.of, Option.some.injEq] at hy; subst hy; exact .func _ _ _ .nil

/-- What only computes. -/
inductive POp where
  | move (x : Opd)
  | pick (c a b : Opd)
  | bin (op : BinOp) (x y : Opd)
  | binB (neg : Bool) (x y : Opd)
  | isNil (neg : Bool) (x y : Opd)
  | not (x : Opd)
  | neg (x : Opd)
  | compl (x : Opd)
  | conv (k : IntKind) (x : Opd)
  | build (zero : List AV) (parts : List (Nat × Nat × Opd))
  | field (off n : Nat) (agg : Bool) (x : Opd)
  | fieldAddr (off : Nat) (x : Opd)
  | indexAddr (sz : Nat) (x i : Opd)
  | indexAddrA (len sz : Nat) (x i : Opd)
  | indexStr (x i : Opd)
  | slice (sz : Nat) (x : Opd) (lo hi : Option Opd)
  | sliceStr (x : Opd) (lo hi : Option Opd)
  | slice3 (sz : Nat) (x : Opd) (lo : Option Opd) (hi mx : Opd)
  | extract (x : Opd) (i : Nat)
  | len (x : Opd)
  | lenStr (x : Opd)
  | cap (x : Opd)
  | minmax (isMax : Bool) (x y : Opd)
  | makeFunc (f : FuncId) (caps : List Opd)
  | makeBound (f : FuncId) (first caps : List Opd)
  | nilCheck (x : Opd)
  | minmaxL (isMax : Bool) (l : List Opd)
  | eqPtr (neg : Bool) (x y : Opd)
  | stuck
  deriving Inhabited

def abits (op : BinOp) (k : IntKind) (x y : Int) : Int :=
  let a := BitVec.ofInt k.bits x
  let b := BitVec.ofInt k.bits y
  match op with
  | .and => k.wrap (a &&& b).toNat
  | .or => k.wrap (a ||| b).toNat
  | .xor => k.wrap (a ^^^ b).toNat
  | _ => k.wrap (a &&& ~~~b).toNat

def aint (op : BinOp) (k : IntKind) (a b : Int) : Option AV :=
  match op with
  | .add => some (.int k (k.wrap (a + b)))
  | .sub => some (.int k (k.wrap (a - b)))
  | .mul => some (.int k (k.wrap (a * b)))
  | .quo => if b = 0 then none else some (.int k (k.wrap (a.tdiv b)))
  | .rem => if b = 0 then none else some (.int k (a.tmod b))
  | .and => some (.int k (abits .and k a b))
  | .or => some (.int k (abits .or k a b))
  | .xor => some (.int k (abits .xor k a b))
  | .andNot => some (.int k (abits .andNot k a b))
  | .eql => some (.bool (a == b))
  | .neq => some (.bool (a != b))
  | .lss => some (.bool (decide (a < b)))
  | .leq => some (.bool (decide (a ≤ b)))
  | .gtr => some (.bool (decide (b < a)))
  | .geq => some (.bool (decide (b ≤ a)))
  | _ => none

def ashift (op : BinOp) (k : IntKind) (a b : Int) : Option AV :=
  if b < 0 then none else
  match op with
  | .shl => some (.int k (k.wrap (a * 2 ^ (min b.toNat k.bits))))
  | .shr => some (.int k (a.fdiv (2 ^ (min b.toNat k.bits))))
  | _ => none

def astr (op : BinOp) (x y : ByteArray) : Option AV :=
  match op with
  | .add => if x.size + y.size ≤ 9223372036854775807 then some (.str (x ++ y)) else none
  | .eql => some (.bool (x.toList == y.toList))
  | .neq => some (.bool !(x.toList == y.toList))
  | .lss => some (.bool (Op.bytesLess x.toList y.toList))
  | _ => none

def abin (op : BinOp) (x y : AV) : Option AV :=
  match x, y with
  | .int k a, .int k' b => match op with
    | .shl => ashift .shl k a b
    | .shr => ashift .shr k a b
    | op => if k = k' then aint op k a b else none
  | .str a, .str b => astr op a b
  | _, _ => none

def alen : AV → Option Nat
  | .nilslice => some 0
  | .slice _ _ n _ => some n
  | .sliceU _ _ n _ => some n
  | .lit (.slice (some _) n _) => some n
  | _ => none

/-- Is it nil? Where that is not known: none. -/
def anil : AV → Option Bool
  | .nilslice => some true
  | .slice _ _ n c => if n = 0 ∧ c = 0 then none else some false
  | .sliceU _ _ n _ => if n = 0 then none else some false
  | .lit (.slice (some _) _ _) => some false
  | _ => none

/-- Are two pointers the same? Where that is not known: none. -/
def aptr : AV → AV → Option Bool
  | .nilptr, .nilptr => some true
  | .nilptr, .ptr _ _ => some false
  | .ptr _ _, .nilptr => some false
  | .ptr r o, .ptr r' o' => if r = r' ∧ o = o' then some true else none
  | _, _ => none

def aparts (v : AV) : List AV := match v with | .agg l => l | v => [v]

def afill (cs : List AV) : List (Nat × Nat × AV) → Option (List AV)
  | [] => some cs
  | (off, size, v) :: rest =>
    if (aparts v).length = size ∧ off + size ≤ cs.length ∧ (aparts v).all AV.cell = true then afill (cs.take off ++ aparts v ++ cs.drop (off + size)) rest else none

def abound (x : AV) (most : Nat) : Option Nat :=
  match x with
  | .int _ i => if 0 ≤ i ∧ i ≤ most then some i.toNat else none
  | _ => none

def aindexAddr (sz : Nat) (x i : AV) : Option AV :=
  match x, i with
  | .slice r off n _, .int _ j => if 0 ≤ j ∧ j < n then some (.ptr r (off + j.toNat * sz)) else none
  | .sliceU r off n _, .int _ j => if 0 ≤ j ∧ j < n then some (.ptr r (off + j.toNat * sz)) else none
  | _, _ => none

/-- A bound that may lack. -/
def ahi (b : Option AV) (dflt most : Nat) : Option Nat :=
  match b with
  | some v => abound v most
  | none => some dflt

def aslice (sz : Nat) (x : AV) (lo hi : Option AV) : Option AV :=
  match x with
  | .slice r off n c => (ahi hi n c).bind fun h => (ahi lo 0 h).bind fun l => some (.slice r (off + l * sz) (h - l) (c - l))
  | .sliceU r off n sz' => (ahi hi n n).bind fun h => (ahi lo 0 h).bind fun l => if sz' = sz then some (.sliceU r (off + l * sz) (h - l) sz) else none
  | .nilslice => (ahi hi 0 0).bind fun h => (ahi lo 0 h).bind fun _ => some .nilslice
  | _ => none

/-- A slice with its capacity named. -/
def aslice3 (sz : Nat) (x : AV) (lo : Option AV) (hi mx : AV) : Option AV :=
  match x with
  | .slice r off _ c => (abound mx c).bind fun m => (abound hi m).bind fun h => (ahi lo 0 h).bind fun l => some (.slice r (off + l * sz) (h - l) (m - l))
  | _ => none

def asliceStr (x : AV) (lo hi : Option AV) : Option AV :=
  match x with
  | .str s => (ahi hi s.size s.size).bind fun h => (ahi lo 0 h).bind fun l => some (.str (s.extract l h))
  | _ => none

def amm (isMax : Bool) (x y : AV) : Option AV :=
  match x, y with
  | .int k a, .int _ b => some (.int k (if isMax then (if b > a then b else a) else (if b < a then b else a)))
  | _, _ => none
def amms (isMax : Bool) (l : List AV) : Option AV :=
  match l with
  | [] => none
  | x :: r => r.foldlM (amm isMax) x

def ipure (p : POp) (s : St) : Option AV :=
  match p with
  | .move x => some (evo s x)
  | .pick c a b => match evo s c with
    | .bool true => some (evo s a)
    | .bool false => some (evo s b)
    | _ => none
  | .bin op x y => abin op (evo s x) (evo s y)
  | .binB neg x y => match evo s x, evo s y with
    | .bool a, .bool b => some (.bool (if neg then !(a == b) else a == b))
    | _, _ => none
  | .isNil neg x y => match anil (evo s x), anil (evo s y) with
    | some true, some b => some (.bool (if neg then !b else b))
    | some b, some true => some (.bool (if neg then !b else b))
    | _, _ => none
  | .not x => match evo s x with
    | .bool b => some (.bool !b)
    | _ => none
  | .neg x => match evo s x with
    | .int k n => some (.int k (k.wrap (0 - n)))
    | _ => none
  | .compl x => match evo s x with
    | .int k n => some (.int k (abits .xor k (if k.signed then -1 else k.max) n))
    | _ => none
  | .conv k x => match evo s x with
    | .int _ n => some (.int k (k.wrap n))
    | _ => none
  | .build zero parts => (afill zero (parts.map fun (o, n, x) => (o, n, evo s x))).map AV.agg
  | .field off n agg x => match evo s x with
    | .agg l => if agg then (if off + n ≤ l.length then some (.agg ((l.drop off).take n)) else none) else l[off]?
    | _ => none
  | .fieldAddr off x => match evo s x with
    | .ptr r o => some (.ptr r (o + off))
    | _ => none
  | .indexAddr sz x i => aindexAddr sz (evo s x) (evo s i)
  | .indexAddrA len sz x i => match evo s x, evo s i with
    | .ptr r o, .int _ j => if 0 ≤ j ∧ j < len then some (.ptr r (o + j.toNat * sz)) else none
    | _, _ => none
  | .indexStr x i => match evo s x, evo s i with
    | .str b, .int _ j => if 0 ≤ j then (b[j.toNat]?).map fun c => .int .u8 c.toNat else none
    | _, _ => none
  | .slice sz x lo hi => aslice sz (evo s x) (lo.map (evo s)) (hi.map (evo s))
  | .slice3 sz x lo hi mx => aslice3 sz (evo s x) (lo.map (evo s)) (evo s hi) (evo s mx)
  | .sliceStr x lo hi => asliceStr (evo s x) (lo.map (evo s)) (hi.map (evo s))
  | .extract x i => match evo s x with
    | .tuple l => l[i]?
    | _ => none
  | .len x => (alen (evo s x)).map fun (n : Nat) => AV.int .i64 (n : Int)
  | .lenStr x => match evo s x with
    | .str b => some (.int .i64 b.size)
    | _ => none
  | .cap x => match evo s x with
    | .nilslice => some (.int .i64 0)
    | .slice _ _ _ c => some (.int .i64 c)
    | _ => none
  | .minmax isMax x y => match evo s x, evo s y with
    | .int k a, .int _ b => some (.int k (if isMax then (if b > a then b else a) else (if b < a then b else a)))
    | _, _ => none
  | .makeFunc f caps => some (.func f (caps.map (evo s)))
  | .makeBound f first caps => some (.bound f (first.map (evo s)) (caps.map (evo s)))
  | .nilCheck x => match evo s x with
    | .ptr r o => some (.ptr r o)
    | .func f l => some (.func f l)
    | .bound f k l => some (.bound f k l)
    | .iface t v => some (.iface t v)
    | _ => none
  | .minmaxL isMax l => amms isMax (l.map (evo s))
  | .eqPtr neg x y => (aptr (evo s x) (evo s y)).map fun b => AV.bool (if neg then !b else b)
  | .stuck => none

end Go.Vh
