/- The operations that only compute are what they mean on virtual values. -/
import Derived.Test.YthbhljolpnbdlaaV1
import Derived.Laws.StructEq
import Derived.ChangeKeysEq
set_option linter.unusedSimpArgs false
set_option linter.unusedVariables false
namespace Go.Vh
open Go

def opds (l : List Operand) : Option (List Opd) := l.mapM Opd.of
def opdO : Option Operand → Option (Option Opd)
  | none => some none
  | some x => (Opd.of x).map some

def aggD : TypeDesc → Bool
  | .struct _ | .array _ _ => true
  | _ => false

def fieldsAt (P : Program) (t : TypeId) (i : Nat) : Option (Nat × Nat × Bool) :=
  match P.underlying t with
  | some (.struct fs) => match fs[i]? with
    | some f => match P.info? f.type, P.underlying f.type with
      | some ti, some d => some (f.offset, ti.size, aggD d)
      | _, _ => none
    | none => none
  | _ => none

def sizeA (P : Program) (t : TypeId) : Option Nat := (P.info? t).map (·.size)

/-- the kind of a flat field -/
def kindF (P : Program) (f : Field) : Option (Nat × Nat) :=
  if f.name = "_" then none else
  match P.underlying f.type with
  | some (.int _) => some (f.offset, 0)
  | some .bool => some (f.offset, 1)
  | some .string => some (f.offset, 2)
  | _ => none
def kindsF (P : Program) : List Field → Option (List (Nat × Nat))
  | [] => some []
  | f :: fs => match kindF P f, kindsF P fs with
    | some k, some l => some (k :: l)
    | _, _ => none
def flatF (P : Program) (t : TypeId) (fs : List Field) : Option (List (Nat × Nat)) :=
  if P.stoodInHeld t = false ∧ P.eqGuardType P.depth t = false then kindsF P fs else none

/-- the fields of so many structs one behind the other -/
def arrK (c : Nat) (ks : List (Nat × Nat)) (is : List Nat) : List (Nat × Nat) := is.flatMap fun j => ks.map fun p => (j * c + p.1, p.2)
/-- the flat cells of an array of structs with flat fields -/
def flatA (P : Program) (t e : TypeId) (n : Nat) : Option (List (Nat × Nat)) :=
  match P.underlying e with
  | some (.struct fs) => match kindsF P fs.toList with
    | some ks => if P.stoodInHeld e = false ∧ P.eqGuardType P.depth t = false ∧ (∀ q ∈ ks, q.1 < P.cellsOf e) then some (arrK (P.cellsOf e) ks (List.range n)) else none
    | none => none
  | _ => none

def pureOf (P : Program) (o : Op) : Option POp :=
  match o with
  | .move x => (Opd.of x).map .move
  | .assign x => (Opd.of x).map .move
  | .pick c a b => do some (.pick (← Opd.of c) (← Opd.of a) (← Opd.of b))
  | .binOp op t x y _ => do
    let x ← Opd.of x
    let y ← Opd.of y
    match P.underlying t with
    | some (.int _) => some (.bin op x y)
    | some .string => some (.bin op x y)
    | some .bool => match op with
      | .eql => some (.binB false x y)
      | .neq => some (.binB true x y)
      | _ => none
    | some (.slice _) => match op with
      | .eql => some (.isNil false x y)
      | .neq => some (.isNil true x y)
      | _ => none
    | some (.pointer e) => match sizeA P e, op with
      | some _, .eql => some (.eqPtr false x y)
      | some _, .neq => some (.eqPtr true x y)
      | _, _ => none
    | some (.struct fs) => match flatF P t fs.toList, op with
      | some l, .eql => some (.eqAgg false l x y)
      | some l, .neq => some (.eqAgg true l x y)
      | _, _ => none
    | some (.array n e) => match flatA P t e n, op with
      | some l, .eql => some (.eqAgg false l x y)
      | some l, .neq => some (.eqAgg true l x y)
      | _, _ => none
    | _ => none
  | .unOp op _ x => do
    let x ← Opd.of x
    match op with
    | .not => some (.not x)
    | .neg => some (.neg x)
    | .xor => some (.compl x)
    | _ => none
  | .convert src dst x => do
    let x ← Opd.of x
    match P.underlying src, P.underlying dst with
    | some (.int _), some (.int k) => some (.conv k x)
    | _, _ => none
  | .field t x f => do
    let x ← Opd.of x
    let (off, n, agg) ← fieldsAt P t f
    some (.field off n agg x)
  | .fieldAddr t x f => do
    let x ← Opd.of x
    let (off, n, _) ← fieldsAt P t f
    if n = 0 then none else some (.fieldAddr off x)
  | .indexAddr t x i => do
    let x ← Opd.of x
    let i ← Opd.of i
    match P.underlying t with
    | some (.slice e) => (sizeA P e).map fun n => .indexAddr n x i
    | some (.array len e) => (sizeA P e).map fun n => .indexAddrA len n x i
    | _ => none
  | .index t x i => do
    let x ← Opd.of x
    let i ← Opd.of i
    match P.underlying t with
    | some .string => some (.indexStr x i)
    | _ => none
  | .slice t x lo hi none => do
    let x ← Opd.of x
    let lo ← opdO lo
    let hi ← opdO hi
    match P.underlying t with
    | some (.slice e) => (sizeA P e).map fun n => .slice n x lo hi
    | some .string => some (.sliceStr x lo hi)
    | _ => none
  | .slice t x lo (some hi) (some mx) => do
    let x ← Opd.of x
    let lo ← opdO lo
    let hi ← Opd.of hi
    let mx ← Opd.of mx
    match P.underlying t with
    | some (.slice e) => (sizeA P e).map fun n => .slice3 n x lo hi mx
    | _ => none
  | .extract x i => (Opd.of x).map fun x => .extract x i
  | .call c => match c.callee, c.args.toList, c.argTypes[0]? with
    | .builtin .len, [x], some t => do
      let x ← Opd.of x
      match P.underlying t with
      | some (.slice _) => some (.len x)
      | some .string => some (.lenStr x)
      | _ => none
    | .builtin .cap, [x], some t => do
      let x ← Opd.of x
      match P.underlying t with
      | some (.slice _) => some (.cap x)
      | _ => none
    | .builtin .min, [x, y], _ => do some (.minmax false (← Opd.of x) (← Opd.of y))
    | .builtin .max, [x, y], _ => do some (.minmax true (← Opd.of x) (← Opd.of y))
    | .builtin .min, x :: y :: z :: r, _ => (opds (x :: y :: z :: r)).map (.minmaxL false)
    | .builtin .max, x :: y :: z :: r, _ => (opds (x :: y :: z :: r)).map (.minmaxL true)
    | _, _, _ => none
  | .makeFunc (.func f) first caps => if first.size = 0 then do some (.makeFunc f (← opds caps.toList)) else do some (.makeBound f (← opds first.toList) (← opds caps.toList))
  | .nilCheck x => (Opd.of x).map .nilCheck
  | _ => none

/-- What an operation that only computes leaves. -/
def Gives (P : Program) (a : Act) (o : Oper) (ρ : RMap) (v : AV) : Prop :=
  ∃ v', VRel ρ v v' ∧ ∀ w, (execOp a.eval o).run P w = .ok (.value v') w

section
variable {P : Program} {a : Act} {ρ : RMap} {s : St}

theorem VRel.int_inv {k n v} (h : VRel ρ (.int k n) v) : v = .int k n := by cases h; rfl
theorem VRel.bool_inv {b v} (h : VRel ρ (.bool b) v) : v = .bool b := by cases h; rfl
theorem VRel.str_inv {b v} (h : VRel ρ (.str b) v) : v = .string b := by cases h; rfl
theorem VRel.ptr_inv {r off v} (h : VRel ρ (.ptr r off) v) : ∃ x, ρ r = some x ∧ v = .pointer (some ⟨x.b, x.d + off, none⟩) := by cases h; exact ⟨_, ‹_›, rfl⟩
theorem VRel.agg_inv {l v} (h : VRel ρ (.agg l) v) : ∃ cs, v = .agg cs ∧ VRelL ρ l cs.toList := by cases h; exact ⟨_, rfl, ‹_›⟩
theorem VRel.tuple_inv {l v} (h : VRel ρ (.tuple l) v) : ∃ cs, v = .tuple cs ∧ VRelL ρ l cs.toList := by cases h; exact ⟨_, rfl, ‹_›⟩
theorem VRel.func_inv {f l v} (h : VRel ρ (.func f l) v) : ∃ cs, v = .func (.func f) #[] cs ∧ VRelL ρ l cs.toList := by cases h; exact ⟨_, rfl, ‹_›⟩
theorem VRel.bound_inv {f k l v} (h : VRel ρ (.bound f k l) v) : ∃ fs cs, v = .func (.func f) fs cs ∧ VRelL ρ k fs.toList ∧ VRelL ρ l cs.toList := by cases h; exact ⟨_, _, rfl, ‹_›, ‹_›⟩
theorem VRel.iface_inv {t u v} (h : VRel ρ (.iface t u) v) : ∃ v', v = .iface t v' ∧ VRel ρ u v' := by cases h; exact ⟨_, rfl, ‹_›⟩
theorem VRel.slice_inv {r off len cap v} (h : VRel ρ (.slice r off len cap) v) : (∃ x, ρ r = some x ∧ len ≤ cap ∧ v = .slice (some ⟨x.b, x.d + off, none⟩) len cap) ∨ (len = 0 ∧ cap = 0 ∧ ∃ a, v = .slice a 0 0) := by
  cases h
  · exact .inl ⟨_, ‹_›, ‹_›, rfl⟩
  · exact .inr ⟨rfl, rfl, _, rfl⟩
theorem VRel.sliceU_inv {r off len sz v} (h : VRel ρ (.sliceU r off len sz) v) : (∃ x cap, ρ r = some x ∧ len ≤ cap ∧ x.d + off + cap * sz ≤ x.n ∧ v = .slice (some ⟨x.b, x.d + off, none⟩) len cap) ∨ (len = 0 ∧ ∃ a, v = .slice a 0 0) := by
  cases h
  · exact .inl ⟨_, _, ‹_›, ‹_›, ‹_›, rfl⟩
  · exact .inr ⟨rfl, _, rfl⟩
theorem VRel.nilslice_inv {v} (h : VRel ρ .nilslice v) : v = .slice none 0 0 := by cases h; rfl

theorem aint_ok {op k x y v} (h : aint op k x y = some v) (t : TypeId) : ∃ v', VRel ρ v v' ∧ ∀ w, (binOp op t (.int k x) (.int k y)).run P w = .ok v' w := by
  unfold aint at h
  split at h
  case h_4 =>
    split at h
    · cases h
    · simp only [Option.some.injEq] at h; subst h; exact ⟨_, .int _ _, fun w => by simp [binOp, Op.intDiv, *]⟩
  case h_5 =>
    split at h
    · cases h
    · simp only [Option.some.injEq] at h; subst h; exact ⟨_, .int _ _, fun w => by simp [binOp, Op.intDiv, *]⟩
  case h_16 => cases h
  all_goals
    simp only [Option.some.injEq] at h
    subst h
    first
      | (refine ⟨_, .int _ _, fun w => ?_⟩; simp [binOp, Op.intArith]; done)
      | (refine ⟨_, .int _ _, fun w => ?_⟩; simp [binOp, Op.intBits, abits]; done)
      | (refine ⟨_, .bool _, fun w => ?_⟩; simp [binOp, Op.intCmp]; done)

theorem abin_ok {op x y v x' y'} (hx : VRel ρ x x') (hy : VRel ρ y y') (h : abin op x y = some v) (t : TypeId) :
    (∀ (X Y : Operand) w, (eqGuard op t X Y x' y').run P w = .ok () w) ∧ ∃ v', VRel ρ v v' ∧ ∀ w, (binOp op t x' y').run P w = .ok v' w := by
  unfold abin at h
  split at h
  · obtain rfl := hx.int_inv
    obtain rfl := hy.int_inv
    refine ⟨fun X Y w => by unfold eqGuard; split <;> simp, ?_⟩
    split at h
    · unfold ashift at h
      split at h
      · cases h
      · simp only [Option.some.injEq] at h; subst h
        exact ⟨_, .int _ _, fun w => by simp [binOp, Op.shift, *]⟩
    · unfold ashift at h
      split at h
      · cases h
      · simp only [Option.some.injEq] at h; subst h
        exact ⟨_, .int _ _, fun w => by simp [binOp, Op.shift, *]⟩
    · split at h
      · rename_i hk
        subst hk
        exact aint_ok h t
      · cases h
  · rename_i sa sb
    obtain rfl := hx.str_inv
    obtain rfl := hy.str_inv
    refine ⟨fun X Y w => by unfold eqGuard; split <;> simp, ?_⟩
    unfold astr at h
    split at h
    · split at h
      · rename_i hle
        simp only [Option.some.injEq] at h; subst h
        refine ⟨_, .str _, fun w => ?_⟩
        have h63 : ¬ (IntKind.i64.max < ((sa.size + sb.size : Nat) : Int)) := by
          have : IntKind.i64.max = 9223372036854775807 := by decide
          rw [this]; omega
        simp only [binOp, Op.stringOp, gt_iff_lt]
        rw [if_neg h63]; rfl
      · cases h
    all_goals first
      | (simp only [Option.some.injEq] at h; subst h; exact ⟨_, .bool _, fun w => by simp [binOp, Op.stringOp]⟩)
      | cases h
  · cases h

theorem anil_ok {x x' b} (hx : VRel ρ x x') (h : anil x = some b) : ∃ p n c, x' = .slice p n c ∧ b = p.isNone := by
  unfold anil at h
  split at h <;> first | cases h | skip
  · exact ⟨_, _, _, hx.nilslice_inv, rfl⟩
  · split at h
    · cases h
    · cases h; cases hx
      · exact ⟨_, _, _, rfl, rfl⟩
      · rename_i hn; exact (hn ⟨rfl, rfl⟩).elim
  · split at h
    · cases h
    · cases h; cases hx
      · exact ⟨_, _, _, rfl, rfl⟩
      · exact absurd rfl ‹_›
  · cases hx; exact ⟨_, _, _, rfl, rfl⟩

theorem run_und {t d} (h : P.underlying t = some d) (w : World) : (underlying t).run P w = .ok d w := by
  unfold underlying
  simp [h]
theorem run_size {t n} (h : sizeA P t = some n) (w : World) : (sizeOf t).run P w = .ok n w := by
  unfold sizeA at h
  cases hi : P.info? t with
  | none => simp [hi] at h
  | some i => simp [hi] at h; subst h; simp [sizeOf, typeInfo, hi]

theorem run_eqB {t} (hu : P.underlying t = some .bool) (b1 b2 : Bool) (w : World) :
    (binOp .eql t (.bool b1) (.bool b2)).run P w = .ok (.bool (b1 == b2)) w ∧ (binOp .neq t (.bool b1) (.bool b2)).run P w = .ok (.bool !(b1 == b2)) w := by
  have e : ∀ d, (Op.equalIn (d + 1) t (.bool b1) (.bool b2)).run P w = .ok (b1 == b2) w := fun d => by
    rw [Op.equalIn, Sem.run_bind, run_und hu]; rfl
  have e2 : (Op.equal t (.bool b1) (.bool b2)).run P w = .ok (b1 == b2) w := e 9999
  constructor
  · show ((Op.equal t (.bool b1) (.bool b2)) >>= fun r => pure (Value.bool r)).run P w = _
    rw [Sem.run_bind, e2]; rfl
  · show ((Op.equal t (.bool b1) (.bool b2)) >>= fun r => pure (Value.bool !r)).run P w = _
    rw [Sem.run_bind, e2]; rfl

theorem run_eqS {t u} (hu : P.underlying t = some (.slice u)) (p1 p2 : Option Addr) (n1 c1 n2 c2 : Nat) (hp : p1 = none ∨ p2 = none) (w : World) :
    (binOp .eql t (.slice p1 n1 c1) (.slice p2 n2 c2)).run P w = .ok (.bool (p1.isNone && p2.isNone)) w ∧ (binOp .neq t (.slice p1 n1 c1) (.slice p2 n2 c2)).run P w = .ok (.bool !(p1.isNone && p2.isNone)) w := by
  have e : ∀ d, (Op.equalIn (d + 1) t (.slice p1 n1 c1) (.slice p2 n2 c2)).run P w = .ok (p1.isNone && p2.isNone) w := fun d => by
    rw [Op.equalIn, Sem.run_bind, run_und hu]
    rcases p1 with _ | p1 <;> rcases p2 with _ | p2
    · rfl
    · rfl
    · rfl
    · simp at hp
  have e2 : (Op.equal t (.slice p1 n1 c1) (.slice p2 n2 c2)).run P w = .ok (p1.isNone && p2.isNone) w := e 9999
  constructor
  · show ((Op.equal t (.slice p1 n1 c1) (.slice p2 n2 c2)) >>= fun r => pure (Value.bool r)).run P w = _
    rw [Sem.run_bind, e2]; rfl
  · show ((Op.equal t (.slice p1 n1 c1) (.slice p2 n2 c2)) >>= fun r => pure (Value.bool !r)).run P w = _
    rw [Sem.run_bind, e2]; rfl

theorem aptr_ok {x y x' y' b} (hx : VRel ρ x x') (hy : VRel ρ y y') (h : aptr x y = some b) : ∃ p q, x' = .pointer p ∧ y' = .pointer q ∧ ((p = none ∨ q = none) ∧ b = (p.isNone && q.isNone) ∨ p = q ∧ p ≠ none ∧ b = true) := by
  unfold aptr at h
  split at h
  · cases h; cases hx; cases hy; exact ⟨_, _, rfl, rfl, .inl ⟨.inl rfl, rfl⟩⟩
  · cases h; cases hx; cases hy; exact ⟨_, _, rfl, rfl, .inl ⟨.inl rfl, rfl⟩⟩
  · cases h; cases hx; cases hy; exact ⟨_, _, rfl, rfl, .inl ⟨.inr rfl, rfl⟩⟩
  · split at h
    · rename_i r o r' o' e
      obtain ⟨rfl, rfl⟩ := e
      cases h
      obtain ⟨u, hu, rfl⟩ := hx.ptr_inv
      obtain ⟨u', hu', rfl⟩ := hy.ptr_inv
      rw [hu] at hu'; cases hu'
      exact ⟨_, _, rfl, rfl, .inr ⟨rfl, by simp, rfl⟩⟩
    · cases h
  · cases h

theorem run_eqP {t e n} (hu : P.underlying t = some (.pointer e)) (hn : sizeA P e = some n) (p q : Option Addr) (b : Bool) (hp : (p = none ∨ q = none) ∧ b = (p.isNone && q.isNone) ∨ p = q ∧ p ≠ none ∧ b = true) (w : World) :
    (binOp .eql t (.pointer p) (.pointer q)).run P w = .ok (.bool b) w ∧ (binOp .neq t (.pointer p) (.pointer q)).run P w = .ok (.bool !b) w := by
  have e : ∀ d, (Op.equalIn (d + 1) t (.pointer p) (.pointer q)).run P w = .ok b w := fun d => by
    rw [Op.equalIn, Sem.run_bind, run_und hu]
    rcases hp with ⟨hp, rfl⟩ | ⟨rfl, hp, rfl⟩
    · rcases p with _ | p <;> rcases q with _ | q
      · rfl
      · rfl
      · rfl
      · simp at hp
    · rcases p with _ | p
      · exact (hp rfl).elim
      · simp only [Result.andThen]
        rw [Sem.run_bind, run_size hn]
        simp only [Result.andThen]
        split
        · simp [sameAddr]
        · simp
  have e2 : (Op.equal t (.pointer p) (.pointer q)).run P w = .ok b w := e 9999
  constructor
  · show ((Op.equal t (.pointer p) (.pointer q)) >>= fun r => pure (Value.bool r)).run P w = _
    rw [Sem.run_bind, e2]; rfl
  · show ((Op.equal t (.pointer p) (.pointer q)) >>= fun r => pure (Value.bool !r)).run P w = _
    rw [Sem.run_bind, e2]; rfl

theorem abound_ok {x x' most n} (hx : VRel ρ x x') (h : abound x most = some n) (code : BoundsCode) : n ≤ most ∧ ∀ w, (Instr.sliceBound x' most code).run P w = .ok n w := by
  unfold abound at h
  split at h
  · obtain rfl := hx.int_inv
    split at h
    · rename_i hc
      cases h
      refine ⟨by omega, fun w => ?_⟩
      simp [Instr.sliceBound, asIntOf, hc]
    · cases h
  · cases h

theorem bounds_ok {len cap} {lo hi : Option AV} {lo' hi' : Option Value} {isSlice h l}
    (hlo : (lo = none ∧ lo' = none) ∨ ∃ x x', lo = some x ∧ lo' = some x' ∧ VRel ρ x x')
    (hhi : (hi = none ∧ hi' = none) ∨ ∃ x x', hi = some x ∧ hi' = some x' ∧ VRel ρ x x')
    (hle : len ≤ cap)
    (e1 : ahi hi len cap = some h) (e2 : ahi lo 0 h = some l) :
    l ≤ h ∧ h ≤ cap ∧ ∀ w, (Instr.sliceBounds isSlice len cap lo' hi' none).run P w = .ok (l, h, cap) w := by
  rcases hhi with ⟨rfl, rfl⟩ | ⟨x, x', rfl, rfl, hr⟩ <;> rcases hlo with ⟨rfl, rfl⟩ | ⟨y, y', rfl, rfl, hr'⟩
  · simp only [ahi, Option.some.injEq] at e1 e2; subst e1; subst e2
    exact ⟨by omega, hle, fun w => by simp [Instr.sliceBounds]⟩
  · simp only [ahi, Option.some.injEq] at e1 e2; subst e1
    obtain ⟨k1, k2⟩ := abound_ok (P := P) hr' e2 .sliceB
    exact ⟨k1, hle, fun w => by simp [Instr.sliceBounds, k2]⟩
  · simp only [ahi, Option.some.injEq] at e1 e2; subst e2
    obtain ⟨k1, k2⟩ := abound_ok (P := P) hr e1 (if isSlice then .sliceAcap else .sliceAlen)
    exact ⟨by omega, k1, fun w => by simp [Instr.sliceBounds, k2]⟩
  · simp only [ahi] at e1 e2
    obtain ⟨k1, k2⟩ := abound_ok (P := P) hr e1 (if isSlice then .sliceAcap else .sliceAlen)
    obtain ⟨k3, k4⟩ := abound_ok (P := P) hr' e2 .sliceB
    exact ⟨k3, k1, fun w => by simp [Instr.sliceBounds, k2, k4]⟩

theorem Addr.add_eq (b o n : Nat) : (⟨b, o, none⟩ : Addr).add n = ⟨b, o + n, none⟩ := by
  unfold Go.Addr.add
  split
  · rename_i h; subst h; rfl
  · rfl

theorem opdO_rel (hs : SRel ρ s a) {x : Option Operand} {y : Option Opd} (h : opdO x = some y) :
    (y.map (evo s) = none ∧ x.map a.eval = none) ∨ ∃ u u', y.map (evo s) = some u ∧ x.map a.eval = some u' ∧ VRel ρ u u' := by
  cases x with
  | none => simp [opdO] at h; subst h; exact .inl ⟨rfl, rfl⟩
  | some x =>
    simp [opdO] at h
    obtain ⟨z, hz, rfl⟩ := h
    exact .inr ⟨_, _, rfl, rfl, evo_rel hs hz⟩

theorem opds_rel (hs : SRel ρ s a) : ∀ {l : List Operand} {y : List Opd}, opds l = some y → VRelL ρ (y.map (evo s)) (l.map a.eval)
  | [], y, h => by simp [opds] at h; subst h; exact .nil
  | x :: l, y, h => by
    simp only [opds, List.mapM_cons, Option.pure_def, Option.bind_eq_bind, Option.bind_eq_some_iff] at h
    obtain ⟨u, hu, us, hus, e⟩ := h
    cases e
    exact .cons _ _ _ _ (evo_rel hs hu) (opds_rel hs hus)

variable {dst : Option Nat} {ty : TypeId} {pos : String} {af : Array Edge} {g : Option (Nat × Bool)} {v : AV}

theorem gives_move (hs : SRel ρ s a) {x p} (hc : (Opd.of x).map POp.move = some p) (h : ipure p s = some v) : Gives P a ⟨dst, .move x, ty, pos, af, g⟩ ρ v ∧ Gives P a ⟨dst, .assign x, ty, pos, af, g⟩ ρ v := by
  simp only [Option.map_eq_some_iff] at hc
  obtain ⟨y, hy, rfl⟩ := hc
  simp only [ipure, Option.some.injEq] at h
  subst h
  exact ⟨⟨_, evo_rel hs hy, fun w => by simp [execOp]⟩, ⟨_, evo_rel hs hy, fun w => by simp [execOp]⟩⟩

theorem gives_pick (hs : SRel ρ s a) {c x y p} (hc : pureOf P (.pick c x y) = some p) (h : ipure p s = some v) : Gives P a ⟨dst, .pick c x y, ty, pos, af, g⟩ ρ v := by
  simp only [pureOf, Option.bind_eq_bind, Option.bind_eq_some_iff, Option.some.injEq] at hc
  obtain ⟨c', hc', x', hx', y', hy', rfl⟩ := hc
  have r := evo_rel hs hc'
  simp only [ipure] at h
  split at h
  · rename_i e; rw [e] at r
    simp only [Option.some.injEq] at h; subst h
    exact ⟨_, evo_rel hs hx', fun w => by simp [execOp, r.bool_inv, asBool]⟩
  · rename_i e; rw [e] at r
    simp only [Option.some.injEq] at h; subst h
    exact ⟨_, evo_rel hs hy', fun w => by simp [execOp, r.bool_inv, asBool]⟩
  · cases h

theorem run_isAgg' {t d} (h : P.underlying t = some d) (w : World) : (isAgg t).run P w = .ok (aggD d) w := by
  unfold isAgg
  rw [Sem.run_bind, run_und h]
  cases d <;> rfl

theorem run_part_flat {t d} (h : P.underlying t = some d) (hd : aggD d = false) {xs : Array Value} {off : Nat} {v : Value} (hx : xs.toList[off]? = some v) (w : World) : (part t xs off).run P w = .ok v w := by
  have hx' : xs[off]? = some v := by simpa using hx
  unfold part
  rw [Sem.run_bind, run_isAgg' h, hd]
  simp [hx']

theorem run_eqFields {ρ : RMap} {l l' : List AV} {xs ys : Array Value} (h1 : VRelL ρ l xs.toList) (h2 : VRelL ρ l' ys.toList) (d : Nat) (w : World) :
    ∀ {fs ks r}, kindsF P fs = some ks → aggEq l l' ks = some r → (Op.eqFields (d + 1) xs ys fs).run P w = .ok r w := by
  intro fs
  induction fs with
  | nil =>
    intro ks r hk he
    simp only [kindsF, Option.some.injEq] at hk; subst hk
    simp only [aggEq, Option.some.injEq] at he; subst he
    simp [Op.eqFields]
  | cons f fs ih =>
    intro ks r hk he
    simp only [kindsF] at hk
    split at hk
    · rename_i k ks' hkf hks
      simp only [Option.some.injEq] at hk; subst hk
      obtain ⟨o, kk⟩ := k
      simp only [aggEq] at he
      split at he
      · rename_i a b ha hb
        split at he
        · rename_i r1 r2 hr1 hr2
          simp only [Option.some.injEq] at he; subst he
          obtain ⟨va, hva, ra⟩ := h1.get ha
          obtain ⟨vb, hvb, rb⟩ := h2.get hb
          have ih' := ih hks hr2
          have key : f.name ≠ "_" ∧ f.offset = o ∧ ∃ dd, P.underlying f.type = some dd ∧ aggD dd = false ∧ (Op.equalIn (d + 1) f.type va vb).run P w = .ok r1 w := by
            simp only [kindF] at hkf
            split at hkf
            · cases hkf
            · rename_i hn
              split at hkf
              · rename_i kk' hu
                simp only [Option.some.injEq, Prod.mk.injEq] at hkf
                obtain ⟨h3, rfl⟩ := hkf
                refine ⟨hn, h3, _, hu, rfl, ?_⟩
                unfold cellEq at hr1
                split at hr1
                · rename_i k1 a1 k2 b1
                  split at hr1
                  · rename_i hk; subst hk
                    simp only [Option.some.injEq] at hr1; subst hr1
                    rw [ra.int_inv, rb.int_inv]
                    exact run_equalIn_int w d _ _ _ _ _ hu
                  · cases hr1
                · exfalso; omega
                · exfalso; omega
                · cases hr1
              · rename_i hu
                simp only [Option.some.injEq, Prod.mk.injEq] at hkf
                obtain ⟨h3, rfl⟩ := hkf
                refine ⟨hn, h3, _, hu, rfl, ?_⟩
                unfold cellEq at hr1
                split at hr1
                · exfalso; omega
                · simp only [Option.some.injEq] at hr1; subst hr1
                  rw [ra.bool_inv, rb.bool_inv]
                  exact run_equalIn_bool' w d _ _ _ hu
                · exfalso; omega
                · cases hr1
              · rename_i hu
                simp only [Option.some.injEq, Prod.mk.injEq] at hkf
                obtain ⟨h3, rfl⟩ := hkf
                refine ⟨hn, h3, _, hu, rfl, ?_⟩
                unfold cellEq at hr1
                split at hr1
                · exfalso; omega
                · exfalso; omega
                · simp only [Option.some.injEq] at hr1; subst hr1
                  rw [ra.str_inv, rb.str_inv, beq_toListBytes]
                  exact run_equalIn_string w d _ _ _ hu
                · cases hr1
              · cases hkf
          obtain ⟨hn, ho, dd, hu, hd, hq⟩ := key
          subst ho
          rw [Op.eqFields, if_pos hn]
          simp only [Sem.run_bind, run_part_flat hu hd hva w, run_part_flat hu hd hvb w, hq, Result.andThen_ok]
          cases r1
          · simp
          · simpa using ih'
        · cases he
      · cases he
    · cases hk

theorem VRelL.drop : ∀ (n : Nat) {l : List AV} {vs : List Value}, VRelL ρ l vs → VRelL ρ (l.drop n) (vs.drop n)
  | 0, _, _, h => h
  | _ + 1, _, _, .nil => .nil
  | n + 1, _, _, .cons _ _ _ _ _ t => VRelL.drop n t
theorem VRelL.take : ∀ (n : Nat) {l : List AV} {vs : List Value}, VRelL ρ l vs → VRelL ρ (l.take n) (vs.take n)
  | 0, _, _, _ => by simp; exact .nil
  | _ + 1, _, _, .nil => .nil
  | n + 1, _, _, .cons _ _ _ _ h t => .cons _ _ _ _ h (VRelL.take n t)
theorem aggEq_append {l l' : List AV} : ∀ {k1 k2 r}, aggEq l l' (k1 ++ k2) = some r → ∃ r1 r2, aggEq l l' k1 = some r1 ∧ aggEq l l' k2 = some r2 ∧ r = (r1 && r2)
  | [], k2, r, h => ⟨true, r, rfl, h, by simp⟩
  | (o, k) :: k1, k2, r, h => by
    simp only [List.cons_append, aggEq] at h
    split at h
    · rename_i a b ha hb
      split at h
      · rename_i r1 r2 h1 h2
        simp only [Option.some.injEq] at h; subst h
        obtain ⟨s1, s2, e1, e2, rfl⟩ := aggEq_append h2
        exact ⟨r1 && s1, s2, by simp [aggEq, ha, hb, h1, e1], e2, by simp [Bool.and_assoc]⟩
      · cases h
    · cases h
theorem aggEq_shift {l l' : List AV} {p c : Nat} : ∀ {ks r}, (∀ q ∈ ks, q.1 < c) → aggEq l l' (ks.map fun q => (p + q.1, q.2)) = some r → aggEq ((l.drop p).take c) ((l'.drop p).take c) ks = some r
  | [], r, _, h => h
  | (o, k) :: ks, r, hc, h => by
    have ho : o < c := hc (o, k) (by simp)
    simp only [List.map_cons, aggEq] at h ⊢
    split at h
    · rename_i a b ha hb
      have ha' : ((l.drop p).take c)[o]? = some a := by rw [List.getElem?_take, if_pos ho, List.getElem?_drop, ha]
      have hb' : ((l'.drop p).take c)[o]? = some b := by rw [List.getElem?_take, if_pos ho, List.getElem?_drop, hb]
      rw [ha', hb']
      simp only
      split at h
      · rename_i r1 r2 h1 h2
        simp only [Option.some.injEq] at h; subst h
        rw [h1, aggEq_shift (fun q hq => hc q (by simp [hq])) h2]
      · cases h
    · cases h
theorem run_part_agg {t d} (h : P.underlying t = some d) (hd : aggD d = true) {i : TypeInfo} (hi : P.info? t = some i) (xs : Array Value) (off : Nat) (w : World) : (part t xs off).run P w = .ok (.agg (xs.extract off (off + P.cellsOf t))) w := by
  unfold part
  rw [Sem.run_bind, run_isAgg' h, hd]
  simp [run_sizeOf w hi]
theorem run_eqItems {ρ : RMap} {l l' : List AV} {xs ys : Array Value} (h1 : VRelL ρ l xs.toList) (h2 : VRelL ρ l' ys.toList) (d : Nat) (w : World) {e : TypeId} {fs : Array Field} {ks : List (Nat × Nat)} {ti : TypeInfo}
    (hu : P.underlying e = some (.struct fs)) (hi : P.info? e = some ti) (hp : P.stoodInHeld e = false) (hk : kindsF P fs.toList = some ks) (hc : ∀ q ∈ ks, q.1 < P.cellsOf e) :
    ∀ {is r}, aggEq l l' (arrK (P.cellsOf e) ks is) = some r → (Op.eqItems (d + 1 + 1) e (P.cellsOf e) xs ys is).run P w = .ok r w
  | [], r, h => by
    simp only [arrK, List.flatMap_nil, aggEq, Option.some.injEq] at h; subst h
    simp [Op.eqItems]
  | j :: is, r, h => by
    simp only [arrK, List.flatMap_cons] at h
    obtain ⟨r1, r2, e1, e2, rfl⟩ := aggEq_append h
    have ih := run_eqItems h1 h2 d w hu hi hp hk hc (is := is) e2
    have hf : P.fieldsOf e = fs := by simp [Program.fieldsOf, hu]
    have e1' := aggEq_shift (p := j * P.cellsOf e) hc e1
    have hq : (Op.equalIn (d + 1 + 1) e (.agg (xs.extract (j * P.cellsOf e) (j * P.cellsOf e + P.cellsOf e))) (.agg (ys.extract (j * P.cellsOf e) (j * P.cellsOf e + P.cellsOf e)))).run P w = .ok r1 w := by
      rw [run_equalIn_agg w _ e _ _ (by rw [hf]; exact hu) hp, hf]
      refine run_eqFields (ρ := ρ) (l := (l.drop (j * P.cellsOf e)).take (P.cellsOf e)) (l' := (l'.drop (j * P.cellsOf e)).take (P.cellsOf e)) ?_ ?_ d w hk e1'
      · have := VRelL.take (P.cellsOf e) (VRelL.drop (j * P.cellsOf e) h1)
        simpa [List.drop_take, Nat.add_sub_cancel_left] using this
      · have := VRelL.take (P.cellsOf e) (VRelL.drop (j * P.cellsOf e) h2)
        simpa [List.drop_take, Nat.add_sub_cancel_left] using this
    simp only [Op.eqItems, Sem.run_bind, run_part_agg hu rfl hi, hq, Result.andThen_ok]
    cases r1
    · simp
    · simpa using ih

theorem gives_bin (hs : SRel ρ s a) {op t x y t' p} (hc : pureOf P (.binOp op t x y t') = some p) (h : ipure p s = some v) : Gives P a ⟨dst, .binOp op t x y t', ty, pos, af, g⟩ ρ v := by
  simp only [pureOf, Option.bind_eq_bind, Option.bind_eq_some_iff] at hc
  obtain ⟨x', hx', y', hy', hc⟩ := hc
  have rx := evo_rel hs hx'
  have ry := evo_rel hs hy'
  have bin : ∀ op, abin op (evo s x') (evo s y') = some v → Gives P a ⟨dst, .binOp op t x y t', ty, pos, af, g⟩ ρ v := fun op h => by
    obtain ⟨h1, v', h2, h3⟩ := abin_ok (P := P) rx ry h t
    exact ⟨v', h2, fun w => by simp [execOp, h1, h3]⟩
  have binB : ∀ neg : Bool, (match evo s x', evo s y' with | .bool a, .bool b => some (AV.bool (if neg then !(a == b) else a == b)) | _, _ => none) = some v → P.underlying t = some .bool →
      Gives P a ⟨dst, .binOp (if neg then .neq else .eql) t x y t', ty, pos, af, g⟩ ρ v := fun neg h hu => by
    split at h
    · rename_i b1 b2 e1 e2
      rw [e1] at rx; rw [e2] at ry
      simp only [Option.some.injEq] at h; subst h
      refine ⟨_, .bool _, fun w => ?_⟩
      have hg : ∀ op, (eqGuard op t x y (.bool b1) (.bool b2)).run P w = .ok () w := fun op => by unfold eqGuard; split <;> simp
      cases neg
      · simp [execOp, rx.bool_inv, ry.bool_inv, hg, (run_eqB hu b1 b2 w).1]
      · simp [execOp, rx.bool_inv, ry.bool_inv, hg, (run_eqB hu b1 b2 w).2]
    · cases h
  have isNil : ∀ (neg : Bool) e, (match anil (evo s x'), anil (evo s y') with | some true, some b => some (AV.bool (if neg then !b else b)) | some b, some true => some (AV.bool (if neg then !b else b)) | _, _ => none) = some v →
      P.underlying t = some (.slice e) → Gives P a ⟨dst, .binOp (if neg then .neq else .eql) t x y t', ty, pos, af, g⟩ ρ v := fun neg e h hu => by
    have fin : ∀ b1 b2 r, anil (evo s x') = some b1 → anil (evo s y') = some b2 → (b1 = true ∨ b2 = true) → r = (b1 && b2) → Gives P a ⟨dst, .binOp (if neg then .neq else .eql) t x y t', ty, pos, af, g⟩ ρ (.bool (if neg then !r else r)) := fun b1 b2 r e1 e2 hb hr => by
      obtain ⟨p1, n1, c1, k1, k2⟩ := anil_ok rx e1
      obtain ⟨p2, n2, c2, k3, k4⟩ := anil_ok ry e2
      have hg : ∀ op w, (eqGuard op t x y (.slice p1 n1 c1) (.slice p2 n2 c2)).run P w = .ok () w := fun op w => by unfold eqGuard; split <;> simp
      refine ⟨_, .bool _, fun w => ?_⟩
      subst k2; subst k4; subst hr
      have hp : p1 = none ∨ p2 = none := hb.imp Option.isNone_iff_eq_none.1 Option.isNone_iff_eq_none.1
      cases neg
      · simp [execOp, k1, k3, hg, (run_eqS hu p1 p2 n1 c1 n2 c2 hp w).1]
      · simp [execOp, k1, k3, hg, (run_eqS hu p1 p2 n1 c1 n2 c2 hp w).2]
    split at h
    · rename_i b e1 e2
      simp only [Option.some.injEq] at h; subst h
      exact fin true b b e1 e2 (.inl rfl) (by simp)
    · rename_i b _ e1 e2
      simp only [Option.some.injEq] at h; subst h
      exact fin b true b e1 e2 (.inr rfl) (by simp)
    · cases h
  have eqPtr : ∀ (neg : Bool) e n, (aptr (evo s x') (evo s y')).map (fun b => AV.bool (if neg then !b else b)) = some v → P.underlying t = some (.pointer e) → sizeA P e = some n →
      Gives P a ⟨dst, .binOp (if neg then .neq else .eql) t x y t', ty, pos, af, g⟩ ρ v := fun neg e n h hu hn => by
    simp only [Option.map_eq_some_iff] at h
    obtain ⟨b, hb, rfl⟩ := h
    obtain ⟨p, q, k1, k2, hp⟩ := aptr_ok rx ry hb
    have hg : ∀ op w, (eqGuard op t x y (.pointer p) (.pointer q)).run P w = .ok () w := fun op w => by unfold eqGuard; split <;> simp
    refine ⟨_, .bool _, fun w => ?_⟩
    cases neg
    · simp [execOp, k1, k2, hg, (run_eqP hu hn p q b hp w).1]
    · simp [execOp, k1, k2, hg, (run_eqP hu hn p q b hp w).2]
  have eqAgg : ∀ (neg : Bool) (fs : Array Field) ks, (match evo s x', evo s y' with | .agg l, .agg l' => (aggEq l l' ks).map fun b => AV.bool (if neg then !b else b) | _, _ => none) = some v → P.underlying t = some (.struct fs) → flatF P t fs.toList = some ks →
      Gives P a ⟨dst, .binOp (if neg then .neq else .eql) t x y t', ty, pos, af, g⟩ ρ v := fun neg fs ks h hu hn => by
    split at h
    · rename_i l l' e1 e2
      simp only [Option.map_eq_some_iff] at h
      obtain ⟨b, hb, rfl⟩ := h
      rw [e1] at rx; rw [e2] at ry
      obtain ⟨xs, k1, r1⟩ := rx.agg_inv
      obtain ⟨ys, k2, r2⟩ := ry.agg_inv
      unfold flatF at hn
      split at hn
      · rename_i hp
        have hf : P.fieldsOf t = fs := by simp [Program.fieldsOf, hu]
        have hq : ∀ w, (Op.equalIn 10000 t (.agg xs) (.agg ys)).run P w = .ok b w := fun w => by
          rw [show (10000 : Nat) = 9998 + 1 + 1 from rfl, run_equalIn_agg w _ t xs ys (by rw [hf]; exact hu) hp.1, hf]
          exact run_eqFields r1 r2 9998 w hn hb
        have hg : ∀ op w, (eqGuard op t x y (.agg xs) (.agg ys)).run P w = .ok () w := fun op w => run_eqGuard_agg w op t x y xs ys hp.2
        refine ⟨_, .bool _, fun w => ?_⟩
        cases neg
        · simp [execOp, k1, k2, hg, run_eql_struct, hq]
        · simp [execOp, k1, k2, hg, run_neq_struct, hq]
      · cases hn
    · cases h
  have eqArr : ∀ (neg : Bool) (n : Nat) (e : TypeId) ks, (match evo s x', evo s y' with | .agg l, .agg l' => (aggEq l l' ks).map fun b => AV.bool (if neg then !b else b) | _, _ => none) = some v → P.underlying t = some (.array n e) → flatA P t e n = some ks →
      Gives P a ⟨dst, .binOp (if neg then .neq else .eql) t x y t', ty, pos, af, g⟩ ρ v := fun neg n e ks h hu hn => by
    split at h
    · rename_i l l' e1 e2
      simp only [Option.map_eq_some_iff] at h
      obtain ⟨b, hb, rfl⟩ := h
      rw [e1] at rx; rw [e2] at ry
      obtain ⟨xs, k1, r1⟩ := rx.agg_inv
      obtain ⟨ys, k2, r2⟩ := ry.agg_inv
      unfold flatA at hn
      split at hn
      · rename_i fs hue
        split at hn
        · rename_i ks' hkf
          split at hn
          · rename_i hp
            simp only [Option.some.injEq] at hn; subst hn
            obtain ⟨ti, hi⟩ := info_of_underlying hue
            have hq : ∀ w, (Op.equalIn 10000 t (.agg xs) (.agg ys)).run P w = .ok b w := fun w => by
              rw [show (10000 : Nat) = 9997 + 1 + 1 + 1 from rfl, run_equalIn_array w _ xs ys hu hi]
              exact run_eqItems r1 r2 9997 w hue hi hp.1 hkf hp.2.2 hb
            have hg : ∀ op w, (eqGuard op t x y (.agg xs) (.agg ys)).run P w = .ok () w := fun op w => run_eqGuard_agg w op t x y xs ys hp.2.1
            refine ⟨_, .bool _, fun w => ?_⟩
            cases neg
            · simp [execOp, k1, k2, hg, run_eql_struct, hq]
            · simp [execOp, k1, k2, hg, run_neq_struct, hq]
          · cases hn
        · cases hn
      · cases hn
    · cases h
  split at hc
  · simp only [Option.some.injEq] at hc; subst hc; exact bin _ h
  · simp only [Option.some.injEq] at hc; subst hc; exact bin _ h
  · rename_i hu
    split at hc
    · simp only [Option.some.injEq] at hc; subst hc; exact binB false h hu
    · simp only [Option.some.injEq] at hc; subst hc; exact binB true h hu
    · cases hc
  · rename_i hu
    split at hc
    · simp only [Option.some.injEq] at hc; subst hc; exact isNil false _ h hu
    · simp only [Option.some.injEq] at hc; subst hc; exact isNil true _ h hu
    · cases hc
  · rename_i hu
    split at hc
    · rename_i hn; simp only [Option.some.injEq] at hc; subst hc; exact eqPtr false _ _ h hu hn
    · rename_i hn; simp only [Option.some.injEq] at hc; subst hc; exact eqPtr true _ _ h hu hn
    · cases hc
  · rename_i hu
    split at hc
    · rename_i hn; simp only [Option.some.injEq] at hc; subst hc; exact eqAgg false _ _ h hu hn
    · rename_i hn; simp only [Option.some.injEq] at hc; subst hc; exact eqAgg true _ _ h hu hn
    · cases hc
  · rename_i hu
    split at hc
    · rename_i hn; simp only [Option.some.injEq] at hc; subst hc; exact eqArr false _ _ _ h hu hn
    · rename_i hn; simp only [Option.some.injEq] at hc; subst hc; exact eqArr true _ _ _ h hu hn
    · cases hc
  · cases hc

theorem gives_un (hs : SRel ρ s a) {op t x p} (hc : pureOf P (.unOp op t x) = some p) (h : ipure p s = some v) : Gives P a ⟨dst, .unOp op t x, ty, pos, af, g⟩ ρ v := by
  simp only [pureOf, Option.bind_eq_bind, Option.bind_eq_some_iff] at hc
  obtain ⟨x', hx', hc⟩ := hc
  have rx := evo_rel hs hx'
  split at hc <;> (try cases hc)
  all_goals
    simp only [ipure] at h
    split at h
    · rename_i e; rw [e] at rx
      simp only [Option.some.injEq] at h; subst h
      first
        | (refine ⟨_, .bool _, fun w => ?_⟩; simp [execOp, rx.bool_inv, Op.unary]; done)
        | (refine ⟨_, .int _ _, fun w => ?_⟩; simp [execOp, rx.int_inv, Op.unary, Op.intArith]; done)
        | (refine ⟨_, .int _ _, fun w => ?_⟩; simp [execOp, rx.int_inv, Op.unary, Op.intBits, abits]; done)
    · cases h

theorem gives_conv (hs : SRel ρ s a) {t u x p} (hc : pureOf P (.convert t u x) = some p) (h : ipure p s = some v) : Gives P a ⟨dst, .convert t u x, ty, pos, af, g⟩ ρ v := by
  simp only [pureOf, Option.bind_eq_bind, Option.bind_eq_some_iff] at hc
  obtain ⟨x', hx', hc⟩ := hc
  have rx := evo_rel hs hx'
  split at hc <;> (try cases hc)
  rename_i h1 h2
  simp only [ipure] at h
  split at h
  · rename_i e; rw [e] at rx
    simp only [Option.some.injEq] at h; subst h
    refine ⟨_, .int _ _, fun w => ?_⟩
    simp [execOp, rx.int_inv, convert, run_und h1, run_und h2, Conv.intToInt]
  · cases h

theorem fieldsAt_spec {t i off n agg} (h : fieldsAt P t i = some (off, n, agg)) : ∃ fs f ti d, P.underlying t = some (.struct fs) ∧ fs[i]? = some f ∧ P.info? f.type = some ti ∧ P.underlying f.type = some d ∧ f.offset = off ∧ ti.size = n ∧ aggD d = agg := by
  unfold fieldsAt at h
  split at h
  · rename_i fs hfs
    split at h
    · rename_i f hf
      split at h
      · rename_i ti d hti hd
        simp only [Option.some.injEq, Prod.mk.injEq] at h
        exact ⟨fs, f, ti, d, hfs, hf, hti, hd, h.1, h.2.1, h.2.2⟩
      · cases h
    · cases h
  · cases h

theorem run_isAgg {t d} (h : P.underlying t = some d) (w : World) : (isAgg t).run P w = .ok (aggD d) w := by
  unfold isAgg
  rw [Sem.run_bind, run_und h]
  cases d <;> rfl

theorem gives_field (hs : SRel ρ s a) {t x i p} (hc : pureOf P (.field t x i) = some p) (h : ipure p s = some v) : Gives P a ⟨dst, .field t x i, ty, pos, af, g⟩ ρ v := by
  simp only [pureOf, Option.bind_eq_bind, Option.bind_eq_some_iff] at hc
  obtain ⟨x', hx', ⟨off, n, agg⟩, hf, hc⟩ := hc
  simp only [Option.some.injEq] at hc; subst hc
  have rx := evo_rel hs hx'
  obtain ⟨fs, f, ti, d, h1, h2, h3, h4, h5, h6, h7⟩ := fieldsAt_spec hf
  simp only [ipure] at h
  split at h
  · rename_i l e; rw [e] at rx
    obtain ⟨cs, hcs, hl⟩ := rx.agg_inv
    have hpart : ∀ w r, (part f.type cs f.offset).run P w = .ok r w → (execOp a.eval ⟨dst, .field t x i, ty, pos, af, g⟩).run P w = .ok (.value r) w := fun w r hr => by
      simp [execOp, hcs, Instr.field, run_und h1, h2, asAgg, hr]
    have hsz : ∀ w, (sizeOf f.type).run P w = .ok n w := run_size (by simp [sizeA, h3, h6])
    cases agg with
    | true =>
      simp only [if_true] at h
      split at h
      · rename_i hle
        simp only [Option.some.injEq] at h; subst h
        refine ⟨.agg (cs.extract off (off + n)), .agg _ _ ?_, fun w => hpart w _ ?_⟩
        · have := (hl.drop off).take n
          simpa [List.take_drop, List.extract_eq_take_drop, Nat.add_comm] using this
        · unfold part
          rw [Sem.run_bind, run_isAgg h4, h7]
          simp [hsz, h5]
      · cases h
    | false =>
      simp only [Bool.false_eq_true, if_false] at h
      obtain ⟨u, hu, hr⟩ := hl.get h
      refine ⟨u, hr, fun w => hpart w _ ?_⟩
      unfold part
      rw [Sem.run_bind, run_isAgg h4, h7, h5]
      have : cs[off]? = some u := by simpa using hu
      simp [this]
  · cases h

theorem gives_fieldAddr (hs : SRel ρ s a) {t x i p} (hc : pureOf P (.fieldAddr t x i) = some p) (h : ipure p s = some v) : Gives P a ⟨dst, .fieldAddr t x i, ty, pos, af, g⟩ ρ v := by
  simp only [pureOf, Option.bind_eq_bind, Option.bind_eq_some_iff] at hc
  obtain ⟨x', hx', ⟨off, n, agg⟩, hf, hc⟩ := hc
  have rx := evo_rel hs hx'
  obtain ⟨fs, f, ti, d, h1, h2, h3, h4, h5, h6, h7⟩ := fieldsAt_spec hf
  simp only at hc
  split at hc
  · cases hc
  · rename_i hn
    simp only [Option.some.injEq] at hc; subst hc
    simp only [ipure] at h
    split at h
    · rename_i r o e; rw [e] at rx
      simp only [Option.some.injEq] at h; subst h
      obtain ⟨y, hy, hv⟩ := rx.ptr_inv
      refine ⟨_, .ptr _ _ y hy, fun w => ?_⟩
      have hsz : ∀ w, (sizeOf f.type).run P w = .ok n w := run_size (by simp [sizeA, h3, h6])
      simp [execOp, hv, Instr.fieldAt, run_und h1, h2, Instr.sureAddr, fieldPlace, hsz, hn, Addr.add_eq, h5, Nat.add_assoc]
    · cases h

theorem gives_extract (hs : SRel ρ s a) {x i p} (hc : pureOf P (.extract x i) = some p) (h : ipure p s = some v) : Gives P a ⟨dst, .extract x i, ty, pos, af, g⟩ ρ v := by
  simp only [pureOf, Option.map_eq_some_iff] at hc
  obtain ⟨x', hx', rfl⟩ := hc
  have rx := evo_rel hs hx'
  simp only [ipure] at h
  split at h
  · rename_i l e; rw [e] at rx
    obtain ⟨cs, hcs, hl⟩ := rx.tuple_inv
    obtain ⟨u, hu, hr⟩ := hl.get h
    have : cs[i]? = some u := by simpa using hu
    exact ⟨u, hr, fun w => by simp [execOp, hcs, Instr.extract, this]⟩
  · cases h

theorem gives_makeFunc (hs : SRel ρ s a) {f first caps p} (hc : pureOf P (.makeFunc (.func f) first caps) = some p) (h : ipure p s = some v) : Gives P a ⟨dst, .makeFunc (.func f) first caps, ty, pos, af, g⟩ ρ v := by
  simp only [pureOf] at hc
  split at hc
  · rename_i hz
    simp only [Option.bind_eq_bind, Option.bind_eq_some_iff] at hc
    obtain ⟨cs, hcs, e⟩ := hc
    simp only [Option.some.injEq] at e; subst e
    simp only [ipure, Option.some.injEq] at h; subst h
    refine ⟨.func (.func f) #[] (caps.map a.eval), .func _ _ _ ?_, fun w => ?_⟩
    · simpa using opds_rel hs hcs
    · have : first = #[] := Array.eq_empty_of_size_eq_zero hz
      simp [execOp, Instr.makeFunc, this]
  · simp only [Option.bind_eq_bind, Option.bind_eq_some_iff] at hc
    obtain ⟨ks, hks, cs, hcs, e⟩ := hc
    simp only [Option.some.injEq] at e; subst e
    simp only [ipure, Option.some.injEq] at h; subst h
    refine ⟨.func (.func f) (first.map a.eval) (caps.map a.eval), .bound _ _ _ _ _ ?_ ?_, fun w => ?_⟩
    · simpa using opds_rel hs hks
    · simpa using opds_rel hs hcs
    · simp [execOp, Instr.makeFunc]

theorem gives_nilCheck (hs : SRel ρ s a) {x p} (hc : pureOf P (.nilCheck x) = some p) (h : ipure p s = some v) : Gives P a ⟨dst, .nilCheck x, ty, pos, af, g⟩ ρ v := by
  simp only [pureOf, Option.map_eq_some_iff] at hc
  obtain ⟨x', hx', rfl⟩ := hc
  have rx := evo_rel hs hx'
  simp only [ipure] at h
  split at h
  · rename_i e; rw [e] at rx
    simp only [Option.some.injEq] at h; subst h
    obtain ⟨y, hy, hv⟩ := rx.ptr_inv
    exact ⟨_, .ptr _ _ y hy, fun w => by simp [execOp, hv]⟩
  · rename_i e; rw [e] at rx
    simp only [Option.some.injEq] at h; subst h
    obtain ⟨cs, hv, hr⟩ := rx.func_inv
    exact ⟨_, .func _ _ _ hr, fun w => by simp [execOp, hv]⟩
  · rename_i e; rw [e] at rx
    simp only [Option.some.injEq] at h; subst h
    obtain ⟨fs, cs, hv, hr, hr'⟩ := rx.bound_inv
    exact ⟨_, .bound _ _ _ _ _ hr hr', fun w => by simp [execOp, hv]⟩
  · rename_i e; rw [e] at rx
    simp only [Option.some.injEq] at h; subst h
    obtain ⟨v', hv, hr⟩ := rx.iface_inv
    exact ⟨_, .iface _ _ _ hr, fun w => by simp [execOp, hv]⟩
  · cases h

theorem gives_indexAddr (hs : SRel ρ s a) {t x i p} (hc : pureOf P (.indexAddr t x i) = some p) (h : ipure p s = some v) : Gives P a ⟨dst, .indexAddr t x i, ty, pos, af, g⟩ ρ v := by
  simp only [pureOf, Option.bind_eq_bind, Option.bind_eq_some_iff] at hc
  obtain ⟨x', hx', i', hi', hc⟩ := hc
  have rx := evo_rel hs hx'
  have ri := evo_rel hs hi'
  split at hc
  · rename_i e hu
    simp only [Option.map_eq_some_iff] at hc
    obtain ⟨sz, hsz, rfl⟩ := hc
    simp only [ipure, aindexAddr] at h
    have key : ∀ (b : Option Addr) n c k j r off, a.eval x = .slice b n c → a.eval i = .int k j → (0 ≤ j ∧ j < (n : Int)) → (∃ y, ρ r = some y ∧ b = some ⟨y.b, y.d + off, none⟩) →
        Gives P a ⟨dst, .indexAddr t x i, ty, pos, af, g⟩ ρ (.ptr r (off + j.toNat * sz)) := fun b n c k j r off e1 e2 hj ⟨y, hy, hb⟩ => by
      refine ⟨.pointer (some ⟨y.b, y.d + (off + j.toNat * sz), none⟩), .ptr _ _ y hy, fun w => ?_⟩
      subst hb
      simp [execOp, e1, e2, Instr.indexAt, asIntOf, run_und hu, hj, run_size hsz, Addr.add_eq, Nat.add_assoc]
    split at h
    · rename_i r off n c k j e1 e2
      rw [e1] at rx; rw [e2] at ri
      split at h
      · rename_i hj
        simp only [Option.some.injEq] at h; subst h
        rcases rx.slice_inv with ⟨y, hy, _, he⟩ | ⟨h0, _⟩
        · exact key _ _ _ _ _ _ _ he ri.int_inv hj ⟨y, hy, rfl⟩
        · omega
      · cases h
    · rename_i r off n c k j e1 e2
      rw [e1] at rx; rw [e2] at ri
      split at h
      · rename_i hj
        simp only [Option.some.injEq] at h; subst h
        rcases rx.sliceU_inv with ⟨y, _, hy, _, _, he⟩ | ⟨h0, _⟩
        · exact key _ _ _ _ _ _ _ he ri.int_inv hj ⟨y, hy, rfl⟩
        · omega
      · cases h
    · cases h
  · rename_i len e hu
    simp only [Option.map_eq_some_iff] at hc
    obtain ⟨sz, hsz, rfl⟩ := hc
    simp only [ipure] at h
    split at h
    · rename_i r o k j e1 e2
      rw [e1] at rx; rw [e2] at ri
      split at h
      · rename_i hj
        simp only [Option.some.injEq] at h; subst h
        obtain ⟨y, hy, hv⟩ := rx.ptr_inv
        refine ⟨.pointer (some ⟨y.b, y.d + (o + j.toNat * sz), none⟩), .ptr _ _ y hy, fun w => ?_⟩
        simp [execOp, hv, ri.int_inv, Instr.indexAt, asIntOf, Instr.sureAddr, run_und hu, hj, run_size hsz, Addr.add_eq, Nat.add_assoc]
      · cases h
    · cases h
  · cases hc

theorem gives_indexStr (hs : SRel ρ s a) {t x i p} (hc : pureOf P (.index t x i) = some p) (h : ipure p s = some v) : Gives P a ⟨dst, .index t x i, ty, pos, af, g⟩ ρ v := by
  simp only [pureOf, Option.bind_eq_bind, Option.bind_eq_some_iff] at hc
  obtain ⟨x', hx', i', hi', hc⟩ := hc
  have rx := evo_rel hs hx'
  have ri := evo_rel hs hi'
  split at hc
  · rename_i hu
    simp only [Option.some.injEq] at hc; subst hc
    simp only [ipure] at h
    split at h
    · rename_i b k j e1 e2
      rw [e1] at rx; rw [e2] at ri
      split at h
      · rename_i hj
        simp only [Option.map_eq_some_iff] at h
        obtain ⟨c, hc, rfl⟩ := h
        exact ⟨_, .int _ _, fun w => by simp [execOp, rx.str_inv, ri.int_inv, Instr.index, asIntOf, run_und hu, hj, hc]⟩
      · cases h
    · cases h
  · cases hc

theorem alen_ok {x x' n} (hx : VRel ρ x x') (h : alen x = some n) : ∃ p c, x' = .slice p n c := by
  unfold alen at h
  split at h <;> first | cases h | skip
  · exact ⟨_, _, hx.nilslice_inv⟩
  · rcases hx.slice_inv with ⟨y, _, _, he⟩ | ⟨h0, h1, p, he⟩
    · exact ⟨_, _, he⟩
    · subst h0; exact ⟨_, _, he⟩
  · rcases hx.sliceU_inv with ⟨y, c, _, _, _, he⟩ | ⟨h0, p, he⟩
    · exact ⟨_, _, he⟩
    · subst h0; exact ⟨_, _, he⟩
  · cases hx; exact ⟨_, _, rfl⟩

theorem fold_min (isMax : Bool) : ∀ {l : List AV} {vs : List Value}, VRelL ρ l vs → ∀ {x : AV} {u : Value}, VRel ρ x u → ∀ {v : AV}, l.foldlM (amm isMax) x = some v →
    ∃ v', VRel ρ v v' ∧ ∀ w, (vs.foldlM (if isMax = true then Builtin.max2 else Builtin.min2) u).run P w = .ok v' w
  | _, _, .nil, x, u, hx, v, h => by
    simp only [List.foldlM_nil, Option.pure_def, Option.some.injEq] at h; subst h
    exact ⟨u, hx, fun w => by simp⟩
  | _, _, .cons a b l vs hr ht, x, u, hx, v, h => by
    simp only [List.foldlM_cons, Option.bind_eq_bind, Option.bind_eq_some_iff] at h
    obtain ⟨m, h1, h2⟩ := h
    unfold amm at h1
    split at h1
    · simp only [Option.some.injEq] at h1; subst h1
      obtain ⟨v', k1, k2⟩ := fold_min isMax ht (VRel.int _ _) h2
      refine ⟨v', k1, fun w => ?_⟩
      have := k2 w
      rw [hx.int_inv, hr.int_inv]
      simp only [List.foldlM_cons, Sem.run_bind]
      cases isMax
      · simpa [Builtin.min2] using this
      · simpa [Builtin.max2] using this
    · cases h1

theorem gives_builtin (hs : SRel ρ s a) {c p} (hc : pureOf P (.call c) = some p) (h : ipure p s = some v) : Gives P a ⟨dst, .call c, ty, pos, af, g⟩ ρ v := by
  obtain ⟨callee, ⟨args⟩, argTypes⟩ := c
  simp only [pureOf] at hc
  split at hc
  · rename_i x t e3
    simp only [Option.bind_eq_bind, Option.bind_eq_some_iff] at hc
    obtain ⟨x', hx', hc⟩ := hc
    have rx := evo_rel hs hx'
    split at hc
    · rename_i e hu
      simp only [Option.some.injEq] at hc; subst hc
      simp only [ipure, Option.map_eq_some_iff] at h
      obtain ⟨n, hn, rfl⟩ := h
      obtain ⟨q, c, hv⟩ := alen_ok rx hn
      exact ⟨_, .int _ _, fun w => by simp [execOp, resolve, invoke, builtin, Builtin.len_, e3, hv, run_und hu, goInt]⟩
    · rename_i hu
      simp only [Option.some.injEq] at hc; subst hc
      simp only [ipure] at h
      split at h
      · rename_i b e; rw [e] at rx
        simp only [Option.some.injEq] at h; subst h
        exact ⟨_, .int _ _, fun w => by simp [execOp, resolve, invoke, builtin, Builtin.len_, e3, rx.str_inv, run_und hu, goInt]⟩
      · cases h
    · cases hc
  · rename_i x t e3
    simp only [Option.bind_eq_bind, Option.bind_eq_some_iff] at hc
    obtain ⟨x', hx', hc⟩ := hc
    have rx := evo_rel hs hx'
    split at hc
    · rename_i e hu
      simp only [Option.some.injEq] at hc; subst hc
      simp only [ipure] at h
      split at h
      · rename_i e0; rw [e0] at rx
        simp only [Option.some.injEq] at h; subst h
        exact ⟨_, .int _ _, fun w => by simp [execOp, resolve, invoke, builtin, Builtin.cap_, e3, rx.nilslice_inv, run_und hu, goInt]⟩
      · rename_i r off n c e0; rw [e0] at rx
        simp only [Option.some.injEq] at h; subst h
        rcases rx.slice_inv with ⟨y, _, _, he⟩ | ⟨h0, h1, p, he⟩
        · exact ⟨_, .int _ _, fun w => by simp [execOp, resolve, invoke, builtin, Builtin.cap_, e3, he, run_und hu, goInt]⟩
        · subst h1; exact ⟨_, .int _ _, fun w => by simp [execOp, resolve, invoke, builtin, Builtin.cap_, e3, he, run_und hu, goInt]⟩
      · cases h
    · cases hc
  · rename_i x y
    simp only [Option.bind_eq_bind, Option.bind_eq_some_iff] at hc
    obtain ⟨x', hx', y', hy', hc⟩ := hc
    simp only [Option.some.injEq] at hc; subst hc
    have rx := evo_rel hs hx'
    have ry := evo_rel hs hy'
    simp only [ipure] at h
    split at h
    · rename_i e1 e2; rw [e1] at rx; rw [e2] at ry
      simp only [Option.some.injEq] at h; subst h
      exact ⟨_, .int _ _, fun w => by simp [execOp, resolve, invoke, builtin, Builtin.min_, Builtin.min2, rx.int_inv, ry.int_inv]⟩
    · cases h
  · rename_i x y
    simp only [Option.bind_eq_bind, Option.bind_eq_some_iff] at hc
    obtain ⟨x', hx', y', hy', hc⟩ := hc
    simp only [Option.some.injEq] at hc; subst hc
    have rx := evo_rel hs hx'
    have ry := evo_rel hs hy'
    simp only [ipure] at h
    split at h
    · rename_i e1 e2; rw [e1] at rx; rw [e2] at ry
      simp only [Option.some.injEq] at h; subst h
      exact ⟨_, .int _ _, fun w => by simp [execOp, resolve, invoke, builtin, Builtin.max_, Builtin.max2, rx.int_inv, ry.int_inv]⟩
    · cases h
  · rename_i X Y Z R
    simp only [Option.map_eq_some_iff] at hc
    obtain ⟨l, hl, rfl⟩ := hc
    have rl := opds_rel hs hl
    simp only [ipure, amms] at h
    split at h
    · cases h
    · rename_i x0 r0 e0
      rw [e0] at rl
      simp only [List.map_cons] at rl
      cases rl with
      | cons _ _ _ _ r1 r2 =>
        obtain ⟨v', h1, h2⟩ := fold_min (P := P) false r2 r1 h
        refine ⟨v', h1, fun w => ?_⟩
        have := h2 w
        simp only [Bool.false_eq_true, if_false] at this
        simp [-List.foldlM_cons, execOp, resolve, invoke, builtin, Builtin.min_, this]
  · rename_i X Y Z R
    simp only [Option.map_eq_some_iff] at hc
    obtain ⟨l, hl, rfl⟩ := hc
    have rl := opds_rel hs hl
    simp only [ipure, amms] at h
    split at h
    · cases h
    · rename_i x0 r0 e0
      rw [e0] at rl
      simp only [List.map_cons] at rl
      cases rl with
      | cons _ _ _ _ r1 r2 =>
        obtain ⟨v', h1, h2⟩ := fold_min (P := P) true r2 r1 h
        refine ⟨v', h1, fun w => ?_⟩
        have := h2 w
        simp only [if_true] at this
        simp [-List.foldlM_cons, execOp, resolve, invoke, builtin, Builtin.max_, this]
  · cases hc

theorem gives_slice (hs : SRel ρ s a) {t x lo hi p} (hc : pureOf P (.slice t x lo hi none) = some p) (h : ipure p s = some v) : Gives P a ⟨dst, .slice t x lo hi none, ty, pos, af, g⟩ ρ v := by
  simp only [pureOf, Option.bind_eq_bind, Option.bind_eq_some_iff] at hc
  obtain ⟨x', hx', lo', hlo', hi', hhi', hc⟩ := hc
  have rx := evo_rel hs hx'
  have rlo := opdO_rel hs hlo'
  have rhi := opdO_rel hs hhi'
  split at hc
  · rename_i e hu
    simp only [Option.map_eq_some_iff] at hc
    obtain ⟨sz, hsz, rfl⟩ := hc
    simp only [ipure] at h
    have key : ∀ b n c hh ll r, a.eval x = .slice b n c → n ≤ c → ahi (hi'.map (evo s)) n c = some hh → ahi (lo'.map (evo s)) 0 hh = some ll →
        (∀ q, q = (if c = ll then b else b.map (·.add (ll * sz))) → VRel ρ r (.slice q (hh - ll) (c - ll))) → Gives P a ⟨dst, .slice t x lo hi none, ty, pos, af, g⟩ ρ r := fun b n c hh ll r e1 hle e2 e3 hr => by
      obtain ⟨_, _, k⟩ := bounds_ok (P := P) (isSlice := true) rlo rhi hle e2 e3
      exact ⟨_, hr _ rfl, fun w => by simp [execOp, e1, Instr.sliceAt, Instr.slice, run_und hu, k, run_size hsz]⟩
    unfold aslice at h
    split at h
    · rename_i r off n c e0
      rw [e0] at rx
      simp only [Option.bind_eq_some_iff, Option.some.injEq] at h
      obtain ⟨hh, e2, ll, e3, rfl⟩ := h
      rcases rx.slice_inv with ⟨y, hy, hle, he⟩ | ⟨h0, h1, q, he⟩
      · obtain ⟨k1, k2, _⟩ := bounds_ok (P := P) (isSlice := true) rlo rhi hle e2 e3
        refine key _ _ _ _ _ _ he hle e2 e3 fun q hq => ?_
        by_cases hcl : c = ll
        · have z1 : hh - ll = 0 := by omega
          have z2 : c - ll = 0 := by omega
          rw [z1, z2]; exact .slice0 _ _ _
        · rw [if_neg hcl] at hq; subst hq
          have := VRel.slice r (off + ll * sz) (hh - ll) (c - ll) y hy (by omega)
          simpa [Addr.add_eq, Nat.add_assoc] using this
      · subst h0; subst h1
        obtain ⟨k1, k2, _⟩ := bounds_ok (P := P) (isSlice := true) rlo rhi (Nat.le_refl 0) e2 e3
        refine key _ _ _ _ _ _ he (Nat.le_refl _) e2 e3 fun q hq => ?_
        have z1 : hh - ll = 0 := by omega
        rw [z1, Nat.zero_sub]; exact .slice0 _ _ _
    · rename_i r off n sz' e0
      rw [e0] at rx
      simp only [Option.bind_eq_some_iff] at h
      obtain ⟨hh, e2, ll, e3, h⟩ := h
      split at h
      · rename_i hsz'; subst hsz'
        simp only [Option.some.injEq] at h; subst h
        rcases rx.sliceU_inv with ⟨y, c, hy, hle, hfit, he⟩ | ⟨h0, q, he⟩
        · obtain ⟨k1, k2, _⟩ := bounds_ok (P := P) (isSlice := true) rlo rhi (Nat.le_refl n) e2 e3
          have e2' : ahi (hi'.map (evo s)) n c = some hh := by
            revert e2
            cases hi'.map (evo s) with
            | none => exact id
            | some u =>
              simp only [ahi]
              unfold abound
              split
              · intro hh1
                split at hh1
                · rename_i hb; rw [if_pos (by omega)]; exact hh1
                · cases hh1
              · exact id
          refine key _ _ _ _ _ _ he hle e2' e3 fun q hq => ?_
          by_cases hcl : c = ll
          · have z1 : hh - ll = 0 := by omega
            have z2 : c - ll = 0 := by omega
            rw [z1, z2]; exact .sliceU0 _ _ _ _
          · rw [if_neg hcl] at hq; subst hq
            have hm : ll * sz' + (c - ll) * sz' = c * sz' := by rw [← Nat.add_mul]; congr 1; omega
            have := VRel.sliceU r (off + ll * sz') (hh - ll) sz' (c - ll) y hy (by omega) (by omega)
            simpa [Addr.add_eq, Nat.add_assoc] using this
        · subst h0
          obtain ⟨k1, k2, _⟩ := bounds_ok (P := P) (isSlice := true) rlo rhi (Nat.le_refl 0) e2 e3
          refine key _ _ _ _ _ _ he (Nat.le_refl _) e2 e3 fun q hq => ?_
          have z1 : hh - ll = 0 := by omega
          rw [z1, Nat.zero_sub]; exact .sliceU0 _ _ _ _
      · cases h
    · rename_i e0
      rw [e0] at rx
      simp only [Option.bind_eq_some_iff] at h
      obtain ⟨hh, e2, ll, e3, h⟩ := h
      simp only [Option.some.injEq] at h; subst h
      obtain ⟨k1, k2, _⟩ := bounds_ok (P := P) (isSlice := true) rlo rhi (Nat.le_refl 0) e2 e3
      refine key _ _ _ _ _ _ rx.nilslice_inv (Nat.le_refl _) e2 e3 fun q hq => ?_
      have z1 : hh - ll = 0 := by omega
      have z2 : ll = 0 := by omega
      subst z2
      simp only [if_true] at hq
      subst hq
      rw [z1]; exact .nilslice
    · cases h
  · rename_i hu
    simp only [Option.some.injEq] at hc; subst hc
    simp only [ipure, asliceStr] at h
    split at h
    · rename_i b e0
      rw [e0] at rx
      simp only [Option.bind_eq_some_iff, Option.some.injEq] at h
      obtain ⟨hh, e2, ll, e3, rfl⟩ := h
      obtain ⟨_, _, k⟩ := bounds_ok (P := P) (isSlice := false) rlo rhi (Nat.le_refl b.size) e2 e3
      exact ⟨_, .str _, fun w => by simp [execOp, rx.str_inv, Instr.sliceAt, Instr.slice, run_und hu, k]⟩
    · cases h
  · cases hc

theorem gives_slice3 (hs : SRel ρ s a) {t x lo hi mx p} (hc : pureOf P (.slice t x lo (some hi) (some mx)) = some p) (h : ipure p s = some v) : Gives P a ⟨dst, .slice t x lo (some hi) (some mx), ty, pos, af, g⟩ ρ v := by
  simp only [pureOf, Option.bind_eq_bind, Option.bind_eq_some_iff] at hc
  obtain ⟨x', hx', lo', hlo', hi', hhi', mx', hmx', hc⟩ := hc
  have rx := evo_rel hs hx'
  have rlo := opdO_rel hs hlo'
  have rhi := evo_rel hs hhi'
  have rmx := evo_rel hs hmx'
  split at hc
  · rename_i e hu
    simp only [Option.map_eq_some_iff] at hc
    obtain ⟨sz, hsz, rfl⟩ := hc
    simp only [ipure] at h
    unfold aslice3 at h
    split at h
    · rename_i r off n c e0
      rw [e0] at rx
      simp only [Option.bind_eq_some_iff, Option.some.injEq] at h
      obtain ⟨m, e1, hh, e2, ll, e3, rfl⟩ := h
      obtain ⟨b1, k1⟩ := abound_ok (P := P) rmx e1 .slice3Acap
      obtain ⟨b2, k2⟩ := abound_ok (P := P) rhi e2 .slice3B
      have k3 : ll ≤ hh ∧ ∀ w, (match lo.map a.eval with | some v => Instr.sliceBound v hh .slice3C | none => pure 0 : Sem Nat).run P w = .ok ll w := by
        rcases rlo with ⟨q1, q2⟩ | ⟨y, y', q1, q2, hr⟩
        · rw [q1] at e3; rw [q2]
          simp only [ahi, Option.some.injEq] at e3; subst e3
          exact ⟨Nat.zero_le _, fun w => by simp⟩
        · rw [q1] at e3; rw [q2]
          obtain ⟨u1, u2⟩ := abound_ok (P := P) hr e3 .slice3C
          exact ⟨u1, u2⟩
      obtain ⟨b3, k3⟩ := k3
      have key : ∀ b n' r, a.eval x = .slice b n' c → (∀ q, q = (if m = ll then b else b.map (·.add (ll * sz))) → VRel ρ r (.slice q (hh - ll) (m - ll))) → Gives P a ⟨dst, .slice t x lo (some hi) (some mx), ty, pos, af, g⟩ ρ r := fun b n' r e1 hr => by
        refine ⟨_, hr _ rfl, fun w => ?_⟩
        have kk : (Instr.sliceBounds true n' c (lo.map a.eval) (some (a.eval hi)) (some (a.eval mx))).run P w = .ok (ll, hh, m) w := by
          have k3' := k3 w
          simp [Instr.sliceBounds, k1, k2]
          cases hlo2 : lo.map a.eval <;> simp_all
        simp [execOp, e1, Instr.sliceAt, Instr.slice, run_und hu, kk, run_size hsz]
      rcases rx.slice_inv with ⟨y, hy, hle, he⟩ | ⟨h0, h1, q, he⟩
      · refine key _ _ _ he fun q hq => ?_
        by_cases hcl : m = ll
        · have z1 : hh - ll = 0 := by omega
          have z2 : m - ll = 0 := by omega
          rw [z1, z2]; exact .slice0 _ _ _
        · rw [if_neg hcl] at hq; subst hq
          have := VRel.slice r (off + ll * sz) (hh - ll) (m - ll) y hy (by omega)
          simpa [Addr.add_eq, Nat.add_assoc] using this
      · subst h0; subst h1
        refine key _ _ _ he fun q hq => ?_
        have z1 : hh - ll = 0 := by omega
        have z2 : m - ll = 0 := by omega
        rw [z1, z2]; exact .slice0 _ _ _
    · cases h
  · cases hc

/-- **What only computes gives what it means**, in every world. -/
theorem pure_sound (hs : SRel ρ s a) {o : Oper} {p} (hc : pureOf P o.op = some p) (h : ipure p s = some v) : Gives P a o ρ v := by
  obtain ⟨dst, op, ty, pos, af, g⟩ := o
  simp only at hc
  cases op
  case move => exact (gives_move hs hc h).1
  case assign => exact (gives_move hs hc h).2
  case pick => exact gives_pick hs hc h
  case binOp => exact gives_bin hs hc h
  case unOp => exact gives_un hs hc h
  case convert => exact gives_conv hs hc h
  case field => exact gives_field hs hc h
  case fieldAddr => exact gives_fieldAddr hs hc h
  case indexAddr => exact gives_indexAddr hs hc h
  case index => exact gives_indexStr hs hc h
  case extract => exact gives_extract hs hc h
  case nilCheck => exact gives_nilCheck hs hc h
  case call => exact gives_builtin hs hc h
  case slice t x lo hi mx =>
    cases mx with
    | none => exact gives_slice hs hc h
    | some m =>
      cases hi with
      | none => simp [pureOf] at hc
      | some hi => exact gives_slice3 hs hc h
  case makeFunc fn first caps =>
    cases fn
    case func => exact gives_makeFunc hs hc h
    all_goals simp [pureOf] at hc
  all_goals simp [pureOf] at hc
end
end Go.Vh

