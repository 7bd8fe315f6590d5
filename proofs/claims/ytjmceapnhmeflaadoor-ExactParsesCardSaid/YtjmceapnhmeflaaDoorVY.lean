/- From a contract to a row: arguments that are slices, of bools among them. -/
import Derived.Test.YtjmceapnhmeflaaDoorVX
set_option linter.unusedSimpArgs false
set_option linter.unusedVariables false
namespace Go.Vh
open Go Go.ChangeShapes Go.WideShapes Go.RowKit Go.ChangeAt Go.Deep

/-- Rows that are only read, with where they lie. -/
structure CRow where
  cs : List AV
  x : Loc

def CRow.at (r : CRow) (w : World) : Prop := r.x.n ≠ 0 ∧ ∀ i c, r.cs[i]? = some c → c.cell = true ∧ ∃ v, w.cell? ⟨r.x.b, r.x.d + i, none⟩ = some v ∧ ∀ ρ, VRel ρ c v

section
variable {P : Program} {H : Type} {enc : TypeId × Value → H} {W : World}

end
end Go.Vh


/- Rows of numbers by index; lists of bools; answers that are appended to; flat rows read by a callee. -/
namespace Go.Vh
open Go

/-- n numbers. -/
def nt (n : Nat) (q : Nat → Int) : List AV := (List.range n).map fun i => AV.int .i64 (q i)
section
variable {P : Program} {f : FuncId} {W0 : List Nat} {K : St → AHeap → Prop} {d : Option Nat} {s : St} {H : AHeap} {args caps rest : List AV} {κ κ' : SK} {n n' : Nat} {a b da db : Nat} {ra rb : ARow} {cs cs' : List AV}

/-- Two slices are read. -/
theorem call_cc {R0 : AV → AHeap → Prop} (h : ACalls P f (mkS κ 0 0 n :: mkS κ' 1 0 n' :: rest) [ro cs, ro cs'] W0 R0) (hf : cs.all AV.flat = true) (hf' : cs'.all AV.flat = true) (hrest : underL 0 rest = true)
    (ha : Vh.rowAt H a = some ra) (hb : Vh.rowAt H b = some rb) (la : da + cs.length ≤ ra.cells.length) (lb : db + cs'.length ≤ rb.cells.length) (ca : (ra.cells.drop da).take cs.length = cs) (cb : (rb.cells.drop db).take cs'.length = cs')
    (hargs : args ++ caps = mkS κ a da n :: mkS κ' b db n' :: rest)
    (hK : ∀ v0 H0', R0 v0 H0' → K (putI d s (v0.ren (sig [(a, da), (b, db)] H.length))) (H ++ (H0'.drop 2).map (renRow (sig [(a, da), (b, db)] H.length)))) : thenC P K d s H args (.func f caps) := by
  have h0 : sig [(a, da), (b, db)] H.length 0 = some (a, da) := rfl
  have h1 : sig [(a, da), (b, db)] H.length 1 = some (b, db) := rfl
  refine call_do h [(a, da), (b, db)] rfl ?_ rfl ?_ ⟨seen_ro ha la (by rw [flatL_ren hf]; exact ca.symm) (flatL_under hf), seen_ro hb lb (by rw [flatL_ren hf']; exact cb.symm) (flatL_under hf'), trivial⟩ fun v0 H0' h0' => ?_
  · have hr : underL 2 rest = true := underL_mono (by omega) hrest
    simp [underL, mkS_under, hr]
  · rw [hargs, n_lcons, n_lcons, n_mkS h0, n_mkS h1, renL_under0 hrest]; rfl
  · have := hK v0 H0' h0'
    rw [m_merge, m_ro, m_ro, m_nil]
    exact this

/-- One slice is read. -/
theorem call_c1 {R0 : AV → AHeap → Prop} (h : ACalls P f (mkS κ 0 0 n :: rest) [ro cs] W0 R0) (hf : cs.all AV.flat = true) (hrest : underL 0 rest = true)
    (ha : Vh.rowAt H a = some ra) (la : da + cs.length ≤ ra.cells.length) (ca : (ra.cells.drop da).take cs.length = cs)
    (hargs : args ++ caps = mkS κ a da n :: rest)
    (hK : ∀ v0 H0', R0 v0 H0' → K (putI d s (v0.ren (sig [(a, da)] H.length))) (H ++ (H0'.drop 1).map (renRow (sig [(a, da)] H.length)))) : thenC P K d s H args (.func f caps) := by
  have h0 : sig [(a, da)] H.length 0 = some (a, da) := rfl
  refine call_do h [(a, da)] rfl ?_ rfl ?_ ⟨seen_ro ha la (by rw [flatL_ren hf]; exact ca.symm) (flatL_under hf), trivial⟩ fun v0 H0' h0' => ?_
  · have hr : underL 1 rest = true := underL_mono (by omega) hrest
    simp [underL, mkS_under, hr]
  · rw [hargs, n_lcons, n_mkS h0, renL_under0 hrest]; rfl
  · have := hK v0 H0' h0'
    rw [m_merge, m_ro, m_nil]
    exact this

end
end Go.Vh


/- Rows of bytes; what is appended within the room; loops over strings. -/
namespace Go.Vh
open Go
variable {s : St} {H : AHeap}

theorem x_toStr {x} : ieff (.bytesToStr x) s H = (match alen (evo s x) with | some _ => (asrc 1 (evo s x) H).bind fun l => (abytes l).map fun ns => (.str (strOfNums ns), H) | none => none) := rfl
def nums (n : Nat) (q : Nat → Nat) : List Int := (List.range n).map fun i => ((q i : Nat) : Int)
theorem wu8 {x : Int} (h : 0 ≤ x) (h' : x ≤ 255) : IntKind.u8.wrap x = x := by rw [IntKind.wrap_u8]; omega
end Go.Vh


/- Numbers that are appended; rows of a heap by what is known of them; calls whose answers are new; all orders of a region. -/
namespace Go.Vh
open Go
section
variable {s : St} {H : AHeap}
/-- A store of one cell of an own row of integers, behind which its block may go on. -/
theorem x_storeS {x v : Opd} {r off : Nat} {k : IntKind} {b : Int} {l : List Int} {sk : Bool} (hx : evo s x = .ptr r off) (hv : evo s v = .int k b) (hr : Vh.rowAt H r = some ⟨true, sk, ints k l⟩) (ho : off < l.length) :
    ieff (.store 1 x v) s H = some (.any, H.set r (some ⟨true, sk, ints k (l.set off b)⟩)) := by
  have e : splice (ints k l) off [AV.int k b] = ints k (l.set off b) := by
    have : [AV.int k b] = ints k [b] := rfl
    rw [this, ints_splice]
    congr 1
    apply List.ext_getElem?
    intro i
    simp only [List.length_cons, List.length_nil, Nat.zero_add, List.append_assoc, List.getElem?_append, List.length_take, List.getElem?_take, List.getElem?_drop, List.getElem?_set]
    rcases Nat.lt_trichotomy i off with h | h | h
    · simp [show i < min off l.length by omega, h, show off ≠ i by omega]
    · subst h; simp [show ¬ i < min i l.length by omega, show i - min i l.length = 0 by omega, ho]
    · simp [show ¬ i < min off l.length by omega, show ¬ (i - min off l.length < 1) by omega, show off ≠ i by omega]
      congr 1; omega
  simp only [ieff, hx, hv]
  rw [aparts_cell c_int]
  simp only [List.length_cons, List.length_nil, Nat.zero_add, if_true, aput, hr, Option.bind_some]
  rw [if_pos ⟨trivial, by simp only [List.length_cons, List.length_nil, ints_length]; omega, rfl⟩, e]
  rfl
end

/-- numbers that were appended one by one, on top of a heap -/
def grownI (base : AHeap) (l : List Int) (v : AV) (H : AHeap) : Prop := (l.length = 0 ∧ v = .nilslice ∧ H = base) ∨ (0 < l.length ∧ v = .sliceU base.length 0 l.length 1 ∧ H = base ++ [sl (ints .i64 l)])
theorem ints_snoc {l : List Int} {x : Int} : ints .i64 l ++ [.int .i64 x] = ints .i64 (l ++ [x]) := by simp [ints]
section
variable {s : St} {H H0 : AHeap}
theorem row_app {R : AHeap} {j : Nat} : Vh.rowAt (H0 ++ R) (H0.length + j) = Vh.rowAt R j := by simp [Vh.rowAt, List.getElem?_append_right]
theorem x_b0 : ieff (.buildSlice 0 [] []) s H = some (.slice H.length 0 0 0, H ++ [rw_ []]) := by simp [ieff, afill, anew, rw_]
end
section
variable {P : Program} {f : FuncId} {W0 : List Nat} {K : St → AHeap → Prop} {d : Option Nat} {s : St} {H : AHeap} {args caps args0 : List AV}
/-- A call that reaches nothing, and whose answer is new. -/
theorem call_fr {R0 : AV → AHeap → Prop} (h : ACalls P f args0 [] W0 R0) (hf : args0.all AV.flat = true) (hargs : args ++ caps = args0)
    (hK : ∀ v new, R0 v new → K (putI d s (v.ren (sig [] H.length))) (H ++ new.map (renRow (sig [] H.length)))) : thenC P K d s H args (.func f caps) := by
  refine call_do h [] rfl (flatL_under hf) rfl (by rw [hargs, flatL_ren hf]) trivial fun v0 H0' h0 => ?_
  have := hK v0 H0' h0
  rw [m_merge, m_nil]
  exact this
end

theorem row_lt {H : AHeap} {r : Nat} {row : ARow} (h : Vh.rowAt H r = some row) : r < H.length := by
  rw [rowAt_some] at h
  exact (List.getElem?_eq_some_iff.1 h).1
theorem row_set0 {H : AHeap} {r : Nat} {x : Option ARow} (h : r < H.length) : Vh.rowAt (H.set r x) r = x := by
  simp [Vh.rowAt, h]
theorem row_other0 {H : AHeap} {r i : Nat} {x : Option ARow} (hn : r ≠ i) : Vh.rowAt (H.set r x) i = Vh.rowAt H i := by
  simp [Vh.rowAt, List.getElem?_set_ne hn]
end Go.Vh

