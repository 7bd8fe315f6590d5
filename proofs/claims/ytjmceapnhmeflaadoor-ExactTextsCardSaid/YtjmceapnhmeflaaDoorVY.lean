/- From a contract to a row: arguments that are slices, of bools among them. -/
import Derived.Test.YtjmceapnhmeflaaDoorVX
import Derived.Deep.Grids
set_option linter.unusedSimpArgs false
set_option linter.unusedVariables false
namespace Go.Vh
open Go Go.ChangeShapes Go.WideShapes Go.RowKit Go.ChangeAt Go.Deep

/-- Rows that are only read, with where they lie. -/
structure CRow where
  cs : List AV
  x : Loc

def CRow.at (r : CRow) (w : World) : Prop := r.x.n ≠ 0 ∧ ∀ i c, r.cs[i]? = some c → c.cell = true ∧ ∃ v, w.cell? ⟨r.x.b, r.x.d + i, none⟩ = some v ∧ ∀ ρ, VRel ρ c v

section
variable {P : Program} {H : Type} {enc : TypeId × Value → H} {W : World}

end
end Go.Vh


/- Rows of numbers by index; lists of bools; answers that are appended to; flat rows read by a callee. -/
namespace Go.Vh
open Go

/-- n numbers. -/
def nt (n : Nat) (q : Nat → Int) : List AV := (List.range n).map fun i => AV.int .i64 (q i)
section
variable {P : Program} {f : FuncId} {W0 : List Nat} {K : St → AHeap → Prop} {d : Option Nat} {s : St} {H : AHeap} {args caps rest : List AV} {κ κ' : SK} {n n' : Nat} {a b da db : Nat} {ra rb : ARow} {cs cs' : List AV}

end
end Go.Vh


/- Rows of bytes; what is appended within the room; loops over strings. -/
namespace Go.Vh
open Go
variable {s : St} {H : AHeap}

theorem x_toStr {x} : ieff (.bytesToStr x) s H = (match alen (evo s x) with | some _ => (asrc 1 (evo s x) H).bind fun l => (abytes l).map fun ns => (.str (strOfNums ns), H) | none => none) := rfl
def nums (n : Nat) (q : Nat → Nat) : List Int := (List.range n).map fun i => ((q i : Nat) : Int)
theorem wu8 {x : Int} (h : 0 ≤ x) (h' : x ≤ 255) : IntKind.u8.wrap x = x := by rw [IntKind.wrap_u8]; omega
end Go.Vh


/- Numbers that are appended; rows of a heap by what is known of them; calls whose answers are new; all orders of a region. -/
namespace Go.Vh
open Go
section
variable {s : St} {H : AHeap}
/-- A store of one cell of an own row of integers, behind which its block may go on. -/
theorem x_storeS {x v : Opd} {r off : Nat} {k : IntKind} {b : Int} {l : List Int} {sk : Bool} (hx : evo s x = .ptr r off) (hv : evo s v = .int k b) (hr : Vh.rowAt H r = some ⟨true, sk, ints k l⟩) (ho : off < l.length) :
    ieff (.store 1 x v) s H = some (.any, H.set r (some ⟨true, sk, ints k (l.set off b)⟩)) := by
  have e : splice (ints k l) off [AV.int k b] = ints k (l.set off b) := by
    have : [AV.int k b] = ints k [b] := rfl
    rw [this, ints_splice]
    congr 1
    apply List.ext_getElem?
    intro i
    simp only [List.length_cons, List.length_nil, Nat.zero_add, List.append_assoc, List.getElem?_append, List.length_take, List.getElem?_take, List.getElem?_drop, List.getElem?_set]
    rcases Nat.lt_trichotomy i off with h | h | h
    · simp [show i < min off l.length by omega, h, show off ≠ i by omega]
    · subst h; simp [show ¬ i < min i l.length by omega, show i - min i l.length = 0 by omega, ho]
    · simp [show ¬ i < min off l.length by omega, show ¬ (i - min off l.length < 1) by omega, show off ≠ i by omega]
      congr 1; omega
  simp only [ieff, hx, hv]
  rw [aparts_cell c_int]
  simp only [List.length_cons, List.length_nil, Nat.zero_add, if_true, aput, hr, Option.bind_some]
  rw [if_pos ⟨trivial, by simp only [List.length_cons, List.length_nil, ints_length]; omega, rfl⟩, e]
  rfl
end

section
variable {s : St} {H H0 : AHeap}
theorem row_app {R : AHeap} {j : Nat} : Vh.rowAt (H0 ++ R) (H0.length + j) = Vh.rowAt R j := by simp [Vh.rowAt, List.getElem?_append_right]
end
section
variable {P : Program} {f : FuncId} {W0 : List Nat} {K : St → AHeap → Prop} {d : Option Nat} {s : St} {H : AHeap} {args caps args0 : List AV}
end

theorem row_lt {H : AHeap} {r : Nat} {row : ARow} (h : Vh.rowAt H r = some row) : r < H.length := by
  rw [rowAt_some] at h
  exact (List.getElem?_eq_some_iff.1 h).1
theorem row_other0 {H : AHeap} {r i : Nat} {x : Option ARow} (hn : r ≠ i) : Vh.rowAt (H.set r x) i = Vh.rowAt H i := by
  simp [Vh.rowAt, List.getElem?_set_ne hn]
end Go.Vh

