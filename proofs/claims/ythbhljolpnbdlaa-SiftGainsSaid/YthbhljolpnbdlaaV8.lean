/- Equations: make, copy, stores. -/
import Derived.Test.YthbhljolpnbdlaaV7
set_option linter.unusedSimpArgs false
set_option linter.unusedVariables false
namespace Go.Vh
open Go
section
variable {s : St} {H : AHeap}

/-- A store of one cell of an own row of integers. -/
theorem x_store {x v : Opd} {r off : Nat} {k : IntKind} {b : Int} {l : List Int} (hx : evo s x = .ptr r off) (hv : evo s v = .int k b) (hr : rowAt H r = some ⟨true, false, ints k l⟩) (ho : off < l.length) :
    ieff (.store 1 x v) s H = some (.any, H.set r (rw_ (ints k (l.set off b)))) := by
  have e : splice (ints k l) off [AV.int k b] = ints k (l.set off b) := by
    have : [AV.int k b] = ints k [b] := rfl
    rw [this, ints_splice]
    congr 1
    apply List.ext_getElem?
    intro i
    simp only [List.length_cons, List.length_nil, Nat.zero_add, List.append_assoc, List.getElem?_append, List.length_take, List.getElem?_take, List.getElem?_drop, List.getElem?_set]
    rcases Nat.lt_trichotomy i off with h | h | h
    · simp [show i < min off l.length by omega, h, show off ≠ i by omega]
    · subst h; simp [show ¬ i < min i l.length by omega, show i - min i l.length = 0 by omega, ho]
    · simp [show ¬ i < min off l.length by omega, show ¬ (i - min off l.length < 1) by omega, show off ≠ i by omega]
      congr 1; omega
  simp only [ieff, hx, hv]
  rw [aparts_cell c_int]
  simp only [List.length_cons, List.length_nil, Nat.zero_add, if_true, aput, hr, Option.bind_some]
  rw [if_pos ⟨trivial, by simp only [List.length_cons, List.length_nil, ints_length]; omega, rfl⟩, e]
  rfl
end
end Go.Vh


/- Calls that leave all as it is. -/
namespace Go.Vh
open Go
theorem n_mkS0 {κ : SK} {σ : Sig} {r off n r' : Nat} (h : σ r = some (r', 0)) : AV.ren σ (mkS κ r off n) = mkS κ r' off n := by rw [n_mkS h, Nat.zero_add]
section
variable {P : Program} {f : FuncId} {W0 : List Nat} {K : St → AHeap → Prop} {d : Option Nat} {s : St} {H : AHeap} {args caps rest : List AV} {κ κ' : SK} {n m m' : Nat} {k : IntKind} {l l' : List Int} {c : AV}

end
end Go.Vh


/- An empty row, added. -/
namespace Go.Vh
open Go

def empty : Option ARow := some ⟨true, false, []⟩
theorem Weak.trans {n0 : Nat} {s s' s'' : St} {H H' H'' : AHeap} (h : Weak n0 s H s' H') (h' : Weak n0 s' H' s'' H'') : Weak n0 s H s'' H'' := fun w0 ex N R0 ρ a w hR rel =>
  let ⟨ρ', r'⟩ := h w0 ex N R0 ρ a w hR rel
  h' w0 ex N R0 ρ' a w hR r'
end Go.Vh

