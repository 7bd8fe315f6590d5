/- Equations: make, copy, stores. -/
import Derived.Test.YthbhljolpnbdlaaV7
set_option linter.unusedSimpArgs false
set_option linter.unusedVariables false
namespace Go.Vh
open Go
section
variable {s : St} {H : AHeap}

theorem p_minmax {x y : Opd} {k k' : IntKind} {a b : Int} {isMax : Bool} (hx : evo s x = .int k a) (hy : evo s y = .int k' b) : ipure (.minmax isMax x y) s = some (.int k (if isMax then (if b > a then b else a) else (if b < a then b else a))) := by
  simp only [ipure, hx, hy]
end
end Go.Vh


/- An empty row, added. -/
namespace Go.Vh
open Go

def empty : Option ARow := some ⟨true, false, []⟩
theorem Weak.trans {n0 : Nat} {s s' s'' : St} {H H' H'' : AHeap} (h : Weak n0 s H s' H') (h' : Weak n0 s' H' s'' H'') : Weak n0 s H s'' H'' := fun w0 ex N R0 ρ a w hR rel =>
  let ⟨ρ', r'⟩ := h w0 ex N R0 ρ a w hR rel
  h' w0 ex N R0 ρ' a w hR r'
end Go.Vh

