/- An empty row, added. -/
import Derived.Test.YthbhljolpnbdlaaV7
set_option linter.unusedSimpArgs false
set_option linter.unusedVariables false
namespace Go.Vh
open Go

def empty : Option ARow := some ⟨true, false, []⟩
theorem Weak.trans {n0 : Nat} {s s' s'' : St} {H H' H'' : AHeap} (h : Weak n0 s H s' H') (h' : Weak n0 s' H' s'' H'') : Weak n0 s H s'' H'' := fun w0 ex N R0 ρ a w hR rel =>
  let ⟨ρ', r'⟩ := h w0 ex N R0 ρ a w hR rel
  h' w0 ex N R0 ρ' a w hR r'
end Go.Vh

