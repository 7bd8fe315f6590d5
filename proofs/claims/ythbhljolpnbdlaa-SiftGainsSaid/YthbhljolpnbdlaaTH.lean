/- Contracts of stage 4: the reference's slots of a class; the sender's bits. -/
import Derived.Test.YthbhljolpnbdlaaVX
import Derived.Test.YthbhljolpnbdlaaTG
set_option linter.unusedSimpArgs false
set_option linter.unusedVariables false
-- NEWSET
namespace Go.Proofs.Ythbhljolpnbdlaa
open Go Go.Vh

/-- truths that were appended one by one -/
def bools (xs : List Bool) : List AV := xs.map AV.bool
def Gb (H0 H : AHeap) (v : AV) (xs : List Bool) : Prop := (xs = [] ∧ v = .nilslice) ∨ ∃ q, 0 < xs.length ∧ v = .sliceU q 0 xs.length 1 ∧ H0.length ≤ q ∧ Vh.rowAt H q = some ⟨true, true, bools xs⟩
theorem Gb.base {H0 H H' : AHeap} {v : AV} {l : List Bool} (h : Gb H0 H v l) (hb : Base H H') : Gb H0 H' v l := by
  rcases h with h | ⟨q, h1, h2, h3, h4⟩
  · exact .inl h
  · exact .inr ⟨q, h1, h2, h3, hb.row h4⟩
end Go.Proofs.Ythbhljolpnbdlaa


/- Contracts of stage 4: the sender's bits. -/
-- NEWSET
namespace Go.Proofs.Ythbhljolpnbdlaa
open Go Go.Vh

end Go.Proofs.Ythbhljolpnbdlaa


/- Contracts of stage 4: sift's bits of the sender. -/
-- NEWSET
namespace Go.Proofs.Ythbhljolpnbdlaa
open Go Go.Vh

end Go.Proofs.Ythbhljolpnbdlaa

