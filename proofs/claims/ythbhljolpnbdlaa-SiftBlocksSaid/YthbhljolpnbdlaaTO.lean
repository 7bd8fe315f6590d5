/- Contracts of stage 4: all shifts are visited. -/
import Derived.Test.YthbhljolpnbdlaaVX
import Derived.Test.YthbhljolpnbdlaaTN
import Derived.Test.YthbhljolpnbdlaaRC
import Derived.Test.YthbhljolpnbdlaaTJ
set_option linter.unusedSimpArgs false
set_option linter.unusedVariables false
-- NEWSET
namespace Go.Vh
open Go
section
variable {P : Program} {y : YEnv} {n0 : Nat} {Q : AExit → St → AHeap → Prop} {K : St → AHeap → Prop} {s : St} {H H0 : AHeap} {d : Option Nat} {v : AV}
end
end Go.Vh
namespace Go.Proofs.Ythbhljolpnbdlaa
open Go Go.Vh

end Go.Proofs.Ythbhljolpnbdlaa


/- Contracts of stage 4: Align, a range over a function. -/
-- NEWSET
namespace Go.Vh
open Go
section
variable {P : Program} {n0 : Nat} {Q : AExit → St → AHeap → Prop} {s : St} {H : AHeap}
end
end Go.Vh
namespace Go.Proofs.Ythbhljolpnbdlaa
open Go Go.Vh

end Go.Proofs.Ythbhljolpnbdlaa


/- Contracts of stage 4: copies compared; the law SiftAligns. -/
-- NEWSET
namespace Go.Vh
open Go
section
variable {P : Program} {γ : Nat → AV} {f : FuncId} {H : AHeap} {W : List Nat} {R : AV → AHeap → Prop}
end
section
variable {s : St} {H : AHeap}
theorem x_bs0 : ieff (.buildSlice 0 [] []) s H = some (.slice H.length 0 0 0, H ++ [rw_ []]) := by
  simp [ieff, afill, anew, rw_]
end
end Go.Vh
namespace Go.Proofs.Ythbhljolpnbdlaa
open Go Go.Vh

theorem intsc {l : List Int} : (ints .i64 l).all AV.cell = true := by
  simp [ints, AV.cell]
end Go.Proofs.Ythbhljolpnbdlaa

