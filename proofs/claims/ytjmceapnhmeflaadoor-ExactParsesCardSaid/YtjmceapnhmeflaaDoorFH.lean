/- Contracts: exact's samplesWith. -/
import Derived.Test.YtjmceapnhmeflaaDoorVX
import Derived.Test.YtjmceapnhmeflaaDoorFG
import Derived.Test.YtjmceapnhmeflaaDoorFF
set_option linter.unusedSimpArgs false
set_option linter.unusedVariables false
-- NEWSET
namespace Go.Proofs.YtjmceapnhmeflaaDoor
open Go Go.Vh

section
variable {f : FuncId} {x z : Int} {k m n0 : Nat} {u : AV} {rest : List AV} {K : St → AHeap → Prop} {d : Option Nat} {s : St} {H : AHeap} {L : List (AV × Int × Nat)}
end
end Go.Proofs.YtjmceapnhmeflaaDoor


/- Contracts: exact's samplesWith, its walk. -/
-- NEWSET
namespace Go.Proofs.YtjmceapnhmeflaaDoor
open Go Go.Vh

section
variable {f : FuncId} {x y z : Int} {k k' m m' n0 : Nat} {u v : AV} {K : St → AHeap → Prop} {d : Option Nat} {s : St} {H : AHeap} {L : List (AV × Int × Nat)}
theorem Has.sub {L' : List (AV × Int × Nat)} (h : Has n0 H L) (hs : ∀ p ∈ L', p ∈ L) : Has n0 H L' := ⟨h.len, h.z, fun p hp => h.nums p (hs p hp)⟩
end

end Go.Proofs.YtjmceapnhmeflaaDoor


/- Contracts: exact's Tail. -/
-- NEWSET
namespace Go.Proofs.YtjmceapnhmeflaaDoor
open Go Go.Vh

/-- what Tail answers: the numbers, and the error's number -/
def tlOK (total bad sample : Int) : Prop := 0 ≤ total ∧ total ≤ 512 ∧ 0 ≤ bad ∧ bad ≤ total ∧ 0 ≤ sample ∧ sample ≤ total
instance (total bad sample : Int) : Decidable (tlOK total bad sample) := by unfold tlOK; infer_instance
section
variable {P : Program} {f : FuncId} {args0 : List AV} {K : St → AHeap → Prop} {d : Option Nat} {s : St} {H : AHeap} {Q : AHeap → AV → AHeap → Prop}
end
theorem In2.app {f : FuncId} {x y : Int} {k k' : Nat} {rest : List AV} {Q : AHeap → AV → AHeap → Prop} (h : In2 f x y k k' rest Q) : In2 f x y k k' rest Q := h

end Go.Proofs.YtjmceapnhmeflaaDoor

