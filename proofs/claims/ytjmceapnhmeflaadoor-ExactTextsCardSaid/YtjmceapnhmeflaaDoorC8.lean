/- ExactOf's walk. -/
import Derived.Test.YtjmceapnhmeflaaDoorV7
import Derived.Test.YtjmceapnhmeflaaDoorCF
set_option linter.unusedSimpArgs false
set_option linter.unusedVariables false
namespace Go.Proofs.YtjmceapnhmeflaaDoor
open Go Go.Vh

theorem renL_take {σ : Sig} : ∀ (l : List AV) (k : Nat), (renL σ l).take k = renL σ (l.take k)
  | [], k => by cases k <;> rfl
  | v :: l, 0 => rfl
  | v :: l, k + 1 => by rw [n_lcons, List.take_succ_cons, List.take_succ_cons, n_lcons, renL_take l k]

section
variable {K : St → AHeap → Prop} {d : Option Nat} {s : St} {H : AHeap}
/-- A call without arguments that answers true. -/
theorem call_true {f : FuncId} {W : List Nat} (h : ACalls Tryd.prog f [] [] W fun v _ => v = .bool true) (hK : ∀ H', K (putI d s (.bool true)) (H ++ H')) : thenC Tryd.prog K d s H [] (.func f []) := by
  refine call_do h [] rfl rfl rfl rfl trivial ?_
  rintro v0 H0' rfl
  rw [n_bool, m_merge, m_nil]
  exact hK _
end

end Go.Proofs.YtjmceapnhmeflaaDoor

