/- works() answers true: by the runner. -/
import Derived.Test.YtjmceapnhmeflaaDoorV7
import Derived.Test.YtjmceapnhmeflaaDoorC8
import Derived.KernelRfl
set_option linter.unusedSimpArgs false
set_option linter.unusedVariables false
namespace Go.Proofs.YtjmceapnhmeflaaDoor
open Go Go.Vh

theorem works_run : (rfun noG (find Tryd.prog) 1000 50 18 [] []).map (·.1) = some (.bool true) := by kernel_rfl
theorem works_calls : ∃ W, ACalls Tryd.prog 18 [] [] W fun v _ => v = .bool true := by
  have h := works_run
  simp only [Option.map_eq_some_iff] at h
  obtain ⟨⟨v, H'⟩, h1, h2⟩ := h
  simp only at h2; subst h2
  obtain ⟨W, hA⟩ := run_calls (fun _ _ h => h) h1
  exact ⟨W, hA.mono fun _ _ h => h.1⟩
end Go.Proofs.YtjmceapnhmeflaaDoor

