/- known() answers true: by the runner. -/
import Derived.Test.YtfedgjkcbmkjpaaVh25
import Derived.Test.YtfedgjkcbmkjpaaProg
import Derived.KernelRfl
set_option linter.unusedSimpArgs false
set_option linter.unusedVariables false
namespace Go.Proofs.Ytfedgjkcbmkjpaa
open Go Go.Vh

theorem known_run : (rfun noG (find Try.prog) 1000 50 18 [] []).map (·.1) = some (.bool true) := by kernel_rfl
theorem known_calls : ∃ W, ACalls Try.prog 18 [] [] W fun v _ => v = .bool true := by
  have h := known_run
  simp only [Option.map_eq_some_iff] at h
  obtain ⟨⟨v, H'⟩, h1, h2⟩ := h
  simp only at h2; subst h2
  obtain ⟨W, hA⟩ := run_calls (fun _ _ h => h) h1
  exact ⟨W, hA.mono fun _ _ h => h.1⟩
end Go.Proofs.Ytfedgjkcbmkjpaa
