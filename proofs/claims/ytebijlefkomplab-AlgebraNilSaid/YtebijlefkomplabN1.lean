/- known() and AlgebraNil answer true: by the runner. -/
import Derived.Test.YtebijlefkomplabVh28
import Derived.Test.YtebijlefkomplabProg
import Derived.KernelRfl
set_option linter.unusedSimpArgs false
set_option linter.unusedVariables false
namespace Go.Proofs.Ytebijlefkomplab
open Go Go.Vh

set_option maxRecDepth 10000 in
theorem nil_run (n k : Int) : (rfun (find Try.prog) 1000 50 10 [.int .i64 n, .int .i64 k] []).map (·.1) = some (.bool true) := by kernel_rfl
theorem nil_calls (n k : Int) : ∃ W, ACalls Try.prog 10 [.int .i64 n, .int .i64 k] [] W fun v _ => v = .bool true := by
  have h := nil_run n k
  simp only [Option.map_eq_some_iff] at h
  obtain ⟨⟨v, H'⟩, h1, h2⟩ := h
  simp only at h2; subst h2
  obtain ⟨W, hA⟩ := run_calls (fun _ _ h => h) h1
  exact ⟨W, hA.mono fun _ _ h => h.1⟩
theorem lNil_calls (n k : Int) (_ : -9223372036854775808 ≤ n ∧ n ≤ 9223372036854775807) (_ : -9223372036854775808 ≤ k ∧ k ≤ 9223372036854775807) : ACalls Try.prog 10 [.int .i64 n, .int .i64 k] [] [] fun v H => v = .bool true ∧ H = [] := by
  obtain ⟨W, h⟩ := nil_calls n k
  exact h.trim1 rfl
end Go.Proofs.Ytebijlefkomplab
