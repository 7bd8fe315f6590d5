/- known() answers true: by the runner. -/
import Derived.Test.YtebijlefkomplabVh28
import Derived.Test.YtebijlefkomplabProg
import Derived.KernelRfl
set_option linter.unusedSimpArgs false
set_option linter.unusedVariables false
namespace Go.Proofs.Ytebijlefkomplab
open Go Go.Vh

theorem known_run : (rfun (find Try.prog) 1000 50 12 [] []).map (·.1) = some (.bool true) := by kernel_rfl
theorem known_calls : ∃ W, ACalls Try.prog 12 [] [] W fun v _ => v = .bool true := by
  have h := known_run
  simp only [Option.map_eq_some_iff] at h
  obtain ⟨⟨v, H'⟩, h1, h2⟩ := h
  simp only at h2; subst h2
  obtain ⟨W, hA⟩ := run_calls (fun _ _ h => h) h1
  exact ⟨W, hA.mono fun _ _ h => h.1⟩
theorem call_known {K : St → AHeap → Prop} {d : Option Nat} {s : St} {H : AHeap} (hK : K (putI d s (.bool true)) H) : thenC Try.prog K d s H [] (.func 12 []) := by
  obtain ⟨W, h⟩ := known_calls
  exact call_cl (h.trim1 rfl) rfl rfl rfl hK
end Go.Proofs.Ytebijlefkomplab
