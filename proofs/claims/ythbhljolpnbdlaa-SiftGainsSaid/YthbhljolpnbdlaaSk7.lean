/- Contracts of stage 4: known() says true. -/
import Derived.Test.YthbhljolpnbdlaaTE
set_option linter.unusedSimpArgs false
set_option linter.unusedVariables false
namespace Go.Proofs.Ythbhljolpnbdlaa
open Go Go.Vh
set_option maxRecDepth 100000 in
theorem known_run : (gfunP preK lookK (fun f => if f = 14 then findX Try.prog 14 else none) 2000 40 11 [] []).map (·.1) = some (.bool true) := by kernel_rfl
theorem known_calls : ∃ W, ACalls Try.prog 11 [] [] W fun v _ => v = .bool true := by
  have h := known_run
  simp only [Option.map_eq_some_iff] at h
  obtain ⟨⟨v, H'⟩, h1, h2⟩ := h
  simp only at h2; subst h2
  obtain ⟨W, hA⟩ := gfunP_calls (P := Try.prog) preK_ok lookK_ok (fun f F h => by
    split at h
    · rename_i hf; subst hf; exact h
    · cases h) h1
  exact ⟨W, hA.mono fun _ _ h => h.1⟩
end Go.Proofs.Ythbhljolpnbdlaa

