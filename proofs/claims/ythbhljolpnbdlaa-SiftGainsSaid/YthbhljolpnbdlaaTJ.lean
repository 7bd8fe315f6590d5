/- Contracts of stage 4: two lists of truths compared. -/
import Derived.Test.YthbhljolpnbdlaaVX
import Derived.Test.YthbhljolpnbdlaaSIr4
import Derived.Test.YthbhljolpnbdlaaTI
set_option linter.unusedSimpArgs false
set_option linter.unusedVariables false
-- NEWSET
namespace Go.Proofs.Ythbhljolpnbdlaa
open Go Go.Vh

/-- a list of n truths, wherever it lies -/
def Vw (H : AHeap) (v : AV) (n : Nat) (f : Nat → Bool) : Prop := ∃ κ q, okS κ n ∧ v = mkS κ q 0 n ∧ ∀ i, i < n → ∃ row, Vh.rowAt H q = some row ∧ row.cells[i]? = some (.bool (f i))
theorem Vw.base {H H' : AHeap} {v : AV} {n : Nat} {f : Nat → Bool} (h : Vw H v n f) (hb : Base H H') : Vw H' v n f := by
  obtain ⟨κ, q, h1, h2, h3⟩ := h
  exact ⟨κ, q, h1, h2, fun i hi => by obtain ⟨row, k1, k2⟩ := h3 i hi; exact ⟨row, hb.row k1, k2⟩⟩
theorem Vw.nil {H : AHeap} {f : Nat → Bool} : Vw H .nilslice 0 f := ⟨.nil, 0, rfl, rfl, fun i hi => by omega⟩
end Go.Proofs.Ythbhljolpnbdlaa


/- The law SiftSlots. -/
-- NEWSET
namespace Go.Proofs.Ythbhljolpnbdlaa
open Go Go.Vh

section
variable {K : St → AHeap → Prop} {d : Option Nat} {s : St} {H : AHeap}
theorem call_true6 {f : FuncId} {W : List Nat} (h : ACalls Try.prog f [] [] W fun v _ => v = .bool true) (hK : ∀ H', K (putI d s (.bool true)) (H ++ H')) : thenC Try.prog K d s H [] (.func f []) := by
  refine call_do h [] rfl rfl rfl rfl trivial ?_
  rintro v0 H0' rfl
  rw [n_bool, m_merge, m_nil]
  exact hK _
end

end Go.Proofs.Ythbhljolpnbdlaa

