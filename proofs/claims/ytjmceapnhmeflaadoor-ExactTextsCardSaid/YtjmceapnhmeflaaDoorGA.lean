/- Contracts: the reference's digits, Check and CheckFrac, of numbers somewhere in a heap. -/
import Derived.Test.YtjmceapnhmeflaaDoorVX
import Derived.Test.YtjmceapnhmeflaaDoorFI
import Derived.Test.YtjmceapnhmeflaaDoorV7
import Derived.Test.YtjmceapnhmeflaaDoorChecked
import Derived.Test.YtjmceapnhmeflaaDoorED
import Derived.Test.YtjmceapnhmeflaaDoorFK
set_option linter.unusedSimpArgs false
set_option linter.unusedVariables false
-- NEWSET
namespace Go.Proofs.YtjmceapnhmeflaaDoor
open Go Go.Vh

section
variable {K : St → AHeap → Prop} {d : Option Nat} {s : St} {H : AHeap}
end

end Go.Proofs.YtjmceapnhmeflaaDoor


/- Contracts: the reference's Bound. -/
-- NEWSET
namespace Go.Proofs.YtjmceapnhmeflaaDoor
open Go Go.Vh

theorem AtO.frame {H H' : AHeap} {v : AV} {n r : Nat} (h : AtO H' v n r) : AtD (H ++ H'.map (renRow (sig [] H.length))) (v.ren (sig [] H.length)) n (H.length + r) := by
  obtain ⟨⟨κ, row, h1, rfl, h3, h4⟩, row', h5, h6⟩ := h
  rw [h3] at h5; cases h5
  have hr : H'[r]? = some (some row) := by
    unfold Vh.rowAt at h3
    cases hq : H'[r]? with
    | none => rw [hq] at h3; simp at h3
    | some z => rw [hq] at h3; simp at h3; rw [h3]
  refine ⟨κ, ⟨true, row.slack, renL (sig [] H.length) row.cells⟩, h1, ?_, ?_, ?_⟩
  · rw [n_mkS0 (r' := H.length + r) (by simp [sig])]
  · unfold Vh.rowAt
    rw [List.getElem?_append_right (by omega), Nat.add_sub_cancel_left, List.getElem?_map, hr]
    simp [renRow, h6]
  · show (renL _ row.cells).take _ = _
    rw [renL_take, h4, flatL_ren ints_flat]

section
variable {K : St → AHeap → Prop} {d : Option Nat} {s : St} {H : AHeap}
end
end Go.Proofs.YtjmceapnhmeflaaDoor

