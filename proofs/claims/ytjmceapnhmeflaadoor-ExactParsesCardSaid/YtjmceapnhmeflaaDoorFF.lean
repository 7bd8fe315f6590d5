/- Contracts: Norm, Bits; the law's short, add, mul. -/
import Derived.Test.YtjmceapnhmeflaaDoorVX
import Derived.Test.YtjmceapnhmeflaaDoorFE
set_option linter.unusedSimpArgs false
set_option linter.unusedVariables false
-- NEWSET
namespace Go.Proofs.YtjmceapnhmeflaaDoor
open Go Go.Vh

section
variable {K : St → AHeap → Prop} {d : Option Nat} {s : St} {H : AHeap}
end

/-! ### The law's own -/
/-- Same, of two normal numbers that are equal. -/
theorem call_same {x : Int} {u v : AV} {K : St → AHeap → Prop} {d : Option Nat} {s : St} {H : AHeap} (hu : AtN H u x) (hv : AtN H v x) (hb : x < BB ^ 100000) (hK : K (putI d s (.bool true)) H) : thenC Tryd.prog K d s H [u, v] (.func 16 []) := by
  obtain ⟨κ, l, row, a, h1, rfl, h3, h4, h5, h6, h7⟩ := hu
  obtain ⟨κ', l', row', b, k1, rfl, k3, k4, k5, k6, k7⟩ := hv
  have hl : l = l' := by
    have := num_inj h5 k5 (h6.trans k6.symm)
    rwa [h7, k7, List.take_length, List.take_length] at this
  have hlen : l.length ≤ 100000 := norm_len h5 h7 (by rw [h6]; exact hb)
  have hlen' : l'.length ≤ 100000 := by rw [← hl]; exact hlen
  refine call_rd2 (rsame_calls κ κ' l l' h1 k1 (by omega) (by omega)) rfl h3 h4 k3 k4 rfl (fun _ => rfl) ?_
  rw [decide_eq_true hl]
  exact hK

end Go.Proofs.YtjmceapnhmeflaaDoor


/- ExactLaws' walk. -/
-- NEWSET
namespace Go.Proofs.YtjmceapnhmeflaaDoor
open Go Go.Vh

/-- What is known of a heap: its first row, and some numbers. -/
structure Has (n0 : Nat) (H : AHeap) (L : List (AV × Int × Nat)) : Prop where
  len : n0 ≤ H.length
  z : ∃ row, Vh.rowAt H 0 = some row
  nums : ∀ p ∈ L, ∃ r, AtK H p.1 p.2.1 r p.2.2
theorem Has.app {n0 : Nat} {H R : AHeap} {L : List (AV × Int × Nat)} (h : Has n0 H L) : Has n0 (H ++ R) L := by
  obtain ⟨hlen, ⟨row, hr⟩, hn⟩ := h
  exact ⟨by rw [List.length_append]; omega, ⟨row, by rw [rowAt_append_left (rowAt_lt hr)]; exact hr⟩, fun p hp => by obtain ⟨r, h⟩ := hn p hp; exact ⟨r, h.app⟩⟩
theorem Has.cons {n0 : Nat} {H : AHeap} {L : List (AV × Int × Nat)} {w : AV} {x : Int} {m k : Nat} (h : Has n0 H L) (hw : NumV H w x m) (hx : x < BB ^ k) : Has n0 H ((w, x, k) :: L) := by
  obtain ⟨row, hr⟩ := h.z
  refine ⟨h.len, ⟨row, hr⟩, fun p hp => ?_⟩
  rcases List.mem_cons.1 hp with rfl | hp
  · exact hw.at hr hx
  · exact h.nums p hp
section
variable {f : FuncId} {x y z z' e : Int} {k k' m m' n0 : Nat} {u v c : AV} {rest : List AV} {K : St → AHeap → Prop} {d : Option Nat} {s : St} {H : AHeap} {L : List (AV × Int × Nat)}
end
end Go.Proofs.YtjmceapnhmeflaaDoor

