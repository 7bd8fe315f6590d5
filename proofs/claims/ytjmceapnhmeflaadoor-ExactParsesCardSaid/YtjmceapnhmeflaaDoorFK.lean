/- The sums of samples: they do not grow with the bad things. -/
import Derived.Test.YtjmceapnhmeflaaDoorVX
import Derived.Test.YtjmceapnhmeflaaDoorFH
import Derived.Test.YtjmceapnhmeflaaDoorFI
import Derived.Test.YtjmceapnhmeflaaDoorV7
import Derived.Test.YtjmceapnhmeflaaDoorChecked
set_option linter.unusedSimpArgs false
set_option linter.unusedVariables false
-- NEWSET
namespace Go.Proofs.YtjmceapnhmeflaaDoor
open Go Go.Vh

end Go.Proofs.YtjmceapnhmeflaaDoor


/- Contracts: sort.Search; the bound's closure. -/
-- NEWSET
namespace Go.Proofs.YtjmceapnhmeflaaDoor
open Go Go.Vh

end Go.Proofs.YtjmceapnhmeflaaDoor


/- Contracts: the bound's closure, its region. -/
-- NEWSET
namespace Go.Proofs.YtjmceapnhmeflaaDoor
open Go Go.Vh

section
variable {P : Program} {f : FuncId} {args0 : List AV} {K : St → AHeap → Prop} {d : Option Nat} {s : St} {H : AHeap} {Q : AHeap → AV → AHeap → Prop}
end

/-- What the closure finds in its boxes. -/
structure Boxes (H : AHeap) (t4 t5 t6 t7 t11 n k : Nat) (seen : Int) (w1 w2 wl : AV) (x y : Int) : Prop where
  r4 : Vh.rowAt H t4 = some ⟨true, false, [.int .i64 (n : Int)]⟩
  r5 : Vh.rowAt H t5 = some ⟨true, false, [.int .i64 (k : Int)]⟩
  r6 : Vh.rowAt H t6 = some ⟨true, false, [.int .i64 seen]⟩
  r7 : Vh.rowAt H t7 = some ⟨true, false, [w1, w2]⟩
  r11 : Vh.rowAt H t11 = some ⟨true, false, [wl]⟩
  den : ∃ r, AtK H w2 y r 64
  lim : ∃ r, AtK H wl (x * ((cnk n k : Nat) : Int)) r 81
theorem Boxes.base {H H' : AHeap} {t4 t5 t6 t7 t11 n k : Nat} {seen : Int} {w1 w2 wl : AV} {x y : Int} (h : Boxes H t4 t5 t6 t7 t11 n k seen w1 w2 wl x y) (hb : Base H H') : Boxes H' t4 t5 t6 t7 t11 n k seen w1 w2 wl x y := by
  obtain ⟨a, ha⟩ := h.den
  obtain ⟨b, hb'⟩ := h.lim
  exact ⟨hb.row h.r4, hb.row h.r5, hb.row h.r6, hb.row h.r7, hb.row h.r11, ⟨a, ha.keep (hb.2 a ha.lt)⟩, ⟨b, hb'.keep (hb.2 b hb'.lt)⟩⟩

end Go.Proofs.YtjmceapnhmeflaaDoor


/- Contracts: exact's Bound. -/
-- NEWSET
namespace Go.Proofs.YtjmceapnhmeflaaDoor
open Go Go.Vh

def bdOK (total sample seen : Int) : Prop := 0 ≤ total ∧ total ≤ 512 ∧ 0 ≤ sample ∧ sample ≤ total ∧ 0 ≤ seen ∧ seen ≤ sample
instance (total sample seen : Int) : Decidable (bdOK total sample seen) := by unfold bdOK; infer_instance
theorem x_bsF1 {s : St} {H : AHeap} {x : Opd} {v1 v2 z1 z2 : AV} (h1 : evo s x = .agg [v1, v2]) (c1 : v1.cell = true) (c2 : v2.cell = true) :
    ieff (.buildSlice 1 [z1, z2] [(0, (2, x))]) s H = some (.slice H.length 0 1 1, H ++ [rw_ [v1, v2]]) := by
  simp [ieff, h1, afill, aparts, c1, c2, anew, rw_]
theorem cfE1_short {q : Fr} (h : cfE [q] = 0) : q.n ≤ 64 ∧ q.m ≤ 64 ∧ q.y ≠ 0 := by
  unfold cfE at h
  split at h
  · rename_i hs
    split at h
    · rename_i hd
      simp [Fr.short] at hs
      simp [Fr.den] at hd
      exact ⟨hs.1, hs.2, hd⟩
    · omega
  · omega
end Go.Proofs.YtjmceapnhmeflaaDoor

