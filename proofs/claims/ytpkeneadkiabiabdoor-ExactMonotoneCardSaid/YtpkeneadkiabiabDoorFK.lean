/- The sums of samples: they do not grow with the bad things. -/
import Derived.Test.YtpkeneadkiabiabDoorVX
import Derived.Test.YtpkeneadkiabiabDoorFH
import Derived.Test.YtpkeneadkiabiabDoorFI
import Derived.Test.YtpkeneadkiabiabDoorV8
import Derived.Test.YtpkeneadkiabiabDoorChecked
set_option linter.unusedSimpArgs false
set_option linter.unusedVariables false
-- NEWSET
namespace Go.Proofs.YtpkeneadkiabiabDoor
open Go Go.Vh

theorem tS_zero (b g i : Nat) : tN (b + 1) g 0 i = tN b g 0 i := by
  unfold tN
  split
  · obtain rfl : i = 0 := by omega
    simp [cnk_zero]
  · rfl
theorem tS_first (b g k : Nat) : tN (b + 1) g k 0 = tN b g k 0 := by
  unfold tN
  rw [if_pos (Nat.zero_le _), if_pos (Nat.zero_le _), cnk_zero, cnk_zero]
theorem tS_pascal (b g k i : Nat) : tN (b + 1) g (k + 1) (i + 1) = tN b g k i + tN b g (k + 1) (i + 1) := by
  unfold tN
  by_cases h : i ≤ k
  · rw [if_pos (by omega), if_pos h, if_pos (by omega), show k + 1 - (i + 1) = k - i by omega, ← Nat.add_mul]; rfl
  · rw [if_neg (by omega), if_neg h, if_neg (by omega)]
theorem tS_gzero (b g i : Nat) : tN b (g + 1) 0 i = tN b g 0 i := by
  unfold tN
  split
  · obtain rfl : i = 0 := by omega
    simp [cnk_zero]
  · rfl
theorem tS_gpascal (b g k i : Nat) : tN b (g + 1) (k + 1) i = tN b g k i + tN b g (k + 1) i := by
  unfold tN
  by_cases h : i ≤ k
  · rw [if_pos (by omega), if_pos h, if_pos (by omega), show k + 1 - i = (k - i) + 1 by omega, ← Nat.mul_add]; rfl
  · by_cases h2 : i = k + 1
    · subst h2
      rw [if_pos (by omega), if_neg h, if_pos (by omega), Nat.sub_self, cnk_zero, cnk_zero]; omega
    · rw [if_neg (by omega), if_neg h, if_neg (by omega)]
theorem sS_zero (b g : Nat) : ∀ m, sumT (b + 1) g 0 m = sumT b g 0 m
  | 0 => rfl
  | m + 1 => by rw [sumT, sumT, sS_zero b g m, tS_zero]
theorem sS_gzero (b g : Nat) : ∀ m, sumT b (g + 1) 0 m = sumT b g 0 m
  | 0 => rfl
  | m + 1 => by rw [sumT, sumT, sS_gzero b g m, tS_gzero]
theorem sS_pascal (b g k : Nat) : ∀ m, sumT (b + 1) g (k + 1) (m + 1) = sumT b g k m + sumT b g (k + 1) (m + 1)
  | 0 => by simp only [sumT, tS_first]; omega
  | m + 1 => by
    have ih := sS_pascal b g k m
    have e1 : sumT (b + 1) g (k + 1) (m + 1 + 1) = sumT (b + 1) g (k + 1) (m + 1) + tN (b + 1) g (k + 1) (m + 1) := rfl
    have e2 : sumT b g k (m + 1) = sumT b g k m + tN b g k m := rfl
    have e3 : sumT b g (k + 1) (m + 1 + 1) = sumT b g (k + 1) (m + 1) + tN b g (k + 1) (m + 1) := rfl
    have e4 := tS_pascal b g k m
    omega
theorem sS_gpascal (b g k : Nat) : ∀ m, sumT b (g + 1) (k + 1) m = sumT b g k m + sumT b g (k + 1) m
  | 0 => rfl
  | m + 1 => by
    have ih := sS_gpascal b g k m
    have e4 := tS_gpascal b g k m
    simp only [sumT]
    omega
/-- with one bad thing more there are not more samples that show few -/
theorem sS_mono (b g k m : Nat) : sumT (b + 1) g k m ≤ sumT b (g + 1) k m := by
  cases k with
  | zero => rw [sS_zero, sS_gzero]; exact Nat.le_refl _
  | succ k =>
    cases m with
    | zero => exact Nat.le_refl _
    | succ m =>
      have h1 := sS_pascal b g k m
      have h2 := sS_gpascal b g k (m + 1)
      have h3 : sumT b g k (m + 1) = sumT b g k m + tN b g k m := rfl
      omega
/-- the samples of k among n, that show at most 'seen' of b bad ones -/
def wT (n b k : Nat) (seen : Int) : Nat := wN b (n - b) k seen
theorem wT_mono {n b k : Nat} {seen : Int} (h : b < n) : wT n (b + 1) k seen ≤ wT n b k seen := by
  unfold wT wN
  have := sS_mono b (n - (b + 1)) k (seen + 1).toNat
  rwa [show n - (b + 1) + 1 = n - b by omega] at this
end Go.Proofs.YtpkeneadkiabiabDoor



/- Contracts: sort.Search; the bound's closure. -/
-- NEWSET
namespace Go.Proofs.YtpkeneadkiabiabDoor
open Go Go.Vh

end Go.Proofs.YtpkeneadkiabiabDoor



/- Contracts: the bound's closure, its region. -/
-- NEWSET
namespace Go.Proofs.YtpkeneadkiabiabDoor
open Go Go.Vh

theorem wN_bb {b g k : Nat} {seen : Int} (h : b + g ≤ 512) (hk : k ≤ 512) : ((wN b g k seen : Nat) : Int) < BB ^ 17 := by
  unfold wN
  rcases Nat.lt_or_ge (seen + 1).toNat 1000 with h1 | h1
  · exact sumT_bb h (by omega)
  · rw [sumT_high (n := 1000) (by omega) h1]
    exact sumT_bb h (by omega)

section
variable {P : Program} {f : FuncId} {args0 : List AV} {K : St → AHeap → Prop} {d : Option Nat} {s : St} {H : AHeap} {Q : AHeap → AV → AHeap → Prop}
end

/-- What the closure finds in its boxes. -/
structure Boxes (H : AHeap) (t4 t5 t6 t7 t11 n k : Nat) (seen : Int) (w1 w2 wl : AV) (x y : Int) : Prop where
  r4 : Vh.rowAt H t4 = some ⟨true, false, [.int .i64 (n : Int)]⟩
  r5 : Vh.rowAt H t5 = some ⟨true, false, [.int .i64 (k : Int)]⟩
  r6 : Vh.rowAt H t6 = some ⟨true, false, [.int .i64 seen]⟩
  r7 : Vh.rowAt H t7 = some ⟨true, false, [w1, w2]⟩
  r11 : Vh.rowAt H t11 = some ⟨true, false, [wl]⟩
  den : ∃ r, AtK H w2 y r 64
  lim : ∃ r, AtK H wl (x * ((cnk n k : Nat) : Int)) r 81
theorem Boxes.base {H H' : AHeap} {t4 t5 t6 t7 t11 n k : Nat} {seen : Int} {w1 w2 wl : AV} {x y : Int} (h : Boxes H t4 t5 t6 t7 t11 n k seen w1 w2 wl x y) (hb : Base H H') : Boxes H' t4 t5 t6 t7 t11 n k seen w1 w2 wl x y := by
  obtain ⟨a, ha⟩ := h.den
  obtain ⟨b, hb'⟩ := h.lim
  exact ⟨hb.row h.r4, hb.row h.r5, hb.row h.r6, hb.row h.r7, hb.row h.r11, ⟨a, ha.keep (hb.2 a ha.lt)⟩, ⟨b, hb'.keep (hb.2 b hb'.lt)⟩⟩

end Go.Proofs.YtpkeneadkiabiabDoor


