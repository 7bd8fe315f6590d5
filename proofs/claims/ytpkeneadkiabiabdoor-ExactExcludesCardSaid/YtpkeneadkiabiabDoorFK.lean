/- The sums of samples: they do not grow with the bad things. -/
import Derived.Test.YtpkeneadkiabiabDoorVX
import Derived.Test.YtpkeneadkiabiabDoorFH
import Derived.Test.YtpkeneadkiabiabDoorFI
import Derived.Test.YtpkeneadkiabiabDoorIrE
set_option linter.unusedSimpArgs false
set_option linter.unusedVariables false
-- NEWSET
namespace Go.Proofs.YtpkeneadkiabiabDoor
open Go Go.Vh

theorem tS_zero (b g i : Nat) : tN (b + 1) g 0 i = tN b g 0 i := by
  unfold tN
  split
  · obtain rfl : i = 0 := by omega
    simp [cnk_zero]
  · rfl
theorem tS_first (b g k : Nat) : tN (b + 1) g k 0 = tN b g k 0 := by
  unfold tN
  rw [if_pos (Nat.zero_le _), if_pos (Nat.zero_le _), cnk_zero, cnk_zero]
theorem tS_pascal (b g k i : Nat) : tN (b + 1) g (k + 1) (i + 1) = tN b g k i + tN b g (k + 1) (i + 1) := by
  unfold tN
  by_cases h : i ≤ k
  · rw [if_pos (by omega), if_pos h, if_pos (by omega), show k + 1 - (i + 1) = k - i by omega, ← Nat.add_mul]; rfl
  · rw [if_neg (by omega), if_neg h, if_neg (by omega)]
theorem tS_gzero (b g i : Nat) : tN b (g + 1) 0 i = tN b g 0 i := by
  unfold tN
  split
  · obtain rfl : i = 0 := by omega
    simp [cnk_zero]
  · rfl
theorem tS_gpascal (b g k i : Nat) : tN b (g + 1) (k + 1) i = tN b g k i + tN b g (k + 1) i := by
  unfold tN
  by_cases h : i ≤ k
  · rw [if_pos (by omega), if_pos h, if_pos (by omega), show k + 1 - i = (k - i) + 1 by omega, ← Nat.mul_add]; rfl
  · by_cases h2 : i = k + 1
    · subst h2
      rw [if_pos (by omega), if_neg h, if_pos (by omega), Nat.sub_self, cnk_zero, cnk_zero]; omega
    · rw [if_neg (by omega), if_neg h, if_neg (by omega)]
theorem sS_zero (b g : Nat) : ∀ m, sumT (b + 1) g 0 m = sumT b g 0 m
  | 0 => rfl
  | m + 1 => by rw [sumT, sumT, sS_zero b g m, tS_zero]
theorem sS_gzero (b g : Nat) : ∀ m, sumT b (g + 1) 0 m = sumT b g 0 m
  | 0 => rfl
  | m + 1 => by rw [sumT, sumT, sS_gzero b g m, tS_gzero]
theorem sS_pascal (b g k : Nat) : ∀ m, sumT (b + 1) g (k + 1) (m + 1) = sumT b g k m + sumT b g (k + 1) (m + 1)
  | 0 => by simp only [sumT, tS_first]; omega
  | m + 1 => by
    have ih := sS_pascal b g k m
    have e1 : sumT (b + 1) g (k + 1) (m + 1 + 1) = sumT (b + 1) g (k + 1) (m + 1) + tN (b + 1) g (k + 1) (m + 1) := rfl
    have e2 : sumT b g k (m + 1) = sumT b g k m + tN b g k m := rfl
    have e3 : sumT b g (k + 1) (m + 1 + 1) = sumT b g (k + 1) (m + 1) + tN b g (k + 1) (m + 1) := rfl
    have e4 := tS_pascal b g k m
    omega
theorem sS_gpascal (b g k : Nat) : ∀ m, sumT b (g + 1) (k + 1) m = sumT b g k m + sumT b g (k + 1) m
  | 0 => rfl
  | m + 1 => by
    have ih := sS_gpascal b g k m
    have e4 := tS_gpascal b g k m
    simp only [sumT]
    omega
/-- with one bad thing more there are not more samples that show few -/
theorem sS_mono (b g k m : Nat) : sumT (b + 1) g k m ≤ sumT b (g + 1) k m := by
  cases k with
  | zero => rw [sS_zero, sS_gzero]; exact Nat.le_refl _
  | succ k =>
    cases m with
    | zero => exact Nat.le_refl _
    | succ m =>
      have h1 := sS_pascal b g k m
      have h2 := sS_gpascal b g k (m + 1)
      have h3 : sumT b g k (m + 1) = sumT b g k m + tN b g k m := rfl
      omega
theorem sS_base (g k : Nat) : ∀ m, sumT 0 g k (m + 1) = cnk g k
  | 0 => by simp [sumT, tN, cnk_zero]
  | m + 1 => by
    rw [sumT, sS_base g k m]
    have : tN 0 g k (m + 1) = 0 := tN_high (by omega)
    omega
/-- all samples together -/
theorem sS_full : ∀ b g k m, b < m → sumT b g k m = cnk (b + g) k := by
  intro b
  induction b with
  | zero => intro g k m h; obtain ⟨j, rfl⟩ : ∃ j, m = j + 1 := ⟨m - 1, by omega⟩; rw [sS_base, Nat.zero_add]
  | succ b ih =>
    intro g k m h
    obtain ⟨j, rfl⟩ : ∃ j, m = j + 1 := ⟨m - 1, by omega⟩
    cases k with
    | zero => rw [sS_zero, ih g 0 (j + 1) (by omega), cnk_zero, cnk_zero]
    | succ k => rw [sS_pascal, ih g k j (by omega), ih g (k + 1) (j + 1) (by omega), show b + 1 + g = (b + g) + 1 by omega]; rfl
/-- the samples of k among n, that show at most 'seen' of b bad ones -/
def wT (n b k : Nat) (seen : Int) : Nat := wN b (n - b) k seen
theorem wT_mono {n b k : Nat} {seen : Int} (h : b < n) : wT n (b + 1) k seen ≤ wT n b k seen := by
  unfold wT wN
  have := sS_mono b (n - (b + 1)) k (seen + 1).toNat
  rwa [show n - (b + 1) + 1 = n - b by omega] at this
theorem wT_anti {n k : Nat} {seen : Int} {b c : Nat} (h : b ≤ c) (hc : c ≤ n) : wT n c k seen ≤ wT n b k seen := by
  induction c with
  | zero => obtain rfl : b = 0 := by omega
            exact Nat.le_refl _
  | succ c ih =>
    rcases Nat.eq_or_lt_of_le h with e | e
    · rw [e]; exact Nat.le_refl _
    · exact Nat.le_trans (wT_mono (by omega)) (ih (by omega) (by omega))
theorem wT_full {n b k : Nat} {seen : Int} (hb : b ≤ n) (h : (b : Int) ≤ seen) : wT n b k seen = cnk n k := by
  unfold wT wN
  rw [sS_full b (n - b) k _ (by omega), show b + (n - b) = n by omega]

/-- the last one that is not, of those up to n -/
def lastF (p : Nat → Bool) : Nat → Nat
  | 0 => 0
  | n + 1 => if p (n + 1) then lastF p n else n + 1
theorem lastF_eq {p : Nat → Bool} {r : Nat} : ∀ {n : Nat}, r ≤ n → (r ≠ 0 → p r = false) → (∀ i, r < i → i ≤ n → p i = true) → lastF p n = r
  | 0, h, _, _ => by simp only [lastF]; omega
  | n + 1, h, h1, h2 => by
    rcases Nat.eq_or_lt_of_le h with e | e
    · have := h1 (by omega)
      rw [e] at this
      rw [lastF, this, if_neg (by decide), e]
    · rw [lastF, h2 (n + 1) e (Nat.le_refl _), if_pos rfl]
      exact lastF_eq (by omega) h1 fun i h3 h4 => h2 i h3 (by omega)
end Go.Proofs.YtpkeneadkiabiabDoor



/- Contracts: sort.Search; the bound's closure. -/
-- NEWSET
namespace Go.Proofs.YtpkeneadkiabiabDoor
open Go Go.Vh

theorem shr1 {x : Nat} (hx : x < 18446744073709551616) : abin .shr (.int .u64 (x : Int)) (.int .u64 1) = some (.int .u64 ((x / 2 : Nat) : Int)) := by
  have := b_shr (k := .u64) (k' := .u64) (a := (x : Int)) (n := 1) (by decide)
  exact this.trans (by rw [show (2 : Int) ^ 1 = 2 from rfl]; congr 2)

set_option maxHeartbeats 1000000 in
theorem search_calls (H0 : AHeap) {f : FuncId} {caps : List AV} {n : Nat} (hn : n ≤ 1000000) (p : Nat → Bool) (hmono : ∀ i j, i ≤ j → j < n → p i = true → p j = true)
    (hstep : ∀ H j, Base H0 H → j < n → ∃ W, ACalls Tryd.prog f (.int .i64 (j : Int) :: caps) H W fun v H' => v = .bool (p j) ∧ Base H H') :
    ACalls Tryd.prog 24 [.int .i64 (n : Int), .func f caps] H0 (List.range H0.length) fun v H' => Base H0 H' ∧ ∃ r : Nat, v = .int .i64 (r : Int) ∧ r ≤ n ∧ (∀ i, i < r → p i = false) ∧ ∀ i, r ≤ i → i < n → p i = true := by
  refine ACalls.body Tryd.func24 ent_search ir_search_ok rs_search_ok Tryd.ntmps24 (by simp) rfl ?_
  unfold ir_search
  have e0 : s0 [.int .i64 (n : Int), .func f caps] 0 = .int .i64 n := rfl
  have e1 : s0 [.int .i64 (n : Int), .func f caps] 1 = .func f caps := rfl
  simp -implicitDefEqProofs (disch := omega) only [sN, ↓reduceIte, Nat.reduceEqDiff, Nat.reduceAdd, Nat.reduceMul, Nat.reduceSub, reduceCtorEq, e_none, e_some, e_bindS, e0, e1]
  refine ⟨fun t s H => ∃ i j : Nat, i ≤ j ∧ j ≤ n ∧ t = j - i ∧ (∀ a, a < i → p a = false) ∧ (∀ a, j ≤ a → a < n → p a = true) ∧ Base H0 H ∧ s 1 = .func f caps ∧ s 5 = .int .i64 (i : Int) ∧ s 6 = .int .i64 (j : Int), n, ⟨0, n, by omega, by omega, rfl, fun a h => by omega, fun a h h' => by omega, Base.refl, ?_, ?_, ?_⟩, ?_⟩
  · simp only [e_upd, e_putS, e_putN, e_t, e_c, Nat.reduceEqDiff, ↓reduceIte, reduceCtorEq, Nat.reduceAdd, e1]
  · simp only [e_upd, e_putS, e_putN, e_t, e_c, Nat.reduceEqDiff, ↓reduceIte, reduceCtorEq, Nat.reduceAdd]; rfl
  · simp only [e_upd, e_putS, e_putN, e_t, e_c, Nat.reduceEqDiff, ↓reduceIte, reduceCtorEq, Nat.reduceAdd]
  rintro t s H ⟨i, j, hij, hj, rfl, hlo, hhi, hB, h1, h5, h6⟩
  by_cases hlt : i < j
  · have hwu : IntKind.u64.wrap ((i : Int) + (j : Int)) = ((i + j : Nat) : Int) := by rw [wu64 (by omega) (by omega)]; omega
    have hshr := shr1 (x := i + j) (by omega)
    obtain ⟨m, hm⟩ : ∃ m, (i + j) / 2 = m := ⟨_, rfl⟩
    rw [hm] at hshr
    obtain ⟨W, hA⟩ := hstep H m hB (by omega)
    simp -implicitDefEqProofs (disch := omega) only [sN, ↓reduceIte, Nat.reduceEqDiff, Nat.reduceAdd, Nat.reduceMul, Nat.reduceSub, reduceCtorEq, e_none, e_some, e_bindS, h1, h5, h6, hwu, hshr, List.map_cons, List.map_nil]
    refine ⟨W, ?_⟩
    rw [show [AV.int IntKind.i64 (m : Int)] ++ caps = .int .i64 (m : Int) :: caps from rfl]
    refine hA.g.mono ?_
    rintro v H' ⟨rfl, hB'⟩
    by_cases hp : p m = true
    · rw [hp]
      simp -implicitDefEqProofs (disch := omega) only [sN, ↓reduceIte, Nat.reduceEqDiff, Nat.reduceAdd, Nat.reduceMul, Nat.reduceSub, reduceCtorEq, e_none, e_some, e_bindS, h1, h5, h6]
      refine loop_keep (m := m - i) (by omega) ⟨i, m, by omega, by omega, rfl, hlo, fun a h h' => hmono m a h h' hp, hB.trans hB', ?_, ?_, ?_⟩
      · simp only [e_upd, e_putS, e_putN, e_t, e_c, Nat.reduceEqDiff, ↓reduceIte, reduceCtorEq, Nat.reduceAdd, h1]
      · simp only [e_upd, e_putS, e_putN, e_t, e_c, Nat.reduceEqDiff, ↓reduceIte, reduceCtorEq, Nat.reduceAdd, h5]
      · simp only [e_upd, e_putS, e_putN, e_t, e_c, Nat.reduceEqDiff, ↓reduceIte, reduceCtorEq, Nat.reduceAdd]
    · have hpf : p m = false := by simpa using hp
      rw [hpf]
      simp -implicitDefEqProofs (disch := omega) only [sN, ↓reduceIte, Nat.reduceEqDiff, Nat.reduceAdd, Nat.reduceMul, Nat.reduceSub, reduceCtorEq, e_none, e_some, e_bindS, h1, h5, h6]
      refine loop_keep (m := j - (m + 1)) (by omega) ⟨m + 1, j, by omega, hj, rfl, fun a h => ?_, hhi, hB.trans hB', ?_, ?_, ?_⟩
      · rcases Decidable.em (p a = true) with h2 | h2
        · exact absurd (hmono a m (by omega) (by omega) h2) hp
        · simpa using h2
      · simp only [e_upd, e_putS, e_putN, e_t, e_c, Nat.reduceEqDiff, ↓reduceIte, reduceCtorEq, Nat.reduceAdd, h1]
      · simp only [e_upd, e_putS, e_putN, e_t, e_c, Nat.reduceEqDiff, ↓reduceIte, reduceCtorEq, Nat.reduceAdd]; first | done | rfl
      · simp only [e_upd, e_putS, e_putN, e_t, e_c, Nat.reduceEqDiff, ↓reduceIte, reduceCtorEq, Nat.reduceAdd, h6]
  · obtain rfl : i = j := by omega
    simp -implicitDefEqProofs (disch := omega) only [sN, ↓reduceIte, Nat.reduceEqDiff, Nat.reduceAdd, Nat.reduceMul, Nat.reduceSub, reduceCtorEq, e_none, e_some, e_bindS, h1, h5, h6]
    refine ret_keep hB.1 ⟨hB, i, ?_, hj, hlo, hhi⟩
    simp only [e_upd, e_putS, e_putN, e_t, e_c, Nat.reduceEqDiff, ↓reduceIte, reduceCtorEq, Nat.reduceAdd]
end Go.Proofs.YtpkeneadkiabiabDoor


