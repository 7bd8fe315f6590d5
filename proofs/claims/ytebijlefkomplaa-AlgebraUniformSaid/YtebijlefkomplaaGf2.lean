/- The product as that of polynomials with its rest; powers by squares; three fields. -/
import Derived.Test.YtebijlefkomplaaGf1
set_option linter.unusedSimpArgs false
set_option linter.unusedVariables false
namespace Go.Gf

section
variable {w M : Nat}

def txn (w M : Nat) : Nat → Nat → Nat
  | 0, a => a
  | n + 1, a => txn w M n (tx w M a)

theorem txn_succ : ∀ (n a : Nat), txn w M (n + 1) a = tx w M (txn w M n a)
  | 0, _ => rfl
  | n + 1, a => by
    rw [txn, txn_succ n (tx w M a)]; rfl

theorem txn_zero : ∀ n, txn w M n 0 = 0
  | 0 => rfl
  | n + 1 => by rw [txn, tx_zero, txn_zero n]

theorem gmul_last : ∀ (n a b : Nat), gmul (tx w M) (n + 1) a b = gmul (tx w M) n a b ^^^ (if b / 2 ^ n % 2 = 1 then txn w M n a else 0)
  | 0, a, b => by simp [gmul, txn]
  | n + 1, a, b => by
    have h := gmul_last n (tx w M a) (b / 2)
    have e : gmul (tx w M) (n + 1 + 1) a b = (if b % 2 = 1 then a else 0) ^^^ gmul (tx w M) (n + 1) (tx w M a) (b / 2) := rfl
    have e' : gmul (tx w M) (n + 1) a b = (if b % 2 = 1 then a else 0) ^^^ gmul (tx w M) n (tx w M a) (b / 2) := rfl
    rw [e, h, e', Nat.xor_assoc, Nat.div_div_eq_div_mul, ← Nat.pow_succ']
    rfl

/-- The product of polynomials, so many digits of b. -/
def cml (a b : Nat) : Nat → Nat
  | 0 => 0
  | i + 1 => cml a b i ^^^ (if b / 2 ^ i % 2 = 1 then a * 2 ^ i else 0)

/-- The rest, from so many places above w downwards. -/
def rest (w M : Nat) : Nat → Nat → Nat
  | 0, n => n
  | k + 1, n => rest w M k (if n / 2 ^ (w + k) % 2 = 1 then n ^^^ (M * 2 ^ k) else n)

/-- What a polynomial is in the field. -/
def evx (w M n : Nat) : Nat := gmul (tx w M) (2 * w + 1) 1 n

theorem evx_xor (a b : Nat) : evx w M (a ^^^ b) = evx w M a ^^^ evx w M b := gmul_xor_right _ _ _ _ _
theorem evx_zero : evx w M 0 = 0 := gmul_zero_right _ _ _

theorem evx_dbl {y : Nat} (h : y < 2 ^ (2 * w)) : evx w M (2 * y) = tx w M (evx w M y) := by
  unfold evx
  rw [gmul_dbl, gmul_more _ (2 * w) 1 _ _ h]

theorem evx_pow {a : Nat} : ∀ (i : Nat), (∀ j, j < i → a * 2 ^ j < 2 ^ (2 * w)) → evx w M (a * 2 ^ i) = txn w M i (evx w M a)
  | 0, _ => by simp [txn]
  | i + 1, h => by
    rw [txn_succ, ← evx_pow i fun j hj => h j (by omega), ← evx_dbl (h i (by omega)), Nat.pow_succ]
    congr 1
    rw [Nat.mul_comm (2 ^ i) 2, ← Nat.mul_assoc, Nat.mul_comm a 2, Nat.mul_assoc]

variable (F : Fld w M)
include F

theorem evx_self {a : Nat} (h : a < 2 ^ w) : evx w M a = a := by
  unfold evx
  rw [show 2 * w + 1 = w + (w + 1) by omega, gmul_more _ w _ _ _ h]
  exact one_mul F h

theorem evx_M : evx w M M = 0 := by
  have := F.wpos
  unfold evx
  rw [show 2 * w + 1 = (w + 1) + w by omega, gmul_more _ (w + 1) _ _ _ F.lt]
  exact F.red

omit F in
theorem lt_mul {a c i j : Nat} (h : a < 2 ^ c) (hc : c + i ≤ j) : a * 2 ^ i < 2 ^ j := by
  have h1 : a * 2 ^ i < 2 ^ c * 2 ^ i := Nat.mul_lt_mul_of_pos_right h (Nat.two_pow_pos i)
  rw [← Nat.pow_add] at h1
  exact Nat.lt_of_lt_of_le h1 (Nat.pow_le_pow_right (by decide) hc)

theorem evx_cml {a b : Nat} (ha : a < 2 ^ w) : ∀ i, i ≤ w → evx w M (cml a b i) = gmul (tx w M) i a b
  | 0, _ => by rw [cml, evx_zero]; rfl
  | i + 1, h => by
    rw [cml, evx_xor, evx_cml ha i (by omega), gmul_last]
    congr 1
    split
    · rw [evx_pow i fun j hj => lt_mul ha (by omega), evx_self F ha]
    · exact evx_zero

omit F in
theorem cml_lt {a b : Nat} (ha : a < 2 ^ w) : ∀ i, cml a b (i + 1) < 2 ^ (w + i)
  | 0 => by
    rw [cml, cml, Nat.zero_xor]
    split
    · simpa using ha
    · exact Nat.two_pow_pos _
  | i + 1 => by
    rw [cml]
    refine Nat.xor_lt_two_pow (Nat.lt_of_lt_of_le (cml_lt ha i) (Nat.pow_le_pow_right (by decide) (by omega))) ?_
    split
    · exact lt_mul ha (by omega)
    · exact Nat.two_pow_pos _

theorem rest_lt {k n : Nat} (h : n < 2 ^ (w + (k + 1))) : (if n / 2 ^ (w + k) % 2 = 1 then n ^^^ (M * 2 ^ k) else n) < 2 ^ (w + k) := by
  have hb : ∀ i, w + k < i → (n.testBit i = false ∧ (M * 2 ^ k).testBit i = false) := fun i hi => by
    refine ⟨Nat.testBit_lt_two_pow (Nat.lt_of_lt_of_le h (Nat.pow_le_pow_right (by decide) (by omega))), Nat.testBit_lt_two_pow ?_⟩
    exact lt_mul F.lt (by omega)
  have hbit : (M * 2 ^ k).testBit (w + k) = true := by
    rw [Nat.testBit_mul_two_pow]
    simp [F.top]
  have hdig : (n / 2 ^ (w + k) % 2 = 1) = (n.testBit (w + k) = true) := by
    rw [Nat.testBit_eq_decide_div_mod_eq]; simp
  split
  · rename_i h1
    rw [hdig] at h1
    apply Nat.lt_pow_two_of_testBit
    intro i hi
    rw [Nat.testBit_xor]
    by_cases e : i = w + k
    · rw [e, h1, hbit]; rfl
    · obtain ⟨a1, a2⟩ := hb i (by omega)
      rw [a1, a2]; rfl
  · rename_i h1
    rw [hdig] at h1
    apply Nat.lt_pow_two_of_testBit
    intro i hi
    by_cases e : i = w + k
    · rw [e]; simpa using h1
    · exact (hb i (by omega)).1

theorem rest_evx : ∀ (k n : Nat), k < w → n < 2 ^ (w + k) → rest w M k n = evx w M n
  | 0, n, _, h => (evx_self F h).symm
  | k + 1, n, hk, h => by
    rw [rest]
    have hb : ∀ i, w + k < i → (n.testBit i = false ∧ (M * 2 ^ k).testBit i = false) := fun i hi => by
      refine ⟨Nat.testBit_lt_two_pow (Nat.lt_of_lt_of_le h (Nat.pow_le_pow_right (by decide) (by omega))), Nat.testBit_lt_two_pow ?_⟩
      exact lt_mul F.lt (by omega)
    have hbit : (M * 2 ^ k).testBit (w + k) = true := by
      rw [Nat.testBit_mul_two_pow]
      simp [F.top]
    have hdig : (n / 2 ^ (w + k) % 2 = 1) = (n.testBit (w + k) = true) := by
      rw [Nat.testBit_eq_decide_div_mod_eq]; simp
    split
    · rename_i h1
      rw [hdig] at h1
      rw [rest_evx k _ (by omega) ?_, evx_xor, evx_pow k fun j hj => lt_mul F.lt (by omega), evx_M F, txn_zero, Nat.xor_zero]
      apply Nat.lt_pow_two_of_testBit
      intro i hi
      rw [Nat.testBit_xor]
      by_cases e : i = w + k
      · rw [e, h1, hbit]; rfl
      · obtain ⟨a1, a2⟩ := hb i (by omega)
        rw [a1, a2]; rfl
    · rename_i h1
      rw [hdig] at h1
      refine rest_evx k _ (by omega) ?_
      apply Nat.lt_pow_two_of_testBit
      intro i hi
      by_cases e : i = w + k
      · rw [e]; simpa using h1
      · exact (hb i (by omega)).1

/-- The product of polynomials, and then its rest. -/
theorem ref_mul {a b : Nat} (ha : a < 2 ^ w) : rest w M (w - 1) (cml a b w) = mul w M a b := by
  have hw := F.wpos
  rw [rest_evx F _ _ (by omega) ?_, evx_cml F ha w (by omega)]
  · rfl
  · have := cml_lt (b := b) ha (w - 1)
    rwa [show w - 1 + 1 = w by omega] at this

/-! ### Powers, as they are found -/
theorem pow_half {o a : Nat} (ho : o < 2 ^ w) (ha : a < 2 ^ w) (k : Nat) :
    mul w M (if k % 2 = 1 then mul w M o a else o) (pow w M (mul w M a a) (k / 2)) = mul w M o (pow w M a k) := by
  rw [pow_sq F ha]
  split
  · rename_i h
    rw [mul_assoc F ho ha (pow_lt F _)]
    congr 1
    have e := pow_add F ha 1 (2 * (k / 2))
    rw [pow_one F ha] at e
    rw [← e, show 1 + 2 * (k / 2) = k by omega]
  · rw [show 2 * (k / 2) = k by omega]

theorem pow_step {a : Nat} (ha : a < 2 ^ w) (j : Nat) : mul w M (pow w M a (2 ^ (j + 1) - 2)) (mul w M (pow w M a (2 ^ j)) (pow w M a (2 ^ j))) = pow w M a (2 ^ (j + 2) - 2) := by
  have h := Nat.two_pow_pos j
  rw [← pow_add F ha, ← pow_add F ha]
  congr 1
  simp only [Nat.pow_succ]
  omega

theorem pow_dbl {a : Nat} (ha : a < 2 ^ w) (j : Nat) : mul w M (pow w M a (2 ^ j)) (pow w M a (2 ^ j)) = pow w M a (2 ^ (j + 1)) := by
  rw [← pow_add F ha]
  congr 1
  simp only [Nat.pow_succ]
  omega
end

/-! ### The three fields -/
def low (w : Nat) : Nat := if w = 8 then 27 else if w = 16 then 43 else 141
def modu (w : Nat) : Nat := 2 ^ w ^^^ low w
def wide (w : Nat) : Prop := w = 8 ∨ w = 16 ∨ w = 32

theorem fld8 : Field 8 283 := by
  refine ⟨⟨by decide, by decide, by decide, by decide +kernel⟩, by decide, by decide +kernel, ⟨[188, 42, 40, 134, 44, 0, 142, 222], by decide +kernel⟩⟩
theorem fld16 : Field 16 65579 := by
  refine ⟨⟨by decide, by decide +kernel, by decide, by decide +kernel⟩, by decide, by decide +kernel, ⟨[1842, 29368, 29370, 32406, 29374, 30898, 32414, 36026, 29358, 64036, 30866, 0, 32478, 58964, 35898, 22674], by decide +kernel⟩⟩
theorem fld32 : Field 32 4294967437 := by
  refine ⟨⟨by decide, by decide +kernel, by decide, by decide +kernel⟩, by decide, by decide +kernel, ⟨[1425871460, 3262106980, 3262106982, 596276322, 3262106978, 2537278634, 596276330, 2004248338, 3262106994, 3250443606, 2537278602, 1462372684, 596276266, 3063135876, 2004248466, 2505424958, 3262106738, 1451497976, 3250444118, 2529415882, 2537277578, 1418076124, 1462370636, 3080433092, 596272170, 0, 3063127684, 3306814086, 2004232082, 3115950048, 2505392190, 930490298], by decide +kernel⟩⟩

theorem fld {w : Nat} (h : wide w) : Field w (modu w) := by
  rcases h with rfl | rfl | rfl
  · exact fld8
  · exact fld16
  · exact fld32
end Go.Gf
