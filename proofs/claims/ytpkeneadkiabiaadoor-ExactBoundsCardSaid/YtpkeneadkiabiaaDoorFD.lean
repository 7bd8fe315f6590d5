/- Contracts: bits.Len32, bits.LeadingZeros32. -/
import Derived.Test.YtpkeneadkiabiaaDoorVX
import Derived.Test.YtpkeneadkiabiaaDoorFC
import Derived.Test.YtpkeneadkiabiaaDoorIrB
import Derived.Test.YtpkeneadkiabiaaDoorCC
set_option linter.unusedSimpArgs false
set_option linter.unusedVariables false
-- NEWSET
namespace Go.Proofs.YtpkeneadkiabiaaDoor
open Go Go.Vh

end Go.Proofs.YtpkeneadkiabiaaDoor


/- Contracts: LeadingZeros32; the lemmas of exact's long division. -/
-- NEWSET
namespace Go.Proofs.YtpkeneadkiabiaaDoor
open Go Go.Vh

/-- a limb of the quotient -/
def qB (a : List Int) (b i : Nat) : Nat := (4294967296 * (upB a (i + 1) % b) + (a.getD i 0).toNat) / b
theorem upB_div {a : List Int} (ha : Limbs a) {b : Nat} (hb : 0 < b) (i : Nat) : upB a i / b = qB a b i + 4294967296 * (upB a (i + 1) / b) ∧ upB a i % b = (4294967296 * (upB a (i + 1) % b) + (a.getD i 0).toNat) % b := by
  have h1 := Nat.div_add_mod (upB a (i + 1)) b
  rw [upB_step ha i]
  unfold qB
  generalize upB a (i + 1) = u at *
  generalize (a.getD i 0).toNat = d at *
  have e : d + 4294967296 * u = b * (4294967296 * (u / b)) + (4294967296 * (u % b) + d) := by
    have : 4294967296 * u = 4294967296 * (b * (u / b)) + 4294967296 * (u % b) := by omega
    rw [this, Nat.mul_left_comm]; omega
  constructor
  · rw [e, Nat.mul_add_div hb]; omega
  · rw [e, Nat.mul_add_mod]
end Go.Proofs.YtpkeneadkiabiaaDoor


/- The steps of exact's long division, as numbers. -/
-- NEWSET
namespace Go.Proofs.YtpkeneadkiabiaaDoor
open Go Go.Vh

theorem upB_nv {l : List Int} (h : Limbs l) {i k : Nat} (hk : l.length ≤ i + k) : nv (l.drop i) k = (upB l i : Int) := by
  rw [← upB_num h i, num, nv_long _ (by rw [List.length_drop]; omega)]
theorem upB_zero {l : List Int} (h : Limbs l) : num l = (upB l 0 : Int) := by
  have := upB_num h 0
  rwa [List.drop_zero] at this

/-- What stands in the limbs when the digits from i on are found. -/
structure Cut (W0 W : List Int) (V n i : Nat) : Prop where
  limbs : Limbs W
  len : W.length = W0.length
  low : ∀ j, j < i → W.getD j 0 = W0.getD j 0
  high : ∀ j, i + n ≤ j → W.getD j 0 = 0
  val : nv (W.drop i) n = ((upB W0 i % V : Nat) : Int)

theorem Cut.window {W0 W : List Int} {V n i : Nat} (c : Cut W0 W V n (i + 1)) (hW0 : Limbs W0) (hi : i < W.length) : nv (W.drop i) (n + 1) = ((4294967296 * (upB W0 (i + 1) % V) + (W0.getD i 0).toNat : Nat) : Int) := by
  rw [dropB_getD hi, nvb_cons, c.val, c.low i (by omega), show BB = 4294967296 from rfl]
  have := hW0 i
  omega

/-- The step: the digit is taken. -/
theorem Cut.step {W0 W W' : List Int} {V n i : Nat} (c : Cut W0 W V n (i + 1)) (hW0 : Limbs W0) (hV : 0 < V) (hVn : (V : Int) ≤ BB ^ n) (hl : W'.length = (W.drop i).length) (hL : Limbs W') (hrest : ∀ j, n < j → W'.getD j 0 = (W.drop i).getD j 0)
    (hnum : nv W' (n + 1) = (((4294967296 * (upB W0 (i + 1) % V) + (W0.getD i 0).toNat) % V : Nat) : Int)) (hi : i ≤ W.length) : Cut W0 (W.take i ++ W') V n i := by
  have hti : (W.take i).length = i := by rw [List.length_take]; omega
  have hget : ∀ j, (W.take i ++ W').getD j 0 = if j < i then W.getD j 0 else W'.getD (j - i) 0 := fun j => by
    simp only [List.getD_eq_getElem?_getD, List.getElem?_append, hti]
    split
    · rename_i h; rw [List.getElem?_take_of_lt h]
    · rfl
  have hdrop : (W.take i ++ W').drop i = W' := by
    have := List.drop_left (l₁ := W.take i) (l₂ := W')
    rwa [hti] at this
  have htop : W'.getD n 0 = 0 := by
    rcases Int.lt_or_le (nv W' (n + 1)) (BB ^ n) with h | h
    · rcases Decidable.em (W'.getD n 0 = 0) with h0 | h0
      · exact h0
      · have := nv_ge hL h0; omega
    · have := Nat.mod_lt (4294967296 * (upB W0 (i + 1) % V) + (W0.getD i 0).toNat) hV
      rw [hnum] at h
      omega
  refine ⟨fun j => ?_, ?_, fun j hj => ?_, fun j hj => ?_, ?_⟩
  · rw [hget]
    split
    · exact c.limbs j
    · exact hL _
  · rw [List.length_append, hl, hti, List.length_drop, ← c.len]; omega
  · rw [hget, if_pos hj, c.low j (by omega)]
  · rw [hget, if_neg (by omega)]
    rcases Nat.eq_or_lt_of_le (show n ≤ j - i by omega) with h | h
    · rw [← h]; exact htop
    · rw [hrest _ h]
      have : (W.drop i).getD (j - i) 0 = W.getD j 0 := by
        simp only [List.getD_eq_getElem?_getD, List.getElem?_drop]
        congr 2; omega
      rw [this, c.high j (by omega)]
  · rw [hdrop, (upB_div hW0 hV i).2, ← hnum, nv, htop]; omega
theorem Cut.start {W0 : List Int} {V n M : Nat} (hW0 : Limbs W0) (hl : W0.length ≤ M + n) (ht : upB W0 M < V) : Cut W0 W0 V n M :=
  ⟨hW0, rfl, fun _ _ => rfl, fun j hj => by rw [List.getD_eq_getElem?_getD, List.getElem?_eq_none (by omega)]; rfl, by rw [upB_nv hW0 hl, Nat.mod_eq_of_lt ht]⟩
theorem Cut.done {W0 W : List Int} {V n : Nat} (c : Cut W0 W V n 0) : upB W 0 = upB W0 0 % V := by
  have h := upB_zero c.limbs
  have h2 := c.val
  rw [List.drop_zero] at h2
  have h3 : num W = nv W n := by
    rcases Nat.lt_or_ge n W.length with h4 | h4
    · exact nv_zeros W _ (by omega) (fun i h5 _ => c.high i (by omega))
    · exact (nv_long W h4).symm
  omega
/-- The numbers of the guess for such a step. -/
theorem Cut.guess {W0 W D : List Int} {V n i : Nat} (c : Cut W0 W V n (i + 1)) (hW0 : Limbs W0) (hn : 2 ≤ n) (hD : Limbs D) (hV : nv D n = (V : Int)) (htop : 2147483648 ≤ D.getD (n - 1) 0) (hi : i + n < W.length) :
    ∃ u0 u1 u2 v1 v2 : Nat, (W.drop i).getD n 0 = u0 ∧ (W.drop i).getD (n - 1) 0 = u1 ∧ (W.drop i).getD (n - 2) 0 = u2 ∧ D.getD (n - 1) 0 = v1 ∧ D.getD (n - 2) 0 = v2 ∧ Guess u0 u1 u2 v1 v2 (4294967296 * (upB W0 (i + 1) % V) + (W0.getD i 0).toNat) V := by
  have hVp : 0 < V := by
    have h1 := nv_ge hD (k := n - 1) (by omega)
    rw [show n - 1 + 1 = n by omega, hV] at h1
    have := BB_pos (n - 1)
    omega
  have lW := limbs_drop c.limbs i
  have hR := c.window hW0 (by omega)
  generalize hRR : 4294967296 * (upB W0 (i + 1) % V) + (W0.getD i 0).toNat = R at *
  have hsm : R < V * 4294967296 := by
    have := Nat.mod_lt (upB W0 (i + 1)) hVp
    have := hW0 i
    omega
  generalize W.drop i = X at *
  have x0 := lW n
  have x1 := lW (n - 1)
  have x2 := lW (n - 2)
  have y1 := hD (n - 1)
  have y2 := hD (n - 2)
  have eX : nv X (n + 1) = nv X (n - 2) + X.getD (n - 2) 0 * BB ^ (n - 2) + X.getD (n - 1) 0 * BB ^ (n - 1) + X.getD n 0 * BB ^ n := by
    obtain ⟨m, rfl⟩ : ∃ m, n = m + 2 := ⟨n - 2, by omega⟩
    rfl
  have eD : nv D n = nv D (n - 2) + D.getD (n - 2) 0 * BB ^ (n - 2) + D.getD (n - 1) 0 * BB ^ (n - 1) := by
    obtain ⟨m, rfl⟩ : ∃ m, n = m + 2 := ⟨n - 2, by omega⟩
    rfl
  have e1 : BB ^ (n - 1) = BB ^ (n - 2) * 4294967296 := by
    rw [show n - 1 = n - 2 + 1 by omega, Int.pow_succ]; rfl
  have e2 : BB ^ n = BB ^ (n - 2) * 4294967296 * 4294967296 := by
    rw [show n = n - 2 + 1 + 1 by omega, Int.pow_succ, Int.pow_succ]; rfl
  have b1 := nv_bound lW (n - 2)
  have b2 := nv_bound hD (n - 2)
  rw [e1, e2] at eX
  rw [e1] at eD
  rw [hR] at eX
  rw [hV] at eD
  have hP := BB_pos (n - 2)
  generalize X.getD n 0 = u0 at *
  generalize X.getD (n - 1) 0 = u1 at *
  generalize X.getD (n - 2) 0 = u2 at *
  generalize D.getD (n - 1) 0 = v1 at *
  generalize D.getD (n - 2) 0 = v2 at *
  generalize nv X (n - 2) = rl at *
  generalize nv D (n - 2) = dl at *
  generalize BB ^ (n - 2) = P at *
  obtain ⟨u0, rfl⟩ := Int.eq_ofNat_of_zero_le x0.1
  obtain ⟨u1, rfl⟩ := Int.eq_ofNat_of_zero_le x1.1
  obtain ⟨u2, rfl⟩ := Int.eq_ofNat_of_zero_le x2.1
  obtain ⟨v1, rfl⟩ := Int.eq_ofNat_of_zero_le y1.1
  obtain ⟨v2, rfl⟩ := Int.eq_ofNat_of_zero_le y2.1
  obtain ⟨rl, rfl⟩ := Int.eq_ofNat_of_zero_le b1.1
  obtain ⟨dl, rfl⟩ := Int.eq_ofNat_of_zero_le b2.1
  obtain ⟨P, rfl⟩ := Int.eq_ofNat_of_zero_le (Int.le_of_lt hP)
  refine ⟨u0, u1, u2, v1, v2, rfl, rfl, rfl, rfl, rfl, ⟨by omega, by omega, by omega, by omega, by omega, by omega, ⟨P, rl, dl, by omega, by omega, ?_, ?_⟩, hsm⟩⟩
  · have h0 : u0 * 4294967296 * 4294967296 * P = u0 * P * 4294967296 * 4294967296 := by rw [Nat.mul_right_comm (u0 * 4294967296), Nat.mul_right_comm u0]
    have h1 : u1 * 4294967296 * P = u1 * P * 4294967296 := Nat.mul_right_comm _ _ _
    have g0 : (u0 : Int) * ((P : Int) * 4294967296 * 4294967296) = ((u0 * P : Nat) : Int) * 4294967296 * 4294967296 := by rw [← Int.mul_assoc, ← Int.mul_assoc, Int.natCast_mul]
    have g1 : (u1 : Int) * ((P : Int) * 4294967296) = ((u1 * P : Nat) : Int) * 4294967296 := by rw [← Int.mul_assoc, Int.natCast_mul]
    have g2 : (u2 : Int) * (P : Int) = ((u2 * P : Nat) : Int) := (Int.natCast_mul _ _).symm
    rw [g0, g1, g2] at eX
    rw [Nat.add_mul, Nat.add_mul, Nat.add_mul, h0, h1]
    omega
  · have h1 : v1 * 4294967296 * P = v1 * P * 4294967296 := Nat.mul_right_comm _ _ _
    have g1 : (v1 : Int) * ((P : Int) * 4294967296) = ((v1 * P : Nat) : Int) * 4294967296 := by rw [← Int.mul_assoc, Int.natCast_mul]
    have g2 : (v2 : Int) * (P : Int) = ((v2 * P : Nat) : Int) := (Int.natCast_mul _ _).symm
    rw [g1, g2] at eD
    rw [Nat.add_mul, h1]
    omega
end Go.Proofs.YtpkeneadkiabiaaDoor

