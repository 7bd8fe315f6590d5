/- A digit of a quotient, guessed from three limbs and two. -/
import Derived.Test.YtjmceapnhmeflaaDoorVX
import Derived.Test.YtjmceapnhmeflaaDoorFB
set_option linter.unusedSimpArgs false
set_option linter.unusedVariables false
-- NEWSET
namespace Go.Proofs.YtjmceapnhmeflaaDoor
open Go Go.Vh

/-- The numbers of a guess: W from three limbs, V from two. -/
structure Guess (u0 u1 u2 v1 v2 R D : Nat) : Prop where
  b0 : u0 < 4294967296
  b1 : u1 < 4294967296
  b2 : u2 < 4294967296
  c1 : v1 < 4294967296
  c2 : v2 < 4294967296
  top : 2147483648 ≤ v1
  split : ∃ P rl dl, rl < P ∧ dl < P ∧ R = ((u0 * 4294967296 + u1) * 4294967296 + u2) * P + rl ∧ D = (v1 * 4294967296 + v2) * P + dl
  small : R < D * 4294967296

theorem Guess.pos {u0 u1 u2 v1 v2 R D : Nat} (g : Guess u0 u1 u2 v1 v2 R D) : 0 < D := by
  have := g.small
  rcases Nat.eq_zero_or_pos D with h | h
  · subst h; omega
  · exact h
theorem Guess.le {u0 u1 u2 v1 v2 R D : Nat} (g : Guess u0 u1 u2 v1 v2 R D) : u0 ≤ v1 := by
  obtain ⟨P, rl, dl, h1, h2, rfl, rfl⟩ := g.split
  have hs := g.small
  have c2 := g.c2
  rcases Nat.lt_or_ge v1 u0 with h | h
  · exfalso
    have e1 : (v1 + 1) * 4294967296 * 4294967296 * P ≤ ((u0 * 4294967296 + u1) * 4294967296 + u2) * P := Nat.mul_le_mul_right _ (by omega)
    have e2 : ((v1 * 4294967296 + v2) * P + dl) ≤ (v1 * 4294967296 + v2 + 1) * P := by rw [Nat.add_mul _ 1, Nat.one_mul]; omega
    have e3 : (v1 * 4294967296 + v2 + 1) * P ≤ ((v1 + 1) * 4294967296) * P := Nat.mul_le_mul_right _ (by omega)
    have e4 : ((v1 + 1) * 4294967296) * P * 4294967296 = (v1 + 1) * 4294967296 * 4294967296 * P := Nat.mul_right_comm _ _ _
    omega
  · exact h
/-- what is guessed at first is not too small -/
theorem Guess.first {u0 u1 u2 v1 v2 R D : Nat} (g : Guess u0 u1 u2 v1 v2 R D) : R / D ≤ (u0 * 4294967296 + u1) / v1 := by
  have hD := g.pos
  have ht := g.top
  have b2 := g.b2
  obtain ⟨P, rl, dl, h1, h2, rfl, rfl⟩ := g.split
  rw [Nat.le_div_iff_mul_le (by omega)]
  have hq := Nat.div_mul_le_self (((u0 * 4294967296 + u1) * 4294967296 + u2) * P + rl) ((v1 * 4294967296 + v2) * P + dl)
  generalize (((u0 * 4294967296 + u1) * 4294967296 + u2) * P + rl) / ((v1 * 4294967296 + v2) * P + dl) = q at *
  have hP : 0 < P := by omega
  have e1 : q * (v1 * 4294967296 * P) ≤ q * ((v1 * 4294967296 + v2) * P + dl) := Nat.mul_le_mul_left _ (by rw [Nat.add_mul]; omega)
  have e2 : q * (v1 * 4294967296 * P) = q * v1 * 4294967296 * P := by rw [← Nat.mul_assoc, ← Nat.mul_assoc]
  have e3 : ((u0 * 4294967296 + u1) * 4294967296 + u2) * P + rl < ((u0 * 4294967296 + u1 + 1) * 4294967296) * P := by
    have : ((u0 * 4294967296 + u1) * 4294967296 + u2 + 1) * P ≤ ((u0 * 4294967296 + u1 + 1) * 4294967296) * P := Nat.mul_le_mul_right _ (by omega)
    rw [Nat.add_mul _ 1, Nat.one_mul] at this
    omega
  have e4 : q * v1 * 4294967296 * P < ((u0 * 4294967296 + u1 + 1) * 4294967296) * P := by omega
  have e5 := Nat.lt_of_mul_lt_mul_right e4
  omega
/-- a guess that fails the test is too large -/
theorem Guess.down {u0 u1 u2 v1 v2 R D q r : Nat} (g : Guess u0 u1 u2 v1 v2 R D) (hqr : q * v1 + r = u0 * 4294967296 + u1) (ht : r * 4294967296 + u2 < q * v2) : R / D + 1 ≤ q := by
  have hD := g.pos
  rw [Nat.add_one_le_iff, Nat.div_lt_iff_lt_mul hD]
  obtain ⟨P, rl, dl, h1, h2, rfl, rfl⟩ := g.split
  have e0 : q * (v1 * 4294967296 + v2) = q * v1 * 4294967296 + q * v2 := by rw [Nat.mul_add, Nat.mul_assoc]
  have e1 : (u0 * 4294967296 + u1) * 4294967296 + u2 + 1 ≤ q * (v1 * 4294967296 + v2) := by rw [e0]; omega
  have e2 := Nat.mul_le_mul_right P e1
  rw [Nat.add_mul _ 1, Nat.one_mul] at e2
  have e3 : q * ((v1 * 4294967296 + v2) * P + dl) = q * (v1 * 4294967296 + v2) * P + q * dl := by rw [Nat.mul_add, Nat.mul_assoc]
  rw [e3]; omega
/-- a guess that passes is at most one too large -/
theorem Guess.last {u0 u1 u2 v1 v2 R D q r : Nat} (g : Guess u0 u1 u2 v1 v2 R D) (hq : q ≤ 4294967295) (hqr : q * v1 + r = u0 * 4294967296 + u1) (ht : q * v2 ≤ r * 4294967296 + u2) : q ≤ R / D + 1 := by
  have hD := g.pos
  have htop := g.top
  rw [← Nat.add_div_right R hD, Nat.le_div_iff_mul_le hD]
  obtain ⟨P, rl, dl, h1, h2, rfl, rfl⟩ := g.split
  have e0 : q * (v1 * 4294967296 + v2) = q * v1 * 4294967296 + q * v2 := by rw [Nat.mul_add, Nat.mul_assoc]
  have e1 : q * (v1 * 4294967296 + v2) ≤ (u0 * 4294967296 + u1) * 4294967296 + u2 := by rw [e0]; omega
  have e2 := Nat.mul_le_mul_right P e1
  have e3 : q * ((v1 * 4294967296 + v2) * P + dl) = q * (v1 * 4294967296 + v2) * P + q * dl := by rw [Nat.mul_add, Nat.mul_assoc]
  have e4 : q * dl ≤ 4294967295 * P := Nat.mul_le_mul hq (by omega)
  have e5 : 4294967295 * P ≤ (v1 * 4294967296 + v2) * P := Nat.mul_le_mul_right _ (by omega)
  rw [e3]; omega
/-- where the remainder no longer fits, the guess does -/
theorem Guess.brk {u0 u1 u2 v1 v2 R D q r : Nat} (g : Guess u0 u1 u2 v1 v2 R D) (hqr : q * v1 + r = u0 * 4294967296 + u1) (hr : 4294967296 ≤ r) : q ≤ 4294967295 ∧ q * v2 ≤ r * 4294967296 + u2 := by
  have hle := g.le
  have b1 := g.b1
  have c2 := g.c2
  have htop := g.top
  have hlt : q < 4294967296 := by
    have : q * v1 < 4294967296 * v1 := by omega
    exact Nat.lt_of_mul_lt_mul_right this
  refine ⟨by omega, ?_⟩
  have : q * v2 ≤ 4294967295 * 4294967295 := Nat.mul_le_mul (by omega) (by omega)
  omega
end Go.Proofs.YtjmceapnhmeflaaDoor


/- Contracts: guessDigit. -/
-- NEWSET
namespace Go.Proofs.YtjmceapnhmeflaaDoor
open Go Go.Vh

theorem shl32 {y : Nat} (h : y ≤ 4294967295) : abin .shl (.int .u64 (y : Int)) (.int .u64 32) = some (.int .u64 ((y : Int) * 4294967296)) := by
  simp only [abin, ashift]
  have hbits : IntKind.u64.bits = 64 := rfl
  rw [if_neg (by omega), hbits, show min ((32 : Int).toNat) 64 = 32 from rfl, wu64 (by omega) (by omega)]
  rfl

set_option maxHeartbeats 1000000 in
theorem xguessDigit_calls (κ' : SK) (pre W D : List Int) (n c u0 u1 u2 v1 v2 R V : Nat) (hn : D.length = n) (hn2 : 2 ≤ n) (hW : n < W.length) (hc : n + 1 ≤ c) (hk' : okS κ' n) (hm : W.length ≤ 1000000)
    (w0 : W.getD n 0 = u0) (w1 : W.getD (n - 1) 0 = u1) (w2 : W.getD (n - 2) 0 = u2) (d1 : D.getD (n - 1) 0 = v1) (d2 : D.getD (n - 2) 0 = v2) (g : Guess u0 u1 u2 v1 v2 R V) :
    ACalls Tryd.prog 138 [.slice 0 pre.length (n + 1) c, mkS κ' 1 0 n] [rw_ (ints .u32 (pre ++ W)), ro (ints .u32 D)] (List.range 2) fun v H => (∃ q : Nat, v = .int .u32 (q : Int) ∧ R / V ≤ q ∧ q ≤ R / V + 1 ∧ q ≤ 4294967295) ∧ H = [rw_ (ints .u32 (pre ++ W)), ro (ints .u32 D)] := by
  refine ACalls.body Tryd.func138 ent_guessDigit ir_guessDigit_ok rs_guessDigit_ok Tryd.ntmps138 (by simp) rfl ?_
  unfold ir_guessDigit
  obtain ⟨off, hoff⟩ : ∃ off, pre.length = off := ⟨_, rfl⟩
  rw [hoff]
  have e0 : s0 [.slice 0 off (n + 1) c, mkS κ' 1 0 n] 0 = .slice 0 off (n + 1) c := rfl
  have e1 : s0 [.slice 0 off (n + 1) c, mkS κ' 1 0 n] 1 = mkS κ' 1 0 n := rfl
  have b0 := g.b0
  have b1 := g.b1
  have b2 := g.b2
  have c1 := g.c1
  have c2 := g.c2
  have ht := g.top
  have n1 : (n : Int) - 1 = ((n - 1 : Nat) : Int) := by omega
  have n2 : (n : Int) - 2 = ((n - 2 : Nat) : Int) := by omega
  have iD1 : aindexAddr 1 (mkS κ' 1 0 n) (.int .i64 ((n - 1 : Nat) : Int)) = some (.ptr 1 (n - 1)) := by
    rw [k_idx hk' (Nat.le_refl _) (by omega) (by omega)]; simp
  have iD2 : aindexAddr 1 (mkS κ' 1 0 n) (.int .i64 ((n - 2 : Nat) : Int)) = some (.ptr 1 (n - 2)) := by
    rw [k_idx hk' (Nat.le_refl _) (by omega) (by omega)]; simp
  have gD1 : (ints .u32 D)[n - 1]? = some (.int .u32 (v1 : Int)) := by rw [ints_get (by omega), d1]
  have gD2 : (ints .u32 D)[n - 2]? = some (.int .u32 (v2 : Int)) := by rw [ints_get (by omega), d2]
  have iW0 : aindexAddr 1 (.slice 0 off (n + 1) c) (.int .i64 (n : Int)) = some (.ptr 0 (off + n)) := by
    rw [a_idx (by omega) (by omega)]; simp
  have iW1 : aindexAddr 1 (.slice 0 off (n + 1) c) (.int .i64 ((n - 1 : Nat) : Int)) = some (.ptr 0 (off + (n - 1))) := by
    rw [a_idx (by omega) (by omega)]; simp
  have iW2 : aindexAddr 1 (.slice 0 off (n + 1) c) (.int .i64 ((n - 2 : Nat) : Int)) = some (.ptr 0 (off + (n - 2))) := by
    rw [a_idx (by omega) (by omega)]; simp
  have gW0 : (ints .u32 (pre ++ W))[off + n]? = some (.int .u32 (u0 : Int)) := by rw [← hoff, getA (by omega), w0]
  have gW1 : (ints .u32 (pre ++ W))[off + (n - 1)]? = some (.int .u32 (u1 : Int)) := by rw [← hoff, getA (by omega), w1]
  have gW2 : (ints .u32 (pre ++ W))[off + (n - 2)]? = some (.int .u32 (u2 : Int)) := by rw [← hoff, getA (by omega), w2]
  obtain ⟨U, hU⟩ : ∃ U, u0 * 4294967296 + u1 = U := ⟨_, rfl⟩
  have hor : abin .or (.int .u64 ((u0 : Int) * 4294967296)) (.int .u64 (u1 : Int)) = some (.int .u64 (U : Int)) := by
    rw [b_or (by omega) (by omega) (by omega) (by omega)]
    congr 2; omega
  have hquo : abin .quo (.int .u64 (U : Int)) (.int .u64 (v1 : Int)) = some (.int .u64 ((U / v1 : Nat) : Int)) := by
    have h5 : U / v1 ≤ U := Nat.div_le_self _ _
    rw [b_quo (by omega) (by omega), show (U : Int) / (v1 : Int) = ((U / v1 : Nat) : Int) from (Int.natCast_ediv U v1).symm]
    generalize U / v1 = z at *
    rw [wu64 (by omega) (by omega)]
  have hrem : abin .rem (.int .u64 (U : Int)) (.int .u64 (v1 : Int)) = some (.int .u64 ((U % v1 : Nat) : Int)) := by
    rw [b_rem (by omega) (by omega), show (U : Int) % (v1 : Int) = ((U % v1 : Nat) : Int) from (Int.natCast_emod U v1).symm]
  have hQ : R / V < 4294967296 := by
    rw [Nat.div_lt_iff_lt_mul g.pos, Nat.mul_comm]; exact g.small
  have hfirst := g.first
  have hdown := fun q r => @Guess.down u0 u1 u2 v1 v2 R V q r g
  have hlast := fun q r => @Guess.last u0 u1 u2 v1 v2 R V q r g
  have hbrk := fun q r => @Guess.brk u0 u1 u2 v1 v2 R V q r g
  rw [hU] at hfirst hdown hlast hbrk
  have hdm := Nat.div_add_mod U v1
  have hdl : U / v1 ≤ U := Nat.div_le_self _ _
  have hmlt := Nat.mod_lt U (show 0 < v1 by omega)
  generalize R / V = Q at *
  generalize hz : U / v1 = z at *
  generalize hy : U % v1 = y at *
  simp -implicitDefEqProofs (disch := omega) only [sN, ↓reduceIte, Nat.reduceEqDiff, Nat.reduceAdd, Nat.reduceMul, Nat.reduceSub, reduceCtorEq, e_none, e_some, e_bindS, e0, e1, k_len hk', n1, n2, iD1, iD2, gD1, gD2, iW0, iW1, gW0, gW1, shl32, hor, hquo, hrem]
  refine ⟨fun m s H => ∃ q r : Nat, m = q ∧ s 0 = .slice 0 off (n + 1) c ∧ s 5 = .int .i64 (n : Int) ∧ s 6 = .int .u64 (v1 : Int) ∧ s 7 = .int .u64 (v2 : Int) ∧ s 9 = .int .u64 (q : Int) ∧ s 10 = .int .u64 (r : Int) ∧ q * v1 + r = U ∧ r ≤ 4294967295 ∧ Q ≤ q ∧ q ≤ U ∧ H = [rw_ (ints .u32 (pre ++ W)), ro (ints .u32 D)], z, ⟨z, y, rfl, ?_, ?_, ?_, ?_, ?_, ?_, ?_, by omega, hfirst, hdl, rfl⟩, ?_⟩
  · simp only [e_upd, e_putS, e_putN, e_t, e_c, Nat.reduceEqDiff, ↓reduceIte, reduceCtorEq, Nat.reduceAdd, e0]
  · simp only [e_upd, e_putS, e_putN, e_t, e_c, Nat.reduceEqDiff, ↓reduceIte, reduceCtorEq, Nat.reduceAdd]
  · simp only [e_upd, e_putS, e_putN, e_t, e_c, Nat.reduceEqDiff, ↓reduceIte, reduceCtorEq, Nat.reduceAdd]
  · simp only [e_upd, e_putS, e_putN, e_t, e_c, Nat.reduceEqDiff, ↓reduceIte, reduceCtorEq, Nat.reduceAdd]
  · simp only [e_upd, e_putS, e_putN, e_t, e_c, Nat.reduceEqDiff, ↓reduceIte, reduceCtorEq, Nat.reduceAdd]
  · simp only [e_upd, e_putS, e_putN, e_t, e_c, Nat.reduceEqDiff, ↓reduceIte, reduceCtorEq, Nat.reduceAdd]
  · rw [Nat.mul_comm]; exact hdm
  rintro m s H ⟨q, r, rfl, h0, h5, h6, h7, h9, h10, hqr, hr, hlow, hqU, rfl⟩
  have hU64 : U < 2 ^ 64 := by omega
  have fin : ∀ (q : Nat) (s : St), q ≤ 4294967295 → Q ≤ q → q ≤ Q + 1 → s 4 = .int .u32 (q : Int) → retPost 2 rs_guessDigit (fun v H => (∃ q : Nat, v = .int .u32 (q : Int) ∧ Q ≤ q ∧ q ≤ Q + 1 ∧ q ≤ 4294967295) ∧ H = [rw_ (ints .u32 (pre ++ W)), ro (ints .u32 D)]) .ret s [rw_ (ints .u32 (pre ++ W)), ro (ints .u32 D)] := by
    intro q s h1 h2 h3 h4
    refine ret_keep (by simp) ?_
    unfold rs_guessDigit; rw [q_tmp, q_then]
    exact ⟨⟨q, h4, h2, h3, h1⟩, rfl⟩
  have body : Q + 1 ≤ m → (m - 1) * v1 + (r + v1) = U ∧ Q ≤ m - 1 := fun h => by
    refine ⟨?_, by omega⟩
    rw [← hqr]
    have : m * v1 = (m - 1) * v1 + v1 := by
      rw [← Nat.succ_mul, show (m - 1).succ = m by omega]
    omega
  have hbig : 4294967295 < m → Q + 1 ≤ m := fun h => by omega
  have step : Q + 1 ≤ m → (m : Int) - 1 = ((m - 1 : Nat) : Int) := fun h => by omega
  have hrv : (r : Int) + (v1 : Int) = ((r + v1 : Nat) : Int) := by omega
  by_cases hT : 4294967295 < m
  · have hge := hbig hT
    obtain ⟨f1, f2⟩ := body hge
    have hst := step hge
    have hTI : (4294967295 : Int) < (m : Int) := by omega
    by_cases hb : 4294967295 < r + v1
    · obtain ⟨k1, k2⟩ := hbrk _ _ f1 (by omega)
      have k3 := hlast _ _ k1 f1 k2
      have hbI : (4294967295 : Int) < ((r + v1 : Nat) : Int) := by omega
      simp -implicitDefEqProofs (disch := omega) only [sN, ↓reduceIte, Nat.reduceEqDiff, Nat.reduceAdd, Nat.reduceMul, Nat.reduceSub, reduceCtorEq, e_none, e_some, e_bindS, h0, h5, h6, h7, h9, h10, hst, hrv]
      exact fin (m - 1) _ k1 f2 k3 (by simp only [e_upd, e_putS, e_putN, e_t, e_c, Nat.reduceEqDiff, ↓reduceIte, reduceCtorEq, Nat.reduceAdd])
    · simp -implicitDefEqProofs (disch := omega) only [sN, ↓reduceIte, Nat.reduceEqDiff, Nat.reduceAdd, Nat.reduceMul, Nat.reduceSub, reduceCtorEq, e_none, e_some, e_bindS, h0, h5, h6, h7, h9, h10, hst, hrv]
      refine loop_keep (m := m - 1) (by omega) ⟨m - 1, r + v1, rfl, ?_, ?_, ?_, ?_, ?_, ?_, f1, by omega, f2, by omega, rfl⟩
      · simp only [e_upd, e_putS, e_putN, e_t, e_c, Nat.reduceEqDiff, ↓reduceIte, reduceCtorEq, Nat.reduceAdd, h0]
      · simp only [e_upd, e_putS, e_putN, e_t, e_c, Nat.reduceEqDiff, ↓reduceIte, reduceCtorEq, Nat.reduceAdd, h5]
      · simp only [e_upd, e_putS, e_putN, e_t, e_c, Nat.reduceEqDiff, ↓reduceIte, reduceCtorEq, Nat.reduceAdd, h6]
      · simp only [e_upd, e_putS, e_putN, e_t, e_c, Nat.reduceEqDiff, ↓reduceIte, reduceCtorEq, Nat.reduceAdd, h7]
      · simp only [e_upd, e_putS, e_putN, e_t, e_c, Nat.reduceEqDiff, ↓reduceIte, reduceCtorEq, Nat.reduceAdd]
      · simp only [e_upd, e_putS, e_putN, e_t, e_c, Nat.reduceEqDiff, ↓reduceIte, reduceCtorEq, Nat.reduceAdd]
  have hmulN : m * v2 ≤ 4294967295 * 4294967295 := Nat.mul_le_mul (by omega) (by omega)
  have hmul : abin .mul (.int .u64 (m : Int)) (.int .u64 (v2 : Int)) = some (.int .u64 ((m * v2 : Nat) : Int)) := by
    have : (m : Int) * (v2 : Int) = ((m * v2 : Nat) : Int) := by simp
    rw [b_mul, this, wu64 (by omega) (by omega)]
  have hor2 : abin .or (.int .u64 ((r : Int) * 4294967296)) (.int .u64 (u2 : Int)) = some (.int .u64 ((r * 4294967296 + u2 : Nat) : Int)) := by
    rw [b_or (by omega) (by omega) (by omega) (by omega)]
    congr 2
  have hTI : ¬ (4294967295 : Int) < (m : Int) := by omega
  generalize hp : m * v2 = p at *
  by_cases hC : r * 4294967296 + u2 < p
  · have hge := hdown m r hqr (by omega)
    obtain ⟨f1, f2⟩ := body hge
    have hst := step hge
    by_cases hb : 4294967295 < r + v1
    · obtain ⟨k1, k2⟩ := hbrk _ _ f1 (by omega)
      have k3 := hlast _ _ k1 f1 k2
      simp -implicitDefEqProofs (disch := omega) only [sN, ↓reduceIte, Nat.reduceEqDiff, Nat.reduceAdd, Nat.reduceMul, Nat.reduceSub, reduceCtorEq, e_none, e_some, e_bindS, h0, h5, h6, h7, h9, h10, n2, iW2, gW2, shl32, hor2, hmul, hst, hrv]
      exact fin (m - 1) _ k1 f2 k3 (by simp only [e_upd, e_putS, e_putN, e_t, e_c, Nat.reduceEqDiff, ↓reduceIte, reduceCtorEq, Nat.reduceAdd])
    · simp -implicitDefEqProofs (disch := omega) only [sN, ↓reduceIte, Nat.reduceEqDiff, Nat.reduceAdd, Nat.reduceMul, Nat.reduceSub, reduceCtorEq, e_none, e_some, e_bindS, h0, h5, h6, h7, h9, h10, n2, iW2, gW2, shl32, hor2, hmul, hst, hrv]
      refine loop_keep (m := m - 1) (by omega) ⟨m - 1, r + v1, rfl, ?_, ?_, ?_, ?_, ?_, ?_, f1, by omega, f2, by omega, rfl⟩
      · simp only [e_upd, e_putS, e_putN, e_t, e_c, Nat.reduceEqDiff, ↓reduceIte, reduceCtorEq, Nat.reduceAdd, h0]
      · simp only [e_upd, e_putS, e_putN, e_t, e_c, Nat.reduceEqDiff, ↓reduceIte, reduceCtorEq, Nat.reduceAdd, h5]
      · simp only [e_upd, e_putS, e_putN, e_t, e_c, Nat.reduceEqDiff, ↓reduceIte, reduceCtorEq, Nat.reduceAdd, h6]
      · simp only [e_upd, e_putS, e_putN, e_t, e_c, Nat.reduceEqDiff, ↓reduceIte, reduceCtorEq, Nat.reduceAdd, h7]
      · simp only [e_upd, e_putS, e_putN, e_t, e_c, Nat.reduceEqDiff, ↓reduceIte, reduceCtorEq, Nat.reduceAdd]
      · simp only [e_upd, e_putS, e_putN, e_t, e_c, Nat.reduceEqDiff, ↓reduceIte, reduceCtorEq, Nat.reduceAdd]
  · have k3 := hlast m r (by omega) hqr (by omega)
    simp -implicitDefEqProofs (disch := omega) only [sN, ↓reduceIte, Nat.reduceEqDiff, Nat.reduceAdd, Nat.reduceMul, Nat.reduceSub, reduceCtorEq, e_none, e_some, e_bindS, h0, h5, h6, h7, h9, h10, n2, iW2, gW2, shl32, hor2, hmul]
    exact fin m _ (by omega) hlow k3 (by simp only [e_upd, e_putS, e_putN, e_t, e_c, Nat.reduceEqDiff, ↓reduceIte, reduceCtorEq, Nat.reduceAdd])
end Go.Proofs.YtjmceapnhmeflaaDoor


/- Contracts: takeDigit. -/
-- NEWSET
namespace Go.Proofs.YtjmceapnhmeflaaDoor
open Go Go.Vh

theorem ttF_limbs {W D : List Int} {d : Int} (hW : Limbs W) (n : Nat) : Limbs (ttF W D d n) := fun j => by
  have := ttW_limbs (D := D) (d := d) hW n j
  simp only [ttF, getD_set]
  split
  · omega
  · exact this
theorem ttF_length {W D : List Int} {d : Int} {n : Nat} : (ttF W D d n).length = W.length := by simp [ttF, ttW_length]
theorem ttF_rest {W D : List Int} {d : Int} {n j : Nat} (h : n < j) : (ttF W D d n).getD j 0 = W.getD j 0 := by
  simp only [ttF, getD_set]
  rw [if_neg (by omega), ttW_rest W D d n j (by omega)]
theorem gbW_limbs {W D : List Int} (hW : Limbs W) : ∀ i, Limbs (gbW W D i).1
  | 0 => hW
  | i + 1 => fun j => by
    have := gbW_limbs (D := D) hW i j
    simp only [gbW, getD_set]
    split
    · omega
    · exact this
theorem gbF_limbs {W D : List Int} (hW : Limbs W) (n : Nat) : Limbs (gbF W D n) := fun j => by
  have := gbW_limbs (D := D) hW n j
  simp only [gbF, getD_set]
  split
  · omega
  · exact this
theorem gbF_length {W D : List Int} {n : Nat} : (gbF W D n).length = W.length := by simp [gbF, gbW_length]
theorem gbF_rest {W D : List Int} {n j : Nat} (h : n < j) : (gbF W D n).getD j 0 = W.getD j 0 := by
  simp only [gbF, getD_set]
  rw [if_neg (by omega), gbW_rest W D n j (by omega)]

set_option maxHeartbeats 1000000 in
theorem xtakeDigit_calls (κ' : SK) (pre W D : List Int) (n c u0 u1 u2 v1 v2 R V : Nat) (hn : D.length = n) (hn2 : 2 ≤ n) (hW : n < W.length) (hc : n + 1 ≤ c) (hk' : okS κ' n) (hm : W.length ≤ 1000000) (lW : Limbs W) (lD : Limbs D)
    (w0 : W.getD n 0 = u0) (w1 : W.getD (n - 1) 0 = u1) (w2 : W.getD (n - 2) 0 = u2) (d1 : D.getD (n - 1) 0 = v1) (d2 : D.getD (n - 2) 0 = v2) (g : Guess u0 u1 u2 v1 v2 R V) (hR : nv W (n + 1) = R) (hV : nv D n = V) :
    ACalls Tryd.prog 130 [.slice 0 pre.length (n + 1) c, mkS κ' 1 0 n] [rw_ (ints .u32 (pre ++ W)), ro (ints .u32 D)] (List.range 2) fun v H => v = .int .u32 ((R / V : Nat) : Int) ∧ ∃ W', H = [rw_ (ints .u32 (pre ++ W')), ro (ints .u32 D)] ∧ W'.length = W.length ∧ Limbs W' ∧ (∀ j, n < j → W'.getD j 0 = W.getD j 0) ∧ nv W' (n + 1) = ((R % V : Nat) : Int) := by
  refine ACalls.body Tryd.func130 ent_takeDigit ir_takeDigit_ok rs_takeDigit_ok Tryd.ntmps130 (by simp) rfl ?_
  unfold ir_takeDigit
  have e0 : s0 [.slice 0 pre.length (n + 1) c, mkS κ' 1 0 n] 0 = .slice 0 pre.length (n + 1) c := rfl
  have e1 : s0 [.slice 0 pre.length (n + 1) c, mkS κ' 1 0 n] 1 = mkS κ' 1 0 n := rfl
  simp -implicitDefEqProofs (disch := omega) only [sN, ↓reduceIte, Nat.reduceEqDiff, Nat.reduceAdd, Nat.reduceMul, Nat.reduceSub, reduceCtorEq, e_none, e_some, e_bindS, e0, e1]
  refine ⟨_, (xguessDigit_calls κ' pre W D n c u0 u1 u2 v1 v2 R V hn hn2 hW hc hk' hm w0 w1 w2 d1 d2 g).g.mono ?_⟩
  rintro v H' ⟨⟨q, rfl, q1, q2, q3⟩, rfl⟩
  simp -implicitDefEqProofs (disch := omega) only [sN, ↓reduceIte, Nat.reduceEqDiff, Nat.reduceAdd, Nat.reduceMul, Nat.reduceSub, reduceCtorEq, e_none, e_some, e_bindS, e0, e1]
  refine ⟨_, (xtakeTimes_calls κ' pre W D (q : Int) n c hn hW hc hk' hm lW lD (by omega)).g.mono ?_⟩
  rintro v H' ⟨rfl, rfl⟩
  have hsum := ttF_sum (d := (q : Int)) lW lD (by omega) hW
  have hlF := ttF_limbs (D := D) (d := (q : Int)) lW n
  have hbF := nv_bound hlF (n + 1)
  have hdm := Nat.div_add_mod R V
  have hVp := g.pos
  have hmod := Nat.mod_lt R hVp
  have hBpos := BB_pos (n + 1)
  have hbb : ttB W D (q : Int) n = 0 ∨ ttB W D (q : Int) n = 1 := by unfold ttB; split <;> simp
  rw [hR, hV] at hsum
  have hle : R < V * 4294967296 := g.small
  have hVb : (V : Int) ≤ BB ^ (n + 1) := by
    have h := (nv_bound lD n).2
    rw [hV] at h
    have := BB_mono (show n ≤ n + 1 by omega)
    omega
  rcases (show q = R / V ∨ q = R / V + 1 by omega) with hq | hq
  · have hprod : (V : Int) * (q : Int) = ((V * (R / V) : Nat) : Int) := by rw [hq]; simp
    rw [hprod] at hsum
    have h0 : ttB W D (q : Int) n = 0 := by
      rcases hbb with h | h
      · exact h
      · rw [h, Int.one_mul] at hsum; omega
    rw [h0, Int.zero_mul] at hsum
    simp -implicitDefEqProofs (disch := omega) only [sN, ↓reduceIte, Nat.reduceEqDiff, Nat.reduceAdd, Nat.reduceMul, Nat.reduceSub, reduceCtorEq, e_none, e_some, e_bindS, e0, e1, h0, ne_eq, not_true, decide_false]
    refine ret_keep (by simp) ⟨?_, ttF W D (q : Int) n, rfl, ttF_length, hlF, fun j hj => ttF_rest hj, by omega⟩
    simp only [e_upd, e_putS, e_putN, e_t, e_c, Nat.reduceEqDiff, ↓reduceIte, reduceCtorEq, Nat.reduceAdd, hq]
  · have hprod : (V : Int) * (q : Int) = ((V * (R / V) : Nat) : Int) + V := by
      rw [hq]; simp [Int.mul_add]
    rw [hprod] at hsum
    have h1 : ttB W D (q : Int) n = 1 := by
      rcases hbb with h | h
      · rw [h, Int.zero_mul] at hsum; omega
      · exact h
    rw [h1, Int.one_mul] at hsum
    have hd1 : decide (ttB W D (q : Int) n ≠ 0) = true := by rw [h1]; rfl
    simp -implicitDefEqProofs (disch := omega) only [sN, ↓reduceIte, Nat.reduceEqDiff, Nat.reduceAdd, Nat.reduceMul, Nat.reduceSub, reduceCtorEq, e_none, e_some, e_bindS, e0, e1, hd1]
    refine ⟨_, (xgiveBack_calls κ' pre (ttF W D (q : Int) n) D n c hn (by rw [ttF_length]; exact hW) hc hk' (by rw [ttF_length]; exact hm) hlF lD).g.mono ?_⟩
    rintro v H' ⟨rfl, rfl⟩
    have hgs := gbF_sum (W := ttF W D (q : Int) n) (D := D) (n := n) (by rw [ttF_length]; exact hW)
    have hlG := gbF_limbs (D := D) hlF n
    have hbG := nv_bound hlG (n + 1)
    rw [hV] at hgs
    have hcar := gbW_range hlF lD n
    have hFn := hlF n
    generalize hk : ((ttF W D (q : Int) n).getD n 0 + (gbW (ttF W D (q : Int) n) D n).2) / 4294967296 = k at *
    have hk2 : k = 0 ∨ k = 1 := by omega
    have hq1 : (q : Int) - 1 = ((R / V : Nat) : Int) := by omega
    simp -implicitDefEqProofs (disch := omega) only [sN, ↓reduceIte, Nat.reduceEqDiff, Nat.reduceAdd, Nat.reduceMul, Nat.reduceSub, reduceCtorEq, e_none, e_some, e_bindS, e0, e1, hq1]
    refine ret_keep (by simp) ⟨?_, gbF (ttF W D (q : Int) n) D n, rfl, by rw [gbF_length, ttF_length], hlG, fun j hj => by rw [gbF_rest hj, ttF_rest hj], ?_⟩
    · simp only [e_upd, e_putS, e_putN, e_t, e_c, Nat.reduceEqDiff, ↓reduceIte, reduceCtorEq, Nat.reduceAdd]
      have hx : R / V ≤ 4294967295 := by omega
      generalize R / V = z at *
      rw [wu32 (by omega) (by omega)]
    · rcases hk2 with h | h
      · rw [h, Int.zero_mul] at hgs; omega
      · rw [h, Int.one_mul] at hgs; omega
end Go.Proofs.YtjmceapnhmeflaaDoor

