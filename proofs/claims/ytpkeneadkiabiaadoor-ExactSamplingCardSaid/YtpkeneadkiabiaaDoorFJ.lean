/- Samples, counted. -/
import Derived.Test.YtpkeneadkiabiaaDoorVX
import Derived.Test.YtpkeneadkiabiaaDoorFH
import Derived.Test.YtpkeneadkiabiaaDoorC30
import Derived.Test.YtpkeneadkiabiaaDoorIrC
import Derived.Test.YtpkeneadkiabiaaDoorFI
set_option linter.unusedSimpArgs false
set_option linter.unusedVariables false
-- NEWSET
namespace Go.Proofs.YtpkeneadkiabiaaDoor
open Go Go.Vh Go.Pc

theorem tN_zero (b g i : Nat) : tN (b + 1) g 0 i = tN b g 0 i := by
  unfold tN
  split
  · obtain rfl : i = 0 := by omega
    simp [cnk_zero]
  · rfl
theorem tN_first (b g k : Nat) : tN (b + 1) g k 0 = tN b g k 0 := by
  unfold tN
  rw [if_pos (Nat.zero_le _), if_pos (Nat.zero_le _), cnk_zero, cnk_zero]
theorem tN_pascal (b g k i : Nat) : tN (b + 1) g (k + 1) (i + 1) = tN b g k i + tN b g (k + 1) (i + 1) := by
  unfold tN
  by_cases h : i ≤ k
  · rw [if_pos (by omega), if_pos h, if_pos (by omega), show k + 1 - (i + 1) = k - i by omega, ← Nat.add_mul]; rfl
  · rw [if_neg (by omega), if_neg h, if_neg (by omega)]
theorem sumT_zero (b g : Nat) : ∀ m, sumT (b + 1) g 0 m = sumT b g 0 m
  | 0 => rfl
  | m + 1 => by rw [sumT, sumT, sumT_zero b g m, tN_zero]
theorem sumT_pascal (b g k : Nat) : ∀ m, sumT (b + 1) g (k + 1) (m + 1) = sumT b g k m + sumT b g (k + 1) (m + 1)
  | 0 => by simp only [sumT, tN_first]; omega
  | m + 1 => by
    have ih := sumT_pascal b g k m
    have e1 : sumT (b + 1) g (k + 1) (m + 1 + 1) = sumT (b + 1) g (k + 1) (m + 1) + tN (b + 1) g (k + 1) (m + 1) := rfl
    have e2 : sumT b g k (m + 1) = sumT b g k m + tN b g k m := rfl
    have e3 : sumT b g (k + 1) (m + 1 + 1) = sumT b g (k + 1) (m + 1) + tN b g (k + 1) (m + 1) := rfl
    have e4 := tN_pascal b g k m
    omega
theorem sumT_base (g k : Nat) : ∀ m, sumT 0 g k (m + 1) = cnk g k
  | 0 => by simp [sumT, tN, cnk_zero]
  | m + 1 => by
    rw [sumT, sumT_base g k m]
    have : tN 0 g k (m + 1) = 0 := tN_high (by omega)
    omega
/-- the samples of k things that show fewer than m of the first b -/
def fewF (b k m : Nat) (s : Nat) : Bool := decide (pc s = k) && decide (pc (s % 2 ^ b) < m)
theorem mod_two (b i : Nat) : 2 * i % 2 ^ (b + 1) = 2 * (i % 2 ^ b) ∧ (2 * i + 1) % 2 ^ (b + 1) = 2 * (i % 2 ^ b) + 1 := by
  have hp : 0 < 2 ^ b := Nat.pow_pos (by omega)
  rw [Nat.pow_succ, Nat.mul_comm (2 ^ b) 2]
  have h1 := Nat.div_add_mod i (2 ^ b)
  have h2 := Nat.mod_lt i hp
  generalize 2 ^ b = P at *
  generalize i % P = r at *
  generalize i / P = q at *
  have e : 2 * i = 2 * r + 2 * P * q := by rw [Nat.mul_assoc]; omega
  constructor
  · rw [e, Nat.add_mul_mod_self_left, Nat.mod_eq_of_lt (by omega)]
  · rw [e, show 2 * r + 2 * P * q + 1 = 2 * r + 1 + 2 * P * q by omega, Nat.add_mul_mod_self_left, Nat.mod_eq_of_lt (by omega)]
theorem few_count : ∀ b g k m, cs (fewF b k m) (2 ^ (b + g)) = sumT b g k m := by
  intro b
  induction b with
  | zero =>
    intro g k m
    rw [Nat.zero_add]
    cases m with
    | zero =>
      have : ∀ j, cs (fewF 0 k 0) j = cs (fun _ => false) j := cs_congr fun i => by simp [fewF]
      rw [this, cs_none]; rfl
    | succ m =>
      have : ∀ j, cs (fewF 0 k (m + 1)) j = cs (fun s => decide (pc s = k)) j := cs_congr fun i => by simp [fewF, Nat.mod_one, pc_zero]
      rw [this, sumT_base]
      exact sets_just (c := cnk) cnk_zero (fun _ => rfl) (fun n k => by simp only [cnk]) g k
  | succ b ih =>
    intro g k m
    rw [show b + 1 + g = b + g + 1 by omega, Nat.pow_succ, Nat.mul_comm, cs_two]
    have e1 : ∀ j, cs (fun i => fewF (b + 1) k m (2 * i)) j = cs (fewF b k m) j := cs_congr fun i => by
      simp only [fewF, (mod_two b i).1, pc_even]
    rw [e1, ih]
    cases k with
    | zero =>
      have e2 : ∀ j, cs (fun i => fewF (b + 1) 0 m (2 * i + 1)) j = cs (fun _ => false) j := cs_congr fun i => by
        simp [fewF, pc_odd]
      rw [e2, cs_none, sumT_zero]; rfl
    | succ k =>
      cases m with
      | zero =>
        have e2 : ∀ j, cs (fun i => fewF (b + 1) (k + 1) 0 (2 * i + 1)) j = cs (fun _ => false) j := cs_congr fun i => by
          simp [fewF]
        rw [e2, cs_none]; rfl
      | succ m =>
        have e2 : ∀ j, cs (fun i => fewF (b + 1) (k + 1) (m + 1) (2 * i + 1)) j = cs (fewF b k m) j := cs_congr fun i => by
          simp only [fewF, (mod_two b i).2, pc_odd, Nat.add_left_inj, Nat.add_lt_add_iff_right]
        rw [e2, ih, sumT_pascal]; omega

theorem samples_calls (b g k : Nat) (seen : Int) (hbg : b + g ≤ 12) (hk : k ≤ 12) (hs : -128 ≤ seen ∧ seen ≤ 127) :
    ACalls Tryd.prog 58 [.int .i64 ((b + g : Nat) : Int), .int .i64 (b : Int), .int .i64 (k : Int), .int .i64 seen] [] [] fun v H => v = .tuple [.int .u64 ((wN b g k seen : Nat) : Int), .int .u64 ((cnk (b + g) k : Nat) : Int)] ∧ H = [] := by
  refine ACalls.trim1 (W := List.range 0) ?_ rfl
  refine ACalls.body Tryd.func58 ent_samples ir_samples_ok rs_samples_ok Tryd.ntmps58 (by simp) rfl ?_
  unfold ir_samples
  have e0 : s0 [.int .i64 ((b + g : Nat) : Int), .int .i64 (b : Int), .int .i64 (k : Int), .int .i64 seen] 0 = .int .i64 ((b + g : Nat) : Int) := rfl
  have e1 : s0 [.int .i64 ((b + g : Nat) : Int), .int .i64 (b : Int), .int .i64 (k : Int), .int .i64 seen] 1 = .int .i64 (b : Int) := rfl
  have e2 : s0 [.int .i64 ((b + g : Nat) : Int), .int .i64 (b : Int), .int .i64 (k : Int), .int .i64 seen] 2 = .int .i64 (k : Int) := rfl
  have e3 : s0 [.int .i64 ((b + g : Nat) : Int), .int .i64 (b : Int), .int .i64 (k : Int), .int .i64 seen] 3 = .int .i64 seen := rfl
  obtain ⟨N, hN⟩ : ∃ N, b + g = N := ⟨_, rfl⟩
  have hfew := few_count b g k (seen + 1).toNat
  have hall := sets_just (c := cnk) cnk_zero (fun _ => rfl) (fun n k => by simp only [cnk]) (b + g) k
  rw [hN] at hfew hall e0 e1 e2 e3 ⊢
  have hp := pow13 N (by omega)
  have hsh := shl13 N (by omega)
  have hpb := pow13 b (by omega)
  have hsb := shl13 b (by omega)
  have hb0 : 0 < 2 ^ b := Nat.pow_pos (by omega)
  obtain ⟨M, hM⟩ : ∃ M, 2 ^ N = M := ⟨_, rfl⟩
  rw [hM] at hp hsh hfew hall
  obtain ⟨B, hB⟩ : ∃ B, 2 ^ b = B := ⟨_, rfl⟩
  rw [hB] at hpb hsb hb0
  simp -implicitDefEqProofs (disch := omega) only [sN, ↓reduceIte, Nat.reduceEqDiff, Nat.reduceAdd, Nat.reduceMul, Nat.reduceSub, reduceCtorEq, e_none, e_some, e_bindS, e0, e1, e2, e3]
  refine ⟨fun t s H => ∃ j : Nat, t = M - j ∧ j ≤ M ∧ s 0 = .int .i64 (N : Int) ∧ s 1 = .int .i64 (b : Int) ∧ s 2 = .int .i64 (k : Int) ∧ s 3 = .int .i64 seen ∧ s 10 = .int .u64 ((cs (fewF b k (seen + 1).toNat) j : Nat) : Int) ∧ s 11 = .int .u64 ((cs (fun s => decide (pc s = k)) j : Nat) : Int) ∧ s 12 = .int .i64 (j : Int) ∧ H = [], M, ⟨0, rfl, by omega, ?_, ?_, ?_, ?_, ?_, ?_, ?_, rfl⟩, ?_⟩
  · simp only [e_upd, e_putS, e_putN, e_t, e_c, Nat.reduceEqDiff, ↓reduceIte, reduceCtorEq, Nat.reduceAdd, e0]
  · simp only [e_upd, e_putS, e_putN, e_t, e_c, Nat.reduceEqDiff, ↓reduceIte, reduceCtorEq, Nat.reduceAdd, e1]
  · simp only [e_upd, e_putS, e_putN, e_t, e_c, Nat.reduceEqDiff, ↓reduceIte, reduceCtorEq, Nat.reduceAdd, e2]
  · simp only [e_upd, e_putS, e_putN, e_t, e_c, Nat.reduceEqDiff, ↓reduceIte, reduceCtorEq, Nat.reduceAdd, e3]
  · simp only [e_upd, e_putS, e_putN, e_t, e_c, Nat.reduceEqDiff, ↓reduceIte, reduceCtorEq, Nat.reduceAdd]; rfl
  · simp only [e_upd, e_putS, e_putN, e_t, e_c, Nat.reduceEqDiff, ↓reduceIte, reduceCtorEq, Nat.reduceAdd]; rfl
  · simp only [e_upd, e_putS, e_putN, e_t, e_c, Nat.reduceEqDiff, ↓reduceIte, reduceCtorEq, Nat.reduceAdd]; rfl
  rintro t s H ⟨j, rfl, hj, h0, h1, h2, h3, h10, h11, h12, rfl⟩
  by_cases hlt : j < M
  · have q1 := cs_le (fewF b k (seen + 1).toNat) j
    have q2 := cs_le (fun s => decide (pc s = k)) j
    have q3 := pc_le j
    have q4 := pc_le (j % B)
    have q5 : j % B < B := Nat.mod_lt _ hb0
    have f1 : cs (fewF b k (seen + 1).toNat) (j + 1) = cs (fewF b k (seen + 1).toNat) j + if fewF b k (seen + 1).toNat j then 1 else 0 := rfl
    have f2 : cs (fun s => decide (pc s = k)) (j + 1) = cs (fun s => decide (pc s = k)) j + if decide (pc j = k) then 1 else 0 := rfl
    simp -implicitDefEqProofs (disch := omega) only [sN, ↓reduceIte, Nat.reduceEqDiff, Nat.reduceAdd, Nat.reduceMul, Nat.reduceSub, reduceCtorEq, e_none, e_some, e_bindS, h0, h1, h2, h3, h10, h11, h12, hsh, List.map_cons, List.map_nil]
    refine call_sc (ones_calls j (by omega)) rfl rfl (fun _ => rfl) ?_
    by_cases hc : pc j = k
    · have hcI : ((pc j : Nat) : Int) = (k : Int) := by omega
      have hrem : abin .rem (.int .i64 (j : Int)) (.int .i64 (B : Int)) = some (.int .i64 ((j % B : Nat) : Int)) := by
        rw [b_rem (by omega) (by omega)]; rfl
      rw [show decide (pc j = k) = true from decide_eq_true hc, if_pos rfl] at f2
      simp -implicitDefEqProofs (disch := omega) only [sN, ↓reduceIte, Nat.reduceEqDiff, Nat.reduceAdd, Nat.reduceMul, Nat.reduceSub, reduceCtorEq, e_none, e_some, e_bindS, h0, h1, h2, h3, h10, h11, h12, hsb, hrem, List.map_cons, List.map_nil]
      refine call_sc (ones_calls (j % B) (by omega)) rfl rfl (fun _ => rfl) ?_
      by_cases hd : ((pc (j % B) : Nat) : Int) ≤ seen
      · have hf : fewF b k (seen + 1).toNat j = true := by
          simp only [fewF, hB, hc, decide_true, Bool.true_and, decide_eq_true_eq]; omega
        rw [hf, if_pos rfl] at f1
        simp -implicitDefEqProofs (disch := omega) only [sN, ↓reduceIte, Nat.reduceEqDiff, Nat.reduceAdd, Nat.reduceMul, Nat.reduceSub, reduceCtorEq, e_none, e_some, e_bindS, h0, h1, h2, h3, h10, h11, h12]
        refine loop_keep (m := M - (j + 1)) (by omega) ⟨j + 1, rfl, by omega, ?_, ?_, ?_, ?_, ?_, ?_, ?_, rfl⟩
        · simp only [e_upd, e_putS, e_putN, e_t, e_c, Nat.reduceEqDiff, ↓reduceIte, reduceCtorEq, Nat.reduceAdd, h0]
        · simp only [e_upd, e_putS, e_putN, e_t, e_c, Nat.reduceEqDiff, ↓reduceIte, reduceCtorEq, Nat.reduceAdd, h1]
        · simp only [e_upd, e_putS, e_putN, e_t, e_c, Nat.reduceEqDiff, ↓reduceIte, reduceCtorEq, Nat.reduceAdd, h2]
        · simp only [e_upd, e_putS, e_putN, e_t, e_c, Nat.reduceEqDiff, ↓reduceIte, reduceCtorEq, Nat.reduceAdd, h3]
        · simp only [e_upd, e_putS, e_putN, e_t, e_c, Nat.reduceEqDiff, ↓reduceIte, reduceCtorEq, Nat.reduceAdd, f1]; rfl
        · simp only [e_upd, e_putS, e_putN, e_t, e_c, Nat.reduceEqDiff, ↓reduceIte, reduceCtorEq, Nat.reduceAdd, f2]; rfl
        · simp only [e_upd, e_putS, e_putN, e_t, e_c, Nat.reduceEqDiff, ↓reduceIte, reduceCtorEq, Nat.reduceAdd]; rfl
      · have hf : fewF b k (seen + 1).toNat j = false := by
          simp only [fewF, hB, hc, decide_true, Bool.true_and, decide_eq_false_iff_not]; omega
        rw [hf, if_neg (by decide)] at f1
        simp -implicitDefEqProofs (disch := omega) only [sN, ↓reduceIte, Nat.reduceEqDiff, Nat.reduceAdd, Nat.reduceMul, Nat.reduceSub, reduceCtorEq, e_none, e_some, e_bindS, h0, h1, h2, h3, h10, h11, h12]
        refine loop_keep (m := M - (j + 1)) (by omega) ⟨j + 1, rfl, by omega, ?_, ?_, ?_, ?_, ?_, ?_, ?_, rfl⟩
        · simp only [e_upd, e_putS, e_putN, e_t, e_c, Nat.reduceEqDiff, ↓reduceIte, reduceCtorEq, Nat.reduceAdd, h0]
        · simp only [e_upd, e_putS, e_putN, e_t, e_c, Nat.reduceEqDiff, ↓reduceIte, reduceCtorEq, Nat.reduceAdd, h1]
        · simp only [e_upd, e_putS, e_putN, e_t, e_c, Nat.reduceEqDiff, ↓reduceIte, reduceCtorEq, Nat.reduceAdd, h2]
        · simp only [e_upd, e_putS, e_putN, e_t, e_c, Nat.reduceEqDiff, ↓reduceIte, reduceCtorEq, Nat.reduceAdd, h3]
        · simp only [e_upd, e_putS, e_putN, e_t, e_c, Nat.reduceEqDiff, ↓reduceIte, reduceCtorEq, Nat.reduceAdd, h10, f1]; rfl
        · simp only [e_upd, e_putS, e_putN, e_t, e_c, Nat.reduceEqDiff, ↓reduceIte, reduceCtorEq, Nat.reduceAdd, f2]; rfl
        · simp only [e_upd, e_putS, e_putN, e_t, e_c, Nat.reduceEqDiff, ↓reduceIte, reduceCtorEq, Nat.reduceAdd]; rfl
    · have hf : fewF b k (seen + 1).toNat j = false := by
        simp only [fewF, decide_eq_false hc, Bool.false_and]
      rw [hf, if_neg (by decide)] at f1
      rw [show decide (pc j = k) = false from decide_eq_false hc, if_neg (by decide)] at f2
      simp -implicitDefEqProofs (disch := omega) only [sN, ↓reduceIte, Nat.reduceEqDiff, Nat.reduceAdd, Nat.reduceMul, Nat.reduceSub, reduceCtorEq, e_none, e_some, e_bindS, h0, h1, h2, h3, h10, h11, h12]
      refine loop_keep (m := M - (j + 1)) (by omega) ⟨j + 1, rfl, by omega, ?_, ?_, ?_, ?_, ?_, ?_, ?_, rfl⟩
      · simp only [e_upd, e_putS, e_putN, e_t, e_c, Nat.reduceEqDiff, ↓reduceIte, reduceCtorEq, Nat.reduceAdd, h0]
      · simp only [e_upd, e_putS, e_putN, e_t, e_c, Nat.reduceEqDiff, ↓reduceIte, reduceCtorEq, Nat.reduceAdd, h1]
      · simp only [e_upd, e_putS, e_putN, e_t, e_c, Nat.reduceEqDiff, ↓reduceIte, reduceCtorEq, Nat.reduceAdd, h2]
      · simp only [e_upd, e_putS, e_putN, e_t, e_c, Nat.reduceEqDiff, ↓reduceIte, reduceCtorEq, Nat.reduceAdd, h3]
      · simp only [e_upd, e_putS, e_putN, e_t, e_c, Nat.reduceEqDiff, ↓reduceIte, reduceCtorEq, Nat.reduceAdd, h10, f1]; rfl
      · simp only [e_upd, e_putS, e_putN, e_t, e_c, Nat.reduceEqDiff, ↓reduceIte, reduceCtorEq, Nat.reduceAdd, h11, f2]; rfl
      · simp only [e_upd, e_putS, e_putN, e_t, e_c, Nat.reduceEqDiff, ↓reduceIte, reduceCtorEq, Nat.reduceAdd]; rfl
  · obtain rfl : j = M := by omega
    rw [hfew] at h10
    rw [hall] at h11
    simp -implicitDefEqProofs (disch := omega) only [sN, ↓reduceIte, Nat.reduceEqDiff, Nat.reduceAdd, Nat.reduceMul, Nat.reduceSub, reduceCtorEq, e_none, e_some, e_bindS, h0, h1, h2, h3, h10, h11, h12, hsh]
    refine ret_keep (by simp) ?_
    rw [show rs_samples = [.tmp 8, .tmp 9] from rfl, q_tmp2, q_then]
    simp only [e_upd, e_putS, e_putN, e_t, e_c, Nat.reduceEqDiff, ↓reduceIte, reduceCtorEq, Nat.reduceAdd]
    rfl
end Go.Proofs.YtpkeneadkiabiaaDoor

/- ExactSampling's walk. -/
-- NEWSET
namespace Go.Proofs.YtpkeneadkiabiaaDoor
open Go Go.Vh Go.Pc

section
variable {K : St → AHeap → Prop} {d : Option Nat} {s : St} {H : AHeap}
theorem call_rof0 {x : Int} (h0 : 0 ≤ x) (h1 : x ≤ 18446744073709551615) (hK : ∀ R w, AtN (H ++ R) w x → K (putI d s w) (H ++ R)) : thenC0 Tryd.prog K d s H [.int .u64 x] (.func 17 []) := by
  refine call_do0 (rof_calls x h0 h1) [] rfl rfl rfl rfl rfl trivial ?_
  rintro v0 H0' ⟨rfl, row, rfl, hown, hrow⟩
  have hn := new_of_trim (S := two x) (x := x) (c := 2) (row := ⟨true, false, ints .u32 (two x)⟩) (two_range h0 h1) (num_two x) (tz_le _ 2) rfl rfl
  have htl : ((two x).take (tz (two x) 2)).length = tz (two x) 2 := by rw [List.length_take, two_length]; have := tz_le (two x) 2; omega
  rw [m_merge, m_nil, n_mkS (r' := H.length) (d := 0) (by simp [sig])]
  refine hK _ _ ⟨upK (tz (two x) 2), (two x).take (tz (two x) 2), ⟨true, row.slack, renL (sig [] H.length) row.cells⟩, H.length, ?_, ?_, ?_, ?_, hn.limbs, hn.num, hn.norm⟩
  · rw [htl]; unfold upK; split <;> simp_all [okS]
  · rw [htl, Nat.zero_add]
  · simp [Vh.rowAt, renRow, hown]
  · simp only [htl]
    rw [renL_take, hrow, ints_ren]
end
theorem cmp_eq {a b : Int} (h : a = b) : cmpI a b = 0 := by subst h; simp [cmpI]
theorem red_cross {x y : Int} (hx : 0 ≤ x) (hy : 0 < y) : redX x y * y = x * redX y x := by
  obtain ⟨a, rfl⟩ := Int.eq_ofNat_of_zero_le hx
  obtain ⟨b, rfl⟩ := Int.eq_ofNat_of_zero_le (Int.le_of_lt hy)
  unfold redX
  simp only [Int.toNat_natCast]
  rw [Nat.gcd_comm b a]
  have h1 := Nat.div_mul_cancel (Nat.gcd_dvd_left a b)
  have h2 := Nat.div_mul_cancel (Nat.gcd_dvd_right a b)
  rw [← Int.natCast_ediv, ← Int.natCast_ediv, ← Int.natCast_mul, ← Int.natCast_mul]
  congr 1
  generalize Nat.gcd a b = g at *
  calc a / g * b = a / g * (b / g * g) := by rw [h2]
    _ = a / g * g * (b / g) := by rw [Nat.mul_assoc, Nat.mul_comm g]
    _ = a * (b / g) := by rw [h1]
theorem red_le {x y : Int} (hx : 0 ≤ x) : 0 ≤ redX x y ∧ redX x y ≤ x := by
  unfold redX
  exact ⟨Int.ediv_nonneg hx (by omega), Int.ediv_le_self _ hx⟩
theorem red_pos {x y : Int} (hx : 0 < x) : 0 < redX x y := by
  obtain ⟨a, rfl⟩ := Int.eq_ofNat_of_zero_le (Int.le_of_lt hx)
  unfold redX
  simp only [Int.toNat_natCast]
  have hd := Nat.gcd_dvd_left a y.toNat
  have hp : 0 < Nat.gcd a y.toNat := Nat.gcd_pos_of_pos_left _ (by omega)
  have := Nat.div_pos (Nat.le_of_dvd (by omega) hd) hp
  rw [← Int.natCast_ediv]; omega

set_option maxHeartbeats 1000000 in
theorem sampling_calls {Ww : List Nat} (hw : ACalls Tryd.prog 18 [] [] Ww fun v _ => v = .bool true) (total bad sample seen : Int) (h0 : 0 ≤ total ∧ total ≤ 255) (h1 : 0 ≤ bad ∧ bad ≤ 255) (h2 : 0 ≤ sample ∧ sample ≤ 255) (h3 : -128 ≤ seen ∧ seen ≤ 127) :
    ACalls Tryd.prog 13 [.int .u8 total, .int .u8 bad, .int .u8 sample, .int .i8 seen] [] (List.range 0) fun v _ => v = .bool true := by
  refine ACalls.body Tryd.func13 ent_sampling ir_sampling_ok rs_sampling_ok Tryd.ntmps13 (by simp) rfl ?_
  unfold ir_sampling
  have e0 : s0 [.int .u8 total, .int .u8 bad, .int .u8 sample, .int .i8 seen] 0 = .int .u8 total := rfl
  have e1 : s0 [.int .u8 total, .int .u8 bad, .int .u8 sample, .int .i8 seen] 1 = .int .u8 bad := rfl
  have e2 : s0 [.int .u8 total, .int .u8 bad, .int .u8 sample, .int .i8 seen] 2 = .int .u8 sample := rfl
  have e3 : s0 [.int .u8 total, .int .u8 bad, .int .u8 sample, .int .i8 seen] 3 = .int .i8 seen := rfl
  have hz : [AV.nilslice, AV.nilslice].all AV.cell = true := rfl
  obtain ⟨N, hN⟩ : ∃ N : Nat, total % 12 = N := ⟨(total % 12).toNat, by omega⟩
  have hN1 : N ≤ 11 := by omega
  have hb1 := Int.emod_lt_of_pos bad (show (0 : Int) < (N : Int) + 1 by omega)
  have hb0 := Int.emod_nonneg bad (show (N : Int) + 1 ≠ 0 by omega)
  have hk1 := Int.emod_lt_of_pos sample (show (0 : Int) < (N : Int) + 1 by omega)
  have hk0 := Int.emod_nonneg sample (show (N : Int) + 1 ≠ 0 by omega)
  obtain ⟨b, hb⟩ : ∃ b : Nat, bad % ((N : Int) + 1) = b := ⟨(bad % ((N : Int) + 1)).toNat, by omega⟩
  obtain ⟨k, hk⟩ : ∃ k : Nat, sample % ((N : Int) + 1) = k := ⟨(sample % ((N : Int) + 1)).toNat, by omega⟩
  obtain ⟨g, rfl⟩ : ∃ g : Nat, N = b + g := ⟨N - b, by omega⟩
  have hx1 : IntKind.i64.wrap total = total := by rw [w64 (by omega) (by omega)]
  have hx2 : IntKind.i64.wrap bad = bad := by rw [w64 (by omega) (by omega)]
  have hx3 : IntKind.i64.wrap sample = sample := by rw [w64 (by omega) (by omega)]
  have hx4 : IntKind.i64.wrap seen = seen := by rw [w64 (by omega) (by omega)]
  have hsw := samples_calls b g k seen (by omega) (by omega) (by omega)
  have hcp := cnk_pos2 (b + g) k (by omega)
  have hcl : cnk (b + g) k ≤ 4096 := Nat.le_trans (cnk_le _ _) (pow13 _ (by omega))
  have hwl : wN b g k seen ≤ 4096 := by
    have h := few_count b g k (seen + 1).toNat
    have h2 := cs_le (fewF b k (seen + 1).toNat) (2 ^ (b + g))
    have h3 := pow13 (b + g) (by omega)
    unfold wN; omega
  simp -implicitDefEqProofs (disch := omega) only [sN, ↓reduceIte, Nat.reduceEqDiff, Nat.reduceAdd, Nat.reduceMul, Nat.reduceSub, reduceCtorEq, e_none, e_some, e_bindS, e0, e1, e2, e3, hx1, hx2, hx3, hx4, b_rem, hN, hb, hk, List.map_cons, List.map_nil]
  refine call_sc hsw rfl rfl (fun _ => rfl) ?_
  have hxT := xTail_calls ((b + g : Nat) : Int) (b : Int) (k : Int) seen (by omega) (by omega) (by omega) (by omega)
  have hok : tlOK ((b + g : Nat) : Int) (b : Int) (k : Int) := by unfold tlOK; omega
  have hW : tlW ((b + g : Nat) : Int) (b : Int) (k : Int) seen = ((wN b g k seen : Nat) : Int) := by
    unfold tlW; rw [show (((b + g : Nat) : Int) - (b : Int)).toNat = g by omega]; rfl
  have hC : tlC ((b + g : Nat) : Int) (k : Int) = ((cnk (b + g) k : Nat) : Int) := rfl
  generalize hWe : wN b g k seen = W at *
  generalize hCe : cnk (b + g) k = C at *
  have r1 := red_le (x := (W : Int)) (y := (C : Int)) (by omega)
  have r2 := red_le (x := (C : Int)) (y := (W : Int)) (by omega)
  have r3 := red_pos (x := (C : Int)) (y := (W : Int)) (by omega)
  have b64 : (4096 : Int) < BB ^ 64 := by
    have := BB_mono (show 1 ≤ 64 by omega)
    have h1 : BB ^ 1 = 4294967296 := by rw [Int.pow_succ]; simp [BB]
    omega
  have hE0 : redE (W : Int) (C : Int) = 0 := by unfold redE; rw [if_pos ⟨by omega, by omega⟩]
  have hE : tlE ((b + g : Nat) : Int) (b : Int) (k : Int) seen = 0 := by unfold tlE; rw [if_pos hok, hW, hC, hE0]
  have hNe : tlN ((b + g : Nat) : Int) (b : Int) (k : Int) seen = redX (W : Int) (C : Int) := by unfold tlN; rw [hE, hW, hC]; rfl
  have hDe : tlD ((b + g : Nat) : Int) (b : Int) (k : Int) seen = redX (C : Int) (W : Int) := by unfold tlD; rw [hE, hW, hC]; rfl
  rw [hE, hNe, hDe] at hxT
  simp -implicitDefEqProofs (disch := omega) only [sN, ↓reduceIte, Nat.reduceEqDiff, Nat.reduceAdd, Nat.reduceMul, Nat.reduceSub, reduceCtorEq, e_none, e_some, e_bindS, hx4, e3, List.map_cons, List.map_nil, List.getElem?_cons_zero, List.getElem?_cons_succ]
  refine call_in0 (Q := UpF (redX (W : Int) (C : Int)) (redX (C : Int) (W : Int)) 0) hxT rfl (hk_F fun R1 w1 w2 n1 n2 => ?_)
  obtain ⟨H1, hH1⟩ : ∃ q, q = [] ++ R1 := ⟨_, rfl⟩
  rw [← hH1] at n1 n2 ⊢
  simp -implicitDefEqProofs (disch := omega) only [sN, ↓reduceIte, Nat.reduceEqDiff, Nat.reduceAdd, Nat.reduceMul, Nat.reduceSub, reduceCtorEq, e_none, e_some, e_bindS, List.map_cons, List.map_nil, List.getElem?_cons_zero, List.getElem?_cons_succ]
  rw [x_allocA hz]
  simp -implicitDefEqProofs (disch := omega) only [sN, ↓reduceIte, Nat.reduceEqDiff, Nat.reduceAdd, Nat.reduceMul, Nat.reduceSub, reduceCtorEq, e_none, e_some, e_bindS]
  rw [x_storeNA (n := 2) (r := H1.length) (l := [.nilslice, .nilslice]) (l' := [w1, w2]) (by simp only [e_upd, e_putS, e_putN, e_t, e_c, Nat.reduceEqDiff, ↓reduceIte, reduceCtorEq, Nat.reduceAdd]) (by simp only [e_upd, e_putS, e_putN, e_t, e_c, Nat.reduceEqDiff, ↓reduceIte, reduceCtorEq, Nat.reduceAdd]) (by simp [n1.cell, n2.cell]) (by simp [Vh.rowAt, rw_]) rfl rfl]
  rw [show (H1 ++ [rw_ [AV.nilslice, AV.nilslice]]).set H1.length (rw_ [w1, w2]) = H1 ++ [rw_ [w1, w2]] by simp]
  have hr1 : Vh.rowAt (H1 ++ [rw_ [w1, w2]]) H1.length = some ⟨true, false, [w1, w2]⟩ := by simp [Vh.rowAt, rw_]
  obtain ⟨H2, hH2⟩ : ∃ q, q = H1 ++ [rw_ [w1, w2]] := ⟨_, rfl⟩
  have m1 : AtN H2 w1 (redX (W : Int) (C : Int)) := by rw [hH2]; exact n1.app.normAt hr1
  have m2 : AtN H2 w2 (redX (C : Int) (W : Int)) := by rw [hH2]; exact n2.app.normAt hr1
  rw [← hH2] at hr1 ⊢
  simp -implicitDefEqProofs (disch := omega) only [sN, ↓reduceIte, Nat.reduceEqDiff, Nat.reduceAdd, Nat.reduceMul, Nat.reduceSub, reduceCtorEq, e_none, e_some, e_bindS]
  rw [x_loadNA (n := 2) (r := H1.length) (row := ⟨true, false, [w1, w2]⟩) (l := [w1, w2]) (by simp only [e_upd, e_putS, e_putN, e_t, e_c, Nat.reduceEqDiff, ↓reduceIte, reduceCtorEq, Nat.reduceAdd]) hr1 rfl rfl]
  simp -implicitDefEqProofs (disch := omega) only [sN, ↓reduceIte, Nat.reduceEqDiff, Nat.reduceAdd, Nat.reduceMul, Nat.reduceSub, reduceCtorEq, e_none, e_some, e_bindS, List.map_cons, List.map_nil]
  refine call_rof0 (by omega) (by omega) fun R3 w3 m3 => ?_
  simp -implicitDefEqProofs (disch := omega) only [sN, ↓reduceIte, Nat.reduceEqDiff, Nat.reduceAdd, Nat.reduceMul, Nat.reduceSub, reduceCtorEq, e_none, e_some, e_bindS, List.map_cons, List.map_nil]
  refine call_rof0 (by omega) (by omega) fun R4 w4 m4 => ?_
  simp -implicitDefEqProofs (disch := omega) only [sN, ↓reduceIte, Nat.reduceEqDiff, Nat.reduceAdd, Nat.reduceMul, Nat.reduceSub, reduceCtorEq, e_none, e_some, e_bindS, List.map_cons, List.map_nil]
  rw [p_build2 (v1 := w3) (v2 := w4) (by simp only [e_upd, e_putS, e_putN, e_t, e_c, Nat.reduceEqDiff, ↓reduceIte, reduceCtorEq, Nat.reduceAdd]) (by simp only [e_upd, e_putS, e_putN, e_t, e_c, Nat.reduceEqDiff, ↓reduceIte, reduceCtorEq, Nat.reduceAdd]) m3.cell m4.cell]
  simp -implicitDefEqProofs (disch := omega) only [sN, ↓reduceIte, Nat.reduceEqDiff, Nat.reduceAdd, Nat.reduceMul, Nat.reduceSub, reduceCtorEq, e_none, e_some, e_bindS, List.map_cons, List.map_nil]
  obtain ⟨x1, y1, z1⟩ := (m1.base (Base.one (R := R3)).app).x (k := 64) (by omega)
  obtain ⟨x2, y2, z2⟩ := (m2.base (Base.one (R := R3)).app).x (k := 64) (by omega)
  obtain ⟨x3, y3, z3⟩ := (m3.base (Base.one (R := R4))).x (k := 64) (by omega)
  obtain ⟨x4, y4, z4⟩ := m4.x (k := 64) (by omega)
  have hcf : cfE [⟨w1, w2, _, _, x1, x2⟩, ⟨w3, w4, _, _, x3, x4⟩] = 0 := cfE_zero (q := ⟨w1, w2, redX (W : Int) (C : Int), redX (C : Int) (W : Int), x1, x2⟩) (p := ⟨w3, w4, (W : Int), (C : Int), x3, x4⟩) y1 y2 y3 y4 (by show redX (C : Int) (W : Int) ≠ 0; omega) (by show (C : Int) ≠ 0; omega)
  have hfc : fcC ⟨w1, w2, redX (W : Int) (C : Int), redX (C : Int) (W : Int), x1, x2⟩ ⟨w3, w4, (W : Int), (C : Int), x3, x4⟩ = 0 := by
    unfold fcC; rw [if_pos hcf]
    exact cmp_eq (red_cross (by omega) (by omega))
  have hcmp := xFracCompare_calls (H2 ++ R3 ++ R4) (q := ⟨w1, w2, redX (W : Int) (C : Int), redX (C : Int) (W : Int), x1, x2⟩) (p := ⟨w3, w4, (W : Int), (C : Int), x3, x4⟩) ⟨z1, z2, by show x1 ≤ 100000; omega, by show x2 ≤ 100000; omega⟩ ⟨z3, z4, by show x3 ≤ 100000; omega, by show x4 ≤ 100000; omega⟩
  rw [hcf, hfc] at hcmp
  refine ⟨_, hcmp.g.mono ?_⟩
  rintro v H5 ⟨rfl, hB5⟩
  simp -implicitDefEqProofs (disch := omega) only [sN, ↓reduceIte, Nat.reduceEqDiff, Nat.reduceAdd, Nat.reduceMul, Nat.reduceSub, reduceCtorEq, e_none, e_some, e_bindS, List.map_nil, List.getElem?_cons_zero, List.getElem?_cons_succ, beq_self_eq_true]
  refine call_true hw fun H' => ?_
  simp -implicitDefEqProofs (disch := omega) only [sN, ↓reduceIte, Nat.reduceEqDiff, Nat.reduceAdd, Nat.reduceMul, Nat.reduceSub, reduceCtorEq, e_none, e_some, e_bindS]
  refine ret_keep (by simp) ?_
  simp only [q_tmp, q_then, rs_sampling, e_upd, e_putS, e_putN, e_t, e_c, Nat.reduceEqDiff, ↓reduceIte, reduceCtorEq, Nat.reduceAdd]
end Go.Proofs.YtpkeneadkiabiaaDoor
