/- Contracts: exact's samplesWith. -/
import Derived.Test.YtpkeneadkiabiabDoorVX
import Derived.Test.YtpkeneadkiabiabDoorFG
import Derived.Test.YtpkeneadkiabiabDoorFF
set_option linter.unusedSimpArgs false
set_option linter.unusedVariables false
-- NEWSET
namespace Go.Proofs.YtpkeneadkiabiabDoor
open Go Go.Vh

/-- how many sets of k of b + g things have i of the b -/
def tN (b g k i : Nat) : Nat := if i ≤ k then cnk b i * cnk g (k - i) else 0
/-- the first m of these together -/
def sumT (b g k : Nat) : Nat → Nat
  | 0 => 0
  | m + 1 => sumT b g k m + tN b g k m
theorem tN_low {b g k i : Nat} (h : i + g < k) : tN b g k i = 0 := by
  unfold tN
  rw [if_pos (by omega), cnk_over g _ (by omega), Nat.mul_zero]
theorem tN_high {b g k i : Nat} (h : b < i ∨ k < i) : tN b g k i = 0 := by
  unfold tN
  split
  · rw [cnk_over b i (by omega), Nat.zero_mul]
  · rfl
theorem sumT_low {b g k : Nat} : ∀ {m : Nat}, m + g ≤ k → sumT b g k m = 0
  | 0, _ => rfl
  | m + 1, h => by rw [sumT, sumT_low (by omega), tN_low (by omega)]
theorem sumT_high {b g k n : Nat} (h : b < n ∨ k < n) : ∀ {m : Nat}, n ≤ m → sumT b g k m = sumT b g k n
  | 0, hm => by obtain rfl : n = 0 := by omega
                rfl
  | m + 1, hm => by
    rcases Nat.eq_or_lt_of_le hm with e | e
    · rw [e]
    · rw [sumT, sumT_high h (by omega), tN_high (by omega), Nat.add_zero]
theorem tN_step {b g k i : Nat} (hb : i < b) (hk : i < k) (hg : k ≤ g + i) : tN b g k (i + 1) * ((i + 1) * (g + i + 1 - k)) = tN b g k i * ((b - i) * (k - i)) := by
  have h1 := cnk_next b i (by omega)
  have h2 := cnk_next g (k - i - 1) (by omega)
  unfold tN
  rw [if_pos (by omega), if_pos (by omega), show k - (i + 1) = k - i - 1 by omega]
  rw [show k - i - 1 + 1 = k - i by omega, show g - (k - i - 1) = g + i + 1 - k by omega] at h2
  generalize cnk b i = p at *
  generalize cnk b (i + 1) = p' at *
  generalize cnk g (k - i) = q at *
  generalize cnk g (k - i - 1) = q' at *
  generalize g + i + 1 - k = d at *
  calc p' * q' * ((i + 1) * d) = ((i + 1) * p') * (d * q') := by
        rw [Nat.mul_mul_mul_comm, Nat.mul_comm p' (i + 1), Nat.mul_comm q' d]
    _ = ((b - i) * p) * ((k - i) * q) := by rw [h1, h2]
    _ = p * q * ((b - i) * (k - i)) := by rw [Nat.mul_comm (b - i) p, Nat.mul_comm (k - i) q, Nat.mul_mul_mul_comm]
theorem tN_le {b g k i : Nat} : tN b g k i ≤ 2 ^ (b + g) := by
  unfold tN
  split
  · rw [Nat.pow_add]
    exact Nat.mul_le_mul (cnk_le _ _) (cnk_le _ _)
  · exact Nat.zero_le _
theorem sumT_le {b g k : Nat} : ∀ m, sumT b g k m ≤ m * 2 ^ (b + g)
  | 0 => by simp [sumT]
  | m + 1 => by
    have h1 := sumT_le (b := b) (g := g) (k := k) m
    have h2 := tN_le (b := b) (g := g) (k := k) (i := m)
    rw [sumT, Nat.add_mul, Nat.one_mul]; omega
theorem bb_two (k : Nat) : ((2 ^ (32 * k) : Nat) : Int) = BB ^ k := by
  have : (4294967296 : Int) = ((2 ^ 32 : Nat) : Int) := by decide
  rw [show BB = ((2 ^ 32 : Nat) : Int) from this, ← Int.natCast_pow, ← Nat.pow_mul]
theorem pow_bb {x n k : Nat} (hx : x ≤ 2 ^ n) (hn : n < 32 * k) : (x : Int) < BB ^ k := by
  have : 2 ^ n < 2 ^ (32 * k) := Nat.pow_lt_pow_right (by omega) hn
  rw [← bb_two]; omega
theorem sumT_bb {b g k m : Nat} (h : b + g ≤ 512) (hm : m ≤ 1000) : ((sumT b g k m : Nat) : Int) < BB ^ 17 := by
  have h1 := sumT_le (b := b) (g := g) (k := k) m
  have h3 : m * 2 ^ (b + g) ≤ 2 ^ 10 * 2 ^ (b + g) := Nat.mul_le_mul_right _ (by omega)
  rw [← Nat.pow_add] at h3
  exact pow_bb (Nat.le_trans h1 h3) (by omega)

theorem in_step {x : Int} {up down : Int} (hu : 0 ≤ up ∧ up ≤ 4294967295) (hd : 0 < down ∧ down ≤ 4294967295) : In1 32 x 100000 [.int .i64 up, .int .i64 down] (UpN (x * up / down)) := fun κ l h1 h2 h3 h4 =>
  ⟨_, (step_fresh κ l h1 h2 h3 hu hd).mono fun v H h => by rw [h4] at h; exact fresh_up h⟩
section
variable {f : FuncId} {x z : Int} {k m n0 : Nat} {u : AV} {rest : List AV} {K : St → AHeap → Prop} {d : Option Nat} {s : St} {H : AHeap} {L : List (AV × Int × Nat)}
theorem hs_N1 (h : In1 f x k rest (UpN z)) (hr : rest.all AV.flat = true) (hL : Has n0 H L) (hu : (u, x, m) ∈ L) (hm : m ≤ k) {b : Nat} (hb : z < BB ^ b) (hK : ∀ H' w, Has n0 H' ((w, z, b) :: L) → AtN H' w z → (∀ w2 z2, AtN H w2 z2 → AtN H' w2 z2) → K (putI d s w) H') : thenC Tryd.prog K d s H (u :: rest) (.func f []) := by
  obtain ⟨a, ha⟩ := hL.nums _ hu
  refine call_in1 h hr (ha.mono hm) (hk_N fun R w hw => ?_)
  obtain ⟨row, hr⟩ := hL.app (R := R) |>.z
  refine hK _ _ (hL.app.cons hw hb) (hw.norm hr) fun w2 z2 ⟨κ, l, row2, r, h1, h2, h3, h4⟩ => ⟨κ, l, row2, r, h1, h2, by rw [rowAt_append_left (rowAt_lt h3)]; exact h3, h4⟩
/-- choose, in a heap that has a row. -/
theorem hs_choose {n j : Nat} (hn : n ≤ 512) (hj : j ≤ 512) (hL : Has n0 H L) (hK : ∀ H' w, Has n0 H' ((w, ((cnk n j : Nat) : Int), 17) :: L) → K (putI d s w) H') : thenC Tryd.prog K d s H [.int .i64 (n : Int), .int .i64 (j : Int)] (.func 14 []) := by
  refine call_fresh (choose_fresh n j (by omega) (by omega) (by omega)) [] rfl rfl rfl rfl trivial fun κ l row hn' => ?_
  rw [cI_nat] at hn'
  exact hK _ _ (hL.app.cons (.new (by simp [Vh.rowAt]) (Nat.le_refl _) hn') (pow_bb (cnk_le n j) (by omega)))
/-- choose, in an empty heap. -/
theorem hs_choose0 {n j : Nat} (hn : n ≤ 512) (hj : j ≤ 512) (hK : ∀ H' w, Has 0 H' [(w, ((cnk n j : Nat) : Int), 17)] → K (putI d s w) H') : thenC Tryd.prog K d s [] [.int .i64 (n : Int), .int .i64 (j : Int)] (.func 14 []) := by
  refine call_fresh (choose_fresh n j (by omega) (by omega) (by omega)) [] rfl rfl rfl rfl trivial fun κ l row hn' => ?_
  rw [cI_nat] at hn'
  have h0 : Has 0 ([] ++ [some row]) [] := ⟨Nat.zero_le _, ⟨row, rfl⟩, fun p hp => by cases hp⟩
  exact hK _ _ (h0.cons (.new (by simp [Vh.rowAt]) (Nat.le_refl _) hn') (pow_bb (cnk_le n j) (by omega)))
end
theorem p_min3 {s : St} {x y z : Opd} {a b c : Int} (hx : evo s x = .int .i64 a) (hy : evo s y = .int .i64 b) (hz : evo s z = .int .i64 c) : ipure (.minmaxL false [x, y, z]) s = some (.int .i64 (min a (min b c))) := by
  simp only [ipure, List.map_cons, List.map_nil, hx, hy, hz, amms, List.foldlM_cons, List.foldlM_nil, amm, Bool.false_eq_true, if_false, Option.bind_eq_bind, Option.bind_some, Option.pure_def]
  congr 2
  split <;> split <;> omega

/-- what samplesWith answers -/
def wN (b g k : Nat) (seen : Int) : Nat := sumT b g k (seen + 1).toNat
theorem wN_most {b g k : Nat} {seen : Int} (h0 : 0 ≤ seen) : wN b g k seen = sumT b g k (min seen (min (b : Int) (k : Int))).toNat.succ := by
  unfold wN
  rcases Int.lt_or_le (min (b : Int) (k : Int)) seen with h | h
  · obtain ⟨n, hn⟩ : ∃ n : Nat, min (b : Int) (k : Int) = n := ⟨(min (b : Int) (k : Int)).toNat, by omega⟩
    rw [show (min seen (min (b : Int) (k : Int))).toNat.succ = n + 1 by omega]
    exact sumT_high (by omega) (by omega)
  · rw [show (min seen (min (b : Int) (k : Int))).toNat.succ = (seen + 1).toNat by omega]
end Go.Proofs.YtpkeneadkiabiabDoor



/- Contracts: exact's samplesWith, its walk. -/
-- NEWSET
namespace Go.Proofs.YtpkeneadkiabiabDoor
open Go Go.Vh

theorem b_mulN {a b c : Nat} {x y : Int} (hx : x = (a : Int)) (hy : y = (b : Int)) (h : a * b = c) (hc : c ≤ 9223372036854775807) : abin .mul (.int .i64 x) (.int .i64 y) = some (.int .i64 (c : Int)) := by
  subst hx; subst hy; subst h
  rw [b_mul, w64 (by rw [← Int.natCast_mul]; omega) (by rw [← Int.natCast_mul]; omega), Int.natCast_mul]

section
variable {f : FuncId} {x y z : Int} {k k' m m' n0 : Nat} {u v : AV} {K : St → AHeap → Prop} {d : Option Nat} {s : St} {H : AHeap} {L : List (AV × Int × Nat)}
theorem hs_NV (h : In2 f x y k k' [] (UpN z)) (hL : Has n0 H L) (hu : (u, x, m) ∈ L) (hv : (v, y, m') ∈ L) (hm : m ≤ k) (hm' : m' ≤ k') {b : Nat} (hb : z < BB ^ b) (hK : ∀ H' w, Has n0 H' ((w, z, b) :: L) → NumV H' w z 0 → K (putI d s w) H') : thenC Tryd.prog K d s H [u, v] (.func f []) := by
  obtain ⟨a, ha⟩ := hL.nums _ hu
  obtain ⟨a', ha'⟩ := hL.nums _ hv
  refine call_in2 h rfl (ha.mono hm) (ha'.mono hm') (hk_N fun R w hw => ?_)
  exact hK _ _ (hL.app.cons hw hb) (hw.le (Nat.zero_le _))
theorem Has.sub {L' : List (AV × Int × Nat)} (h : Has n0 H L) (hs : ∀ p ∈ L', p ∈ L) : Has n0 H L' := ⟨h.len, h.z, fun p hp => h.nums p (hs p hp)⟩
end

set_option maxHeartbeats 1000000 in
theorem samplesWith_calls (b g k : Nat) (seen : Int) (hbg : b + g ≤ 512) (hk : k ≤ b + g) (hs0 : -9223372036854775808 ≤ seen) (hs1 : seen ≤ 9223372036854775807) :
    ACalls Tryd.prog 13 [.int .i64 ((b + g : Nat) : Int), .int .i64 (b : Int), .int .i64 (k : Int), .int .i64 seen] [] (List.range 0) (UpN ((wN b g k seen : Nat) : Int) []) := by
  refine ACalls.body Tryd.func13 ent_samplesWith ir_samplesWith_ok rs_samplesWith_ok Tryd.ntmps13 (by simp) rfl ?_
  unfold ir_samplesWith
  have e0 : s0 [.int .i64 ((b + g : Nat) : Int), .int .i64 (b : Int), .int .i64 (k : Int), .int .i64 seen] 0 = .int .i64 ((b + g : Nat) : Int) := rfl
  have e1 : s0 [.int .i64 ((b + g : Nat) : Int), .int .i64 (b : Int), .int .i64 (k : Int), .int .i64 seen] 1 = .int .i64 (b : Int) := rfl
  have e2 : s0 [.int .i64 ((b + g : Nat) : Int), .int .i64 (b : Int), .int .i64 (k : Int), .int .i64 seen] 2 = .int .i64 (k : Int) := rfl
  have e3 : s0 [.int .i64 ((b + g : Nat) : Int), .int .i64 (b : Int), .int .i64 (k : Int), .int .i64 seen] 3 = .int .i64 seen := rfl
  have hgood : ((b + g : Nat) : Int) - (b : Int) = (g : Int) := by omega
  simp -implicitDefEqProofs (disch := omega) only [sN, ↓reduceIte, Nat.reduceEqDiff, Nat.reduceAdd, Nat.reduceMul, Nat.reduceSub, reduceCtorEq, e_none, e_some, e_bindS, e0, e1, e2, e3, hgood]
  obtain ⟨lo, hlo⟩ : ∃ lo : Nat, k - g = lo := ⟨_, rfl⟩
  rw [p_minmax (k := .i64) (k' := .i64) (a := 0) (b := (k : Int) - (g : Int)) (by simp only [e_upd, e_putS, e_putN, e_t, e_c, Nat.reduceEqDiff, ↓reduceIte, reduceCtorEq, Nat.reduceAdd]) (by simp only [e_upd, e_putS, e_putN, e_t, e_c, Nat.reduceEqDiff, ↓reduceIte, reduceCtorEq, Nat.reduceAdd])]
  have hmax : (if true = true then (if (k : Int) - (g : Int) > 0 then (k : Int) - (g : Int) else 0) else (if (k : Int) - (g : Int) < 0 then (k : Int) - (g : Int) else 0)) = (lo : Int) := by
    simp only [if_true]
    split <;> omega
  rw [hmax]
  simp -implicitDefEqProofs (disch := omega) only [sN, ↓reduceIte, Nat.reduceEqDiff, Nat.reduceAdd, Nat.reduceMul, Nat.reduceSub, reduceCtorEq, e_none, e_some, e_bindS, e0, e1, e2, e3]
  rw [p_min3 (a := seen) (b := (b : Int)) (c := (k : Int)) (by simp only [e_upd, e_putS, e_putN, e_t, e_c, Nat.reduceEqDiff, ↓reduceIte, reduceCtorEq, Nat.reduceAdd]) (by simp only [e_upd, e_putS, e_putN, e_t, e_c, Nat.reduceEqDiff, ↓reduceIte, reduceCtorEq, Nat.reduceAdd]) (by simp only [e_upd, e_putS, e_putN, e_t, e_c, Nat.reduceEqDiff, ↓reduceIte, reduceCtorEq, Nat.reduceAdd])]
  obtain ⟨mo, hmo⟩ : ∃ mo : Int, min seen (min (b : Int) (k : Int)) = mo := ⟨_, rfl⟩
  rw [hmo]
  by_cases hlt : mo < (lo : Int)
  · simp -implicitDefEqProofs (disch := omega) only [sN, ↓reduceIte, Nat.reduceEqDiff, Nat.reduceAdd, Nat.reduceMul, Nat.reduceSub, reduceCtorEq, e_none, e_some, e_bindS]
    refine ret_keep (by simp) ⟨[], rfl, ?_⟩
    have hz : wN b g k seen = 0 := by
      rcases Int.lt_or_le seen 0 with h | h
      · unfold wN; rw [show (seen + 1).toNat = 0 by omega]; rfl
      · rw [wN_most h, hmo]
        exact sumT_low (by omega)
    rw [hz]
    simp only [q_tmp, q_then, e_upd, e_putS, e_putN, e_t, e_c, Nat.reduceEqDiff, ↓reduceIte, reduceCtorEq, Nat.reduceAdd]
    exact .nil
  · have hs : 0 ≤ seen := by omega
    have hw := wN_most (b := b) (g := g) (k := k) hs
    rw [hmo] at hw
    obtain ⟨m, rfl⟩ : ∃ m : Nat, mo = m := ⟨mo.toNat, by omega⟩
    rw [show (m : Int).toNat.succ = m + 1 by simp] at hw
    have i1 : (k : Int) - (lo : Int) = ((k - lo : Nat) : Int) := by omega
    simp -implicitDefEqProofs (disch := omega) only [sN, ↓reduceIte, Nat.reduceEqDiff, Nat.reduceAdd, Nat.reduceMul, Nat.reduceSub, reduceCtorEq, e_none, e_some, e_bindS, e0, e1, e2, e3, i1, List.map_cons, List.map_nil]
    refine hs_choose0 (n := b) (j := lo) (by omega) (by omega) ?_
    intro H1 w1 h1
    simp -implicitDefEqProofs (disch := omega) only [sN, ↓reduceIte, Nat.reduceEqDiff, Nat.reduceAdd, Nat.reduceMul, Nat.reduceSub, reduceCtorEq, e_none, e_some, e_bindS, e0, e1, e2, e3, i1, List.map_cons, List.map_nil]
    refine hs_choose (n := g) (j := k - lo) (by omega) (by omega) h1 ?_
    intro H2 w2 h2
    simp -implicitDefEqProofs (disch := omega) only [sN, ↓reduceIte, Nat.reduceEqDiff, Nat.reduceAdd, Nat.reduceMul, Nat.reduceSub, reduceCtorEq, e_none, e_some, e_bindS, e0, e1, e2, e3, i1, List.map_cons, List.map_nil]
    have hT : ((cnk b lo : Nat) : Int) * ((cnk g (k - lo) : Nat) : Int) = ((tN b g k lo : Nat) : Int) := by
      unfold tN; rw [if_pos (by omega)]; simp
    have htb : ∀ i, ((tN b g k i : Nat) : Int) < BB ^ 17 := fun i => pow_bb tN_le (by omega)
    refine hs_NV in_mul h2 (.tail _ (.head _)) (.head _) (by omega) (by omega) (b := 17) (by rw [hT]; exact htb lo) ?_
    intro H3 w3 h3 n3
    rw [hT] at h3 n3
    simp -implicitDefEqProofs (disch := omega) only [sN, ↓reduceIte, Nat.reduceEqDiff, Nat.reduceAdd, Nat.reduceMul, Nat.reduceSub, reduceCtorEq, e_none, e_some, e_bindS, e0, e1, e2, e3]
    refine ⟨fun t s H => ∃ (i : Nat) (wc ws : AV), lo ≤ i ∧ i ≤ m ∧ t = m - i ∧ Has 0 H [(wc, ((tN b g k i : Nat) : Int), 17), (ws, ((sumT b g k (i + 1) : Nat) : Int), 17)] ∧ NumV H ws ((sumT b g k (i + 1) : Nat) : Int) 0 ∧ s 1 = .int .i64 (b : Int) ∧ s 2 = .int .i64 (k : Int) ∧ s 9 = .int .i64 (g : Int) ∧ s 11 = .int .i64 (m : Int) ∧ s 12 = wc ∧ s 13 = ws ∧ s 14 = .int .i64 (i : Int), m - lo, ⟨lo, w3, w3, by omega, by omega, rfl, ?_, ?_, ?_, ?_, ?_, ?_, ?_, ?_, ?_⟩, ?_⟩
    · have hs3 : sumT b g k (lo + 1) = tN b g k lo := by
        rw [sumT]
        rcases Nat.lt_or_ge k g with h | h
        · rw [show lo = 0 by omega]; simp [sumT]
        · rw [sumT_low (by omega), Nat.zero_add]
      rw [hs3]
      exact h3.sub fun p hp => by
        simp only [List.mem_cons, List.not_mem_nil, or_false] at hp
        rcases hp with rfl | rfl <;> exact .head _
    · have hs3 : sumT b g k (lo + 1) = tN b g k lo := by
        rw [sumT]
        rcases Nat.lt_or_ge k g with h | h
        · rw [show lo = 0 by omega]; simp [sumT]
        · rw [sumT_low (by omega), Nat.zero_add]
      rw [hs3]; exact n3
    · simp only [e_upd, e_putS, e_putN, e_t, e_c, Nat.reduceEqDiff, ↓reduceIte, reduceCtorEq, Nat.reduceAdd, e1]
    · simp only [e_upd, e_putS, e_putN, e_t, e_c, Nat.reduceEqDiff, ↓reduceIte, reduceCtorEq, Nat.reduceAdd, e2]
    · simp only [e_upd, e_putS, e_putN, e_t, e_c, Nat.reduceEqDiff, ↓reduceIte, reduceCtorEq, Nat.reduceAdd]
    · simp only [e_upd, e_putS, e_putN, e_t, e_c, Nat.reduceEqDiff, ↓reduceIte, reduceCtorEq, Nat.reduceAdd]
    · simp only [e_upd, e_putS, e_putN, e_t, e_c, Nat.reduceEqDiff, ↓reduceIte, reduceCtorEq, Nat.reduceAdd]
    · simp only [e_upd, e_putS, e_putN, e_t, e_c, Nat.reduceEqDiff, ↓reduceIte, reduceCtorEq, Nat.reduceAdd]
    · simp only [e_upd, e_putS, e_putN, e_t, e_c, Nat.reduceEqDiff, ↓reduceIte, reduceCtorEq, Nat.reduceAdd]
    rintro t s H ⟨i, wc, ws, hi1, hi2, rfl, hL, hn, t1, t2, t9, t11, t12, t13, t14⟩
    by_cases him : i < m
    · have hib : i < b ∧ i < k := by omega
      have hst := tN_step (b := b) (g := g) (k := k) (i := i) hib.1 hib.2 (by omega)
      obtain ⟨up, hup⟩ : ∃ up, (b - i) * (k - i) = up := ⟨_, rfl⟩
      obtain ⟨dn, hdn⟩ : ∃ dn, (i + 1) * (g + i + 1 - k) = dn := ⟨_, rfl⟩
      have hup1 : up ≤ 512 * 512 := hup ▸ Nat.mul_le_mul (by omega) (by omega)
      have hdn1 : dn ≤ 513 * 1025 := hdn ▸ Nat.mul_le_mul (by omega) (by omega)
      have hdn0 : 0 < dn := hdn ▸ Nat.mul_pos (by omega) (by omega)
      rw [hup, hdn] at hst
      have hm1 : abin .mul (.int .i64 ((b : Int) - (i : Int))) (.int .i64 ((k : Int) - (i : Int))) = some (.int .i64 (up : Int)) := b_mulN (a := b - i) (b := k - i) (by omega) (by omega) hup (by omega)
      have hm2 : abin .mul (.int .i64 ((i : Int) + 1)) (.int .i64 ((g : Int) - (k : Int) + (i : Int) + 1)) = some (.int .i64 (dn : Int)) := b_mulN (a := i + 1) (b := g + i + 1 - k) (by omega) (by omega) hdn (by omega)
      have hq : ((tN b g k i : Nat) : Int) * (up : Int) / (dn : Int) = ((tN b g k (i + 1) : Nat) : Int) := by
        rw [← Int.natCast_mul, ← hst, ← Int.natCast_ediv, Nat.mul_div_cancel _ hdn0]
      simp -implicitDefEqProofs (disch := omega) only [sN, ↓reduceIte, Nat.reduceEqDiff, Nat.reduceAdd, Nat.reduceMul, Nat.reduceSub, reduceCtorEq, e_none, e_some, e_bindS, t1, t2, t9, t11, t12, t13, t14, hm1, hm2, List.map_cons, List.map_nil]
      refine hs_N1 (in_step (x := ((tN b g k i : Nat) : Int)) (up := (up : Int)) (down := (dn : Int)) (by omega) (by omega)) rfl hL (.head _) (by omega) (b := 17) (by rw [hq]; exact htb (i + 1)) ?_
      intro H4 w4 h4 n4 k4
      rw [hq] at h4 n4
      simp -implicitDefEqProofs (disch := omega) only [sN, ↓reduceIte, Nat.reduceEqDiff, Nat.reduceAdd, Nat.reduceMul, Nat.reduceSub, reduceCtorEq, e_none, e_some, e_bindS, t1, t2, t9, t11, t12, t13, t14, List.map_cons, List.map_nil]
      have hsum : ((sumT b g k (i + 1) : Nat) : Int) + ((tN b g k (i + 1) : Nat) : Int) = ((sumT b g k (i + 1 + 1) : Nat) : Int) := (Int.natCast_add _ _).symm
      refine hs_NV (in_add (x := ((sumT b g k (i + 1) : Nat) : Int)) (y := ((tN b g k (i + 1) : Nat) : Int))) h4 (.tail _ (.tail _ (.head _))) (.head _) (by omega) (by omega) (b := 17) (by rw [hsum]; exact sumT_bb (by omega) (by omega)) ?_
      intro H5 w5 h5 n5
      rw [hsum] at h5 n5
      simp -implicitDefEqProofs (disch := omega) only [sN, ↓reduceIte, Nat.reduceEqDiff, Nat.reduceAdd, Nat.reduceMul, Nat.reduceSub, reduceCtorEq, e_none, e_some, e_bindS, t1, t2, t9, t11, t12, t13, t14]
      refine loop_keep (m := m - (i + 1)) (by omega) ⟨i + 1, w4, w5, by omega, by omega, rfl, ?_, n5, ?_, ?_, ?_, ?_, ?_, ?_, ?_⟩
      · exact h5.sub fun p hp => by
          simp only [List.mem_cons, List.not_mem_nil, or_false] at hp
          rcases hp with rfl | rfl
          · exact .tail _ (.head _)
          · exact .head _
      · simp only [e_upd, e_putS, e_putN, e_t, e_c, Nat.reduceEqDiff, ↓reduceIte, reduceCtorEq, Nat.reduceAdd, t1]
      · simp only [e_upd, e_putS, e_putN, e_t, e_c, Nat.reduceEqDiff, ↓reduceIte, reduceCtorEq, Nat.reduceAdd, t2]
      · simp only [e_upd, e_putS, e_putN, e_t, e_c, Nat.reduceEqDiff, ↓reduceIte, reduceCtorEq, Nat.reduceAdd, t9]
      · simp only [e_upd, e_putS, e_putN, e_t, e_c, Nat.reduceEqDiff, ↓reduceIte, reduceCtorEq, Nat.reduceAdd, t11]
      · simp only [e_upd, e_putS, e_putN, e_t, e_c, Nat.reduceEqDiff, ↓reduceIte, reduceCtorEq, Nat.reduceAdd]
      · simp only [e_upd, e_putS, e_putN, e_t, e_c, Nat.reduceEqDiff, ↓reduceIte, reduceCtorEq, Nat.reduceAdd]
      · simp only [e_upd, e_putS, e_putN, e_t, e_c, Nat.reduceEqDiff, ↓reduceIte, reduceCtorEq, Nat.reduceAdd]; first | done | rfl
    · obtain rfl : i = m := by omega
      simp -implicitDefEqProofs (disch := omega) only [sN, ↓reduceIte, Nat.reduceEqDiff, Nat.reduceAdd, Nat.reduceMul, Nat.reduceSub, reduceCtorEq, e_none, e_some, e_bindS, t1, t2, t9, t11, t12, t13, t14]
      refine ret_keep (by simp) ⟨H, rfl, ?_⟩
      rw [hw]
      simp only [q_tmp, q_then, e_upd, e_putS, e_putN, e_t, e_c, Nat.reduceEqDiff, ↓reduceIte, reduceCtorEq, Nat.reduceAdd]
      exact hn
end Go.Proofs.YtpkeneadkiabiabDoor



/- Contracts: exact's Tail. -/
-- NEWSET
namespace Go.Proofs.YtpkeneadkiabiabDoor
open Go Go.Vh

/-- within, in any heap -/
theorem call_within {n m : Int} {b : Bool} {K : St → AHeap → Prop} {d : Option Nat} {s : St} {H : AHeap} (hb : decide (0 ≤ n ∧ n ≤ m) = b) (hK : K (putI d s (.bool b)) H) : thenC Tryd.prog K d s H [.int .i64 n, .int .i64 m] (.func 11 []) :=
  call_sc (within_calls n m) rfl rfl (fun _ => rfl) (by rw [hb]; exact hK)

/-- what Tail answers: the numbers, and the error's number -/
def tlOK (total bad sample : Int) : Prop := 0 ≤ total ∧ total ≤ 512 ∧ 0 ≤ bad ∧ bad ≤ total ∧ 0 ≤ sample ∧ sample ≤ total
instance (total bad sample : Int) : Decidable (tlOK total bad sample) := by unfold tlOK; infer_instance
def tlW (total bad sample seen : Int) : Int := ((wN bad.toNat (total - bad).toNat sample.toNat seen : Nat) : Int)
def tlC (total sample : Int) : Int := ((cnk total.toNat sample.toNat : Nat) : Int)
def tlE (total bad sample seen : Int) : Int := if tlOK total bad sample then redE (tlW total bad sample seen) (tlC total sample) else 3
def tlN (total bad sample seen : Int) : Int := if tlE total bad sample seen = 0 then redX (tlW total bad sample seen) (tlC total sample) else 0
def tlD (total bad sample seen : Int) : Int := if tlE total bad sample seen = 0 then redX (tlC total sample) (tlW total bad sample seen) else 0

section
variable {P : Program} {f : FuncId} {args0 : List AV} {K : St → AHeap → Prop} {d : Option Nat} {s : St} {H : AHeap} {Q : AHeap → AV → AHeap → Prop}
/-- A call with plain arguments. -/
theorem call_in0 {W : List Nat} (h : ACalls P f args0 [] W (Q [])) (hf : args0.all AV.flat = true)
    (hK : ∀ (σ : List (Nat × Nat)) (H0 : AHeap) (v0 : AV) (H0' : AHeap), σ.length = H0.length → allRo H0 = true → Q H0 v0 H0' → K (putI d s (v0.ren (sig σ H.length))) (H ++ (H0'.drop H0.length).map (renRow (sig σ H.length)))) : thenC P K d s H args0 (.func f []) := by
  refine call_do h [] rfl (flatL_under hf) rfl (by rw [List.append_nil, flatL_ren hf]) trivial fun v0 H0' hq => ?_
  have := hK [] [] v0 H0' rfl rfl hq
  rw [m_merge, m_nil]
  exact this
end
theorem choose_up {n j : Nat} (hn : n ≤ 512) (hj : j ≤ 512) : ACalls Tryd.prog 14 [.int .i64 (n : Int), .int .i64 (j : Int)] [] [] (UpN ((cnk n j : Nat) : Int) []) :=
  (choose_fresh n j (by omega) (by omega) (by omega)).mono fun v H h => by rw [cI_nat] at h; exact fresh_up h
theorem cnk_pos2 : ∀ n k, k ≤ n → 0 < cnk n k
  | n, 0, _ => by rw [cnk_zero]; omega
  | 0, k + 1, h => by omega
  | n + 1, k + 1, h => by
    have := cnk_pos2 n k (by omega)
    simp only [cnk]; omega
theorem In2.app {f : FuncId} {x y : Int} {k k' : Nat} {rest : List AV} {Q : AHeap → AV → AHeap → Prop} (h : In2 f x y k k' rest Q) : In2 f x y k k' rest Q := h

set_option maxHeartbeats 1000000 in
theorem xTail_calls (total bad sample seen : Int) (h0 : -9223372036854775808 ≤ total ∧ total ≤ 9223372036854775807) (h1 : -9223372036854775808 ≤ bad ∧ bad ≤ 9223372036854775807) (h2 : -9223372036854775808 ≤ sample ∧ sample ≤ 9223372036854775807) (h3 : -9223372036854775808 ≤ seen ∧ seen ≤ 9223372036854775807) :
    ACalls Tryd.prog 5 [.int .i64 total, .int .i64 bad, .int .i64 sample, .int .i64 seen] [] (List.range 0) (UpF (tlN total bad sample seen) (tlD total bad sample seen) (tlE total bad sample seen) []) := by
  refine ACalls.body Tryd.func5 ent_xTail ir_xTail_ok rs_xTail_ok Tryd.ntmps5 (by simp) rfl ?_
  unfold ir_xTail
  have e0 : s0 [.int .i64 total, .int .i64 bad, .int .i64 sample, .int .i64 seen] 0 = .int .i64 total := rfl
  have e1 : s0 [.int .i64 total, .int .i64 bad, .int .i64 sample, .int .i64 seen] 1 = .int .i64 bad := rfl
  have e2 : s0 [.int .i64 total, .int .i64 bad, .int .i64 sample, .int .i64 seen] 2 = .int .i64 sample := rfl
  have e3 : s0 [.int .i64 total, .int .i64 bad, .int .i64 sample, .int .i64 seen] 3 = .int .i64 seen := rfl
  have hz : [AV.nilslice, AV.nilslice].all AV.cell = true := rfl
  simp -implicitDefEqProofs (disch := omega) only [sN, ↓reduceIte, Nat.reduceEqDiff, Nat.reduceAdd, Nat.reduceMul, Nat.reduceSub, reduceCtorEq, e_none, e_some, e_bindS, e0, e1, e2, e3]
  rw [x_allocA hz]
  simp -implicitDefEqProofs (disch := omega) only [sN, ↓reduceIte, Nat.reduceEqDiff, Nat.reduceAdd, Nat.reduceMul, Nat.reduceSub, reduceCtorEq, e_none, e_some, e_bindS, e0, e1, e2, e3, List.map_cons, List.map_nil]
  refine call_within rfl ?_
  by_cases hok : tlOK total bad sample
  · have g1 : decide (0 ≤ total ∧ total ≤ 512) = true := by rw [decide_eq_true_eq]; exact ⟨hok.1, hok.2.1⟩
    have g2 : decide (0 ≤ bad ∧ bad ≤ total) = true := by rw [decide_eq_true_eq]; exact ⟨hok.2.2.1, hok.2.2.2.1⟩
    have g3 : decide (0 ≤ sample ∧ sample ≤ total) = true := by rw [decide_eq_true_eq]; exact ⟨hok.2.2.2.2.1, hok.2.2.2.2.2⟩
    simp -implicitDefEqProofs (disch := omega) only [sN, ↓reduceIte, Nat.reduceEqDiff, Nat.reduceAdd, Nat.reduceMul, Nat.reduceSub, reduceCtorEq, e_none, e_some, e_bindS, e0, e1, e2, e3, g1, List.map_cons, List.map_nil]
    refine call_within g2 ?_
    simp -implicitDefEqProofs (disch := omega) only [sN, ↓reduceIte, Nat.reduceEqDiff, Nat.reduceAdd, Nat.reduceMul, Nat.reduceSub, reduceCtorEq, e_none, e_some, e_bindS, e0, e1, e2, e3, List.map_cons, List.map_nil]
    refine call_within g3 ?_
    simp -implicitDefEqProofs (disch := omega) only [sN, ↓reduceIte, Nat.reduceEqDiff, Nat.reduceAdd, Nat.reduceMul, Nat.reduceSub, reduceCtorEq, e_none, e_some, e_bindS, e0, e1, e2, e3, List.map_cons, List.map_nil]
    obtain ⟨o1, o2, o3, o4, o5, o6⟩ := hok
    obtain ⟨b, rfl⟩ := Int.eq_ofNat_of_zero_le o3
    obtain ⟨g, hg⟩ : ∃ g : Nat, total - (b : Int) = g := ⟨(total - b).toNat, by omega⟩
    obtain ⟨k, rfl⟩ := Int.eq_ofNat_of_zero_le o5
    obtain rfl : total = ((b + g : Nat) : Int) := by omega
    have hsw := samplesWith_calls b g k seen (by omega) (by omega) h3.1 h3.2
    have ht1 : (b + g : Nat) ≤ 512 := by omega
    have hW : tlW ((b + g : Nat) : Int) (b : Int) (k : Int) seen = ((wN b g k seen : Nat) : Int) := by
      unfold tlW; rw [show (((b + g : Nat) : Int) - (b : Int)).toNat = g by omega]; rfl
    have hC : tlC ((b + g : Nat) : Int) (k : Int) = ((cnk (b + g) k : Nat) : Int) := rfl
    have hE : tlE ((b + g : Nat) : Int) (b : Int) (k : Int) seen = redE ((wN b g k seen : Nat) : Int) ((cnk (b + g) k : Nat) : Int) := by
      unfold tlE; rw [if_pos ⟨o1, o2, o3, o4, o5, o6⟩, hW, hC]
    have hNe : tlN ((b + g : Nat) : Int) (b : Int) (k : Int) seen = if redE ((wN b g k seen : Nat) : Int) ((cnk (b + g) k : Nat) : Int) = 0 then redX ((wN b g k seen : Nat) : Int) ((cnk (b + g) k : Nat) : Int) else 0 := by
      unfold tlN; rw [hE, hW, hC]
    have hDe : tlD ((b + g : Nat) : Int) (b : Int) (k : Int) seen = if redE ((wN b g k seen : Nat) : Int) ((cnk (b + g) k : Nat) : Int) = 0 then redX ((cnk (b + g) k : Nat) : Int) ((wN b g k seen : Nat) : Int) else 0 := by
      unfold tlD; rw [hE, hW, hC]
    rw [hE, hNe, hDe]
    have hcp := cnk_pos2 (b + g) k (by omega)
    have hwb : ((wN b g k seen : Nat) : Int) < BB ^ 17 := by
      unfold wN
      rcases Nat.lt_or_ge (seen + 1).toNat 1000 with h | h
      · exact sumT_bb ht1 (by omega)
      · rw [sumT_high (n := 1000) (by omega) h]
        exact sumT_bb ht1 (by omega)
    have hcb : ((cnk (b + g) k : Nat) : Int) < BB ^ 17 := pow_bb (cnk_le _ _) (by omega)
    refine call_in0 (Q := UpN _) hsw rfl (hk_N fun R1 w1 n1 => ?_)
    simp -implicitDefEqProofs (disch := omega) only [sN, ↓reduceIte, Nat.reduceEqDiff, Nat.reduceAdd, Nat.reduceMul, Nat.reduceSub, reduceCtorEq, e_none, e_some, e_bindS, e0, e1, e2, e3, List.map_cons, List.map_nil]
    refine call_in0 (Q := UpN _) (choose_up (n := b + g) (j := k) (by omega) (by omega)) rfl (hk_N fun R2 w2 n2 => ?_)
    simp -implicitDefEqProofs (disch := omega) only [sN, ↓reduceIte, Nat.reduceEqDiff, Nat.reduceAdd, Nat.reduceMul, Nat.reduceSub, reduceCtorEq, e_none, e_some, e_bindS, e0, e1, e2, e3, List.map_cons, List.map_nil]
    obtain ⟨r1, a1⟩ := (n1.app (R := R2)).at (row0 := ⟨true, false, [.nilslice, .nilslice]⟩) (k := 17) rfl hwb
    obtain ⟨r2, a2⟩ := n2.at (row0 := ⟨true, false, [.nilslice, .nilslice]⟩) (k := 17) rfl hcb
    refine call_in2 (in_reduced (x := ((wN b g k seen : Nat) : Int)) (y := ((cnk (b + g) k : Nat) : Int)) (by omega)) rfl (a1.mono (by omega)) (a2.mono (by omega)) (hk_F fun R3 w3 w4 n3 n4 => ?_)
    simp -implicitDefEqProofs (disch := omega) only [sN, ↓reduceIte, Nat.reduceEqDiff, Nat.reduceAdd, Nat.reduceMul, Nat.reduceSub, reduceCtorEq, e_none, e_some, e_bindS, List.getElem?_cons_zero, List.getElem?_cons_succ]
    have hH : [] ++ [rw_ [AV.nilslice, AV.nilslice]] ++ R1 ++ R2 ++ R3 = [rw_ [AV.nilslice, AV.nilslice]] ++ (R1 ++ R2 ++ R3) := by simp
    rw [hH] at n3 n4 ⊢
    rw [x_storeNA (n := 2) (r := 0) (l := [.nilslice, .nilslice]) (l' := [w3, w4]) (by simp only [e_upd, e_putS, e_putN, e_t, e_c, Nat.reduceEqDiff, ↓reduceIte, reduceCtorEq, Nat.reduceAdd]; rfl) (by simp only [e_upd, e_putS, e_putN, e_t, e_c, Nat.reduceEqDiff, ↓reduceIte, reduceCtorEq, Nat.reduceAdd]) (by simp [n3.cell, n4.cell]) rfl rfl rfl]
    simp -implicitDefEqProofs (disch := omega) only [sN, ↓reduceIte, Nat.reduceEqDiff, Nat.reduceAdd, Nat.reduceMul, Nat.reduceSub, reduceCtorEq, e_none, e_some, e_bindS]
    refine ret_keep (by simp) ?_
    rw [rs_xTail, ares_cell2 (r := 0) (row := ⟨true, false, [w3, w4]⟩) (l := [w3, w4]) (by simp only [e_upd, e_putS, e_putN, e_t, e_c, Nat.reduceEqDiff, ↓reduceIte, reduceCtorEq, Nat.reduceAdd]; rfl) rfl rfl rfl]
    have m3 := (n3.r (by simp)).v (B := [rw_ [w3, w4]])
    have m4 := (n4.r (by simp)).v (B := [rw_ [w3, w4]])
    refine ⟨[rw_ [w3, w4]] ++ (R1 ++ R2 ++ R3), w3, w4, rfl, ?_, m3.le (by simp), m4.le (by simp)⟩
    simp only [e_upd, e_putS, e_putN, e_t, e_c, Nat.reduceEqDiff, ↓reduceIte, reduceCtorEq, Nat.reduceAdd]
  · have hE : tlE total bad sample seen = 3 := by unfold tlE; rw [if_neg hok]
    have hNe : tlN total bad sample seen = 0 := by unfold tlN; rw [hE]; rfl
    have hDe : tlD total bad sample seen = 0 := by unfold tlD; rw [hE]; rfl
    rw [hE, hNe, hDe]
    by_cases c1 : 0 ≤ total ∧ total ≤ 512
    · have g1 : decide (0 ≤ total ∧ total ≤ 512) = true := by rw [decide_eq_true_eq]; exact c1
      simp -implicitDefEqProofs (disch := omega) only [sN, ↓reduceIte, Nat.reduceEqDiff, Nat.reduceAdd, Nat.reduceMul, Nat.reduceSub, reduceCtorEq, e_none, e_some, e_bindS, e0, e1, e2, e3, g1, List.map_cons, List.map_nil]
      refine call_within rfl ?_
      by_cases c2 : 0 ≤ bad ∧ bad ≤ total
      · have g2 : decide (0 ≤ bad ∧ bad ≤ total) = true := by rw [decide_eq_true_eq]; exact c2
        simp -implicitDefEqProofs (disch := omega) only [sN, ↓reduceIte, Nat.reduceEqDiff, Nat.reduceAdd, Nat.reduceMul, Nat.reduceSub, reduceCtorEq, e_none, e_some, e_bindS, e0, e1, e2, e3, g2, List.map_cons, List.map_nil]
        refine call_within rfl ?_
        have g3 : decide (0 ≤ sample ∧ sample ≤ total) = false := by
          rw [decide_eq_false_iff_not]; exact fun c3 => hok ⟨c1.1, c1.2, c2.1, c2.2, c3.1, c3.2⟩
        simp -implicitDefEqProofs (disch := omega) only [sN, ↓reduceIte, Nat.reduceEqDiff, Nat.reduceAdd, Nat.reduceMul, Nat.reduceSub, reduceCtorEq, e_none, e_some, e_bindS, e0, e1, e2, e3, g3, p_build, afill, List.map_cons, List.map_nil, Option.map_some]
        rw [x_storeNA (n := 2) (r := 0) (l := [.nilslice, .nilslice]) (l' := [.nilslice, .nilslice]) (by simp only [e_upd, e_putS, e_putN, e_t, e_c, Nat.reduceEqDiff, ↓reduceIte, reduceCtorEq, Nat.reduceAdd]; rfl) (by simp only [e_upd, e_putS, e_putN, e_t, e_c, Nat.reduceEqDiff, ↓reduceIte, reduceCtorEq, Nat.reduceAdd]) rfl rfl rfl rfl]
        simp -implicitDefEqProofs (disch := omega) only [sN, ↓reduceIte, Nat.reduceEqDiff, Nat.reduceAdd, Nat.reduceMul, Nat.reduceSub, reduceCtorEq, e_none, e_some, e_bindS]
        refine ret_keep (by simp) ?_
        rw [rs_xTail, ares_cell2 (r := 0) (row := ⟨true, false, [.nilslice, .nilslice]⟩) (l := [.nilslice, .nilslice]) (by simp only [e_upd, e_putS, e_putN, e_t, e_c, Nat.reduceEqDiff, ↓reduceIte, reduceCtorEq, Nat.reduceAdd]; rfl) rfl rfl rfl]
        refine ⟨_, .nilslice, .nilslice, rfl, ?_, .nil, .nil⟩
        simp only [e_upd, e_putS, e_putN, e_t, e_c, Nat.reduceEqDiff, ↓reduceIte, reduceCtorEq, Nat.reduceAdd]
      · have g2 : decide (0 ≤ bad ∧ bad ≤ total) = false := by rw [decide_eq_false_iff_not]; exact c2
        simp -implicitDefEqProofs (disch := omega) only [sN, ↓reduceIte, Nat.reduceEqDiff, Nat.reduceAdd, Nat.reduceMul, Nat.reduceSub, reduceCtorEq, e_none, e_some, e_bindS, e0, e1, e2, e3, g2, p_build, afill, List.map_cons, List.map_nil, Option.map_some]
        rw [x_storeNA (n := 2) (r := 0) (l := [.nilslice, .nilslice]) (l' := [.nilslice, .nilslice]) (by simp only [e_upd, e_putS, e_putN, e_t, e_c, Nat.reduceEqDiff, ↓reduceIte, reduceCtorEq, Nat.reduceAdd]; rfl) (by simp only [e_upd, e_putS, e_putN, e_t, e_c, Nat.reduceEqDiff, ↓reduceIte, reduceCtorEq, Nat.reduceAdd]) rfl rfl rfl rfl]
        simp -implicitDefEqProofs (disch := omega) only [sN, ↓reduceIte, Nat.reduceEqDiff, Nat.reduceAdd, Nat.reduceMul, Nat.reduceSub, reduceCtorEq, e_none, e_some, e_bindS]
        refine ret_keep (by simp) ?_
        rw [rs_xTail, ares_cell2 (r := 0) (row := ⟨true, false, [.nilslice, .nilslice]⟩) (l := [.nilslice, .nilslice]) (by simp only [e_upd, e_putS, e_putN, e_t, e_c, Nat.reduceEqDiff, ↓reduceIte, reduceCtorEq, Nat.reduceAdd]; rfl) rfl rfl rfl]
        refine ⟨_, .nilslice, .nilslice, rfl, ?_, .nil, .nil⟩
        simp only [e_upd, e_putS, e_putN, e_t, e_c, Nat.reduceEqDiff, ↓reduceIte, reduceCtorEq, Nat.reduceAdd]
    · have g1 : decide (0 ≤ total ∧ total ≤ 512) = false := by rw [decide_eq_false_iff_not]; exact c1
      simp -implicitDefEqProofs (disch := omega) only [sN, ↓reduceIte, Nat.reduceEqDiff, Nat.reduceAdd, Nat.reduceMul, Nat.reduceSub, reduceCtorEq, e_none, e_some, e_bindS, e0, e1, e2, e3, g1, p_build, afill, List.map_cons, List.map_nil, Option.map_some]
      rw [x_storeNA (n := 2) (r := 0) (l := [.nilslice, .nilslice]) (l' := [.nilslice, .nilslice]) (by simp only [e_upd, e_putS, e_putN, e_t, e_c, Nat.reduceEqDiff, ↓reduceIte, reduceCtorEq, Nat.reduceAdd]; rfl) (by simp only [e_upd, e_putS, e_putN, e_t, e_c, Nat.reduceEqDiff, ↓reduceIte, reduceCtorEq, Nat.reduceAdd]) rfl rfl rfl rfl]
      simp -implicitDefEqProofs (disch := omega) only [sN, ↓reduceIte, Nat.reduceEqDiff, Nat.reduceAdd, Nat.reduceMul, Nat.reduceSub, reduceCtorEq, e_none, e_some, e_bindS]
      refine ret_keep (by simp) ?_
      rw [rs_xTail, ares_cell2 (r := 0) (row := ⟨true, false, [.nilslice, .nilslice]⟩) (l := [.nilslice, .nilslice]) (by simp only [e_upd, e_putS, e_putN, e_t, e_c, Nat.reduceEqDiff, ↓reduceIte, reduceCtorEq, Nat.reduceAdd]; rfl) rfl rfl rfl]
      refine ⟨_, .nilslice, .nilslice, rfl, ?_, .nil, .nil⟩
      simp only [e_upd, e_putS, e_putN, e_t, e_c, Nat.reduceEqDiff, ↓reduceIte, reduceCtorEq, Nat.reduceAdd]
end Go.Proofs.YtpkeneadkiabiabDoor


