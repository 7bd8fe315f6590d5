/- Contracts: within, choose. -/
import Derived.Test.YthbhljolpnbdlaaV7
import Derived.Test.YthbhljolpnbdlaaPD
import Derived.Test.YthbhljolpnbdlaaPB
import Derived.Test.YthbhljolpnbdlaaV8
import Derived.Test.YthbhljolpnbdlaaChecked
import Derived.Test.YthbhljolpnbdlaaVX
import Derived.Test.YthbhljolpnbdlaaVY
set_option linter.unusedSimpArgs false
set_option linter.unusedVariables false
namespace Go.Proofs.Ythbhljolpnbdlaa.S1
open Go Go.Vh

theorem within_calls (n m : Int) : ACalls Try.prog 110 [.int .i64 n, .int .i64 m] [] [] fun v H => v = .bool (decide (0 ≤ n ∧ n ≤ m)) ∧ H = [] := by
  refine ACalls.body Try.func110 ent_within ir_within_ok rs_within_ok Try.ntmps110 (by simp) rfl ?_
  unfold ir_within
  have e0 : s0 [.int .i64 n, .int .i64 m] 0 = .int .i64 n := rfl
  have e1 : s0 [.int .i64 n, .int .i64 m] 1 = .int .i64 m := rfl
  by_cases h : 0 ≤ n
  · by_cases h2 : n ≤ m
    · simp (disch := omega) only [sS, ↓reduceIte, Nat.reduceEqDiff, Nat.reduceAdd, Nat.reduceMul, Nat.reduceSub, reduceCtorEq, e_none, e_some, e_bindS, e0, e1]
      exact ret_keep (by simp) ⟨by simp only [e_upd, ↓reduceIte, h, h2, and_self, decide_true], rfl⟩
    · simp (disch := omega) only [sS, ↓reduceIte, Nat.reduceEqDiff, Nat.reduceAdd, Nat.reduceMul, Nat.reduceSub, reduceCtorEq, e_none, e_some, e_bindS, e0, e1]
      exact ret_keep (by simp) ⟨by simp only [e_upd, ↓reduceIte, h, h2, and_false, decide_false], rfl⟩
  · simp (disch := omega) only [sS, ↓reduceIte, Nat.reduceEqDiff, Nat.reduceAdd, Nat.reduceMul, Nat.reduceSub, reduceCtorEq, e_none, e_some, e_bindS, e0, e1]
    exact ret_keep (by simp) ⟨by simp only [e_upd, ↓reduceIte, h, false_and, decide_false], rfl⟩

/-- C(n, k) -/
def cnk : Nat → Nat → Nat
  | _, 0 => 1
  | 0, _ + 1 => 0
  | n + 1, k + 1 => cnk n k + cnk n (k + 1)
theorem cnk_zero (n : Nat) : cnk n 0 = 1 := by cases n <;> rfl
theorem cnk_over : ∀ n k, n < k → cnk n k = 0
  | _, 0, h => by omega
  | 0, k + 1, _ => rfl
  | n + 1, k + 1, h => by simp only [cnk]; rw [cnk_over n k (by omega), cnk_over n (k + 1) (by omega)]
theorem cnk_next : ∀ n k, k ≤ n → (k + 1) * cnk n (k + 1) = (n - k) * cnk n k
  | 0, k, h => by obtain rfl : k = 0 := by omega
                  simp [cnk]
  | n + 1, 0, _ => by
    have := cnk_next n 0 (by omega)
    simp only [cnk, cnk_zero] at this ⊢
    omega
  | n + 1, k + 1, h => by
    rcases Nat.eq_or_lt_of_le h with e | e
    · obtain rfl : k = n := by omega
      rw [cnk_over (k + 1) (k + 1 + 1) (by omega)]; simp
    · have h1 := cnk_next n k (by omega)
      have h2 := cnk_next n (k + 1) (by omega)
      simp only [cnk]
      have e1 : n + 1 - (k + 1) = n - k := by omega
      have e2 : n - k = (n - (k + 1)) + 1 := by omega
      rw [e1]
      rw [e2] at h1 ⊢
      generalize n - (k + 1) = r at *
      generalize cnk n k = p at *
      generalize cnk n (k + 1) = q at *
      generalize cnk n (k + 1 + 1) = t at *
      have e3 : (k + 1 + 1) * (q + t) = (k + 1) * q + q + (k + 1 + 1) * t := by rw [Nat.mul_add, Nat.add_mul (k + 1) 1 q, Nat.one_mul]
      have e4 : (r + 1) * (p + q) = (r + 1) * p + (r * q + q) := by rw [Nat.mul_add, Nat.add_mul r 1 q, Nat.one_mul]
      rw [e3, e4]
      omega
theorem cnk_sym : ∀ n k, k ≤ n → cnk n k = cnk n (n - k)
  | 0, 0, _ => rfl
  | n + 1, 0, _ => by
    have h : ∀ m, cnk m m = 1 := by
      intro m
      induction m with
      | zero => rfl
      | succ m ih => simp only [cnk]; rw [ih, cnk_over m (m + 1) (by omega)]
    rw [cnk_zero, Nat.sub_zero, h]
  | n + 1, k + 1, h => by
    rcases Nat.eq_or_lt_of_le h with e | e
    · rw [show n + 1 - (k + 1) = 0 by omega, cnk_zero]
      obtain rfl : k = n := by omega
      have h : ∀ m, cnk m m = 1 := by
        intro m
        induction m with
        | zero => rfl
        | succ m ih => simp only [cnk]; rw [ih, cnk_over m (m + 1) (by omega)]
      exact h _
    · obtain ⟨j, hj⟩ : ∃ j, n - k = j + 1 := ⟨n - k - 1, by omega⟩
      rw [show n + 1 - (k + 1) = j + 1 by omega]
      simp only [cnk]
      rw [cnk_sym n k (by omega), cnk_sym n (k + 1) (by omega), hj, show n - (k + 1) = j by omega]
      omega
theorem cnk_le : ∀ n k, cnk n k ≤ 2 ^ n
  | _, 0 => by rw [cnk_zero]; exact Nat.one_le_two_pow
  | 0, k + 1 => by simp [cnk]
  | n + 1, k + 1 => by
    have h1 := cnk_le n k
    have h2 := cnk_le n (k + 1)
    simp only [cnk, Nat.pow_succ]; omega
theorem cnk_step {n k : Nat} (h : k ≤ n) : ((cnk n k : Nat) : Int) * ((n - k : Nat) : Int) / ((k + 1 : Nat) : Int) = ((cnk n (k + 1) : Nat) : Int) := by
  have := cnk_next n k h
  have e : ((cnk n k : Nat) : Int) * ((n - k : Nat) : Int) = ((k + 1 : Nat) : Int) * ((cnk n (k + 1) : Nat) : Int) := by
    rw [Int.mul_comm, ← Int.natCast_mul, ← Int.natCast_mul, this]
  rw [e, Int.mul_ediv_cancel_left _ (by omega)]
/-- a small number's limbs -/
theorem cnk_limbs {n k : Nat} (hn : n ≤ 600) {l : List Int} (h : Limbs l) (hn' : tz l l.length = l.length) (he : num l = ((cnk n k : Nat) : Int)) : l.length ≤ 19 := by
  have : l.length ≤ n / 32 + 1 := by
    refine norm_len h hn' ?_
    have h1 := cnk_le n k
    have h3 : 2 ^ n < 4294967296 ^ (n / 32 + 1) := by
      rw [show (4294967296 : Nat) = 2 ^ 32 from rfl, ← Nat.pow_mul]
      exact Nat.pow_lt_pow_right (by decide) (by omega)
    have h4 : ((4294967296 ^ (n / 32 + 1) : Nat) : Int) = BB ^ (n / 32 + 1) := by rw [Int.natCast_pow]; rfl
    rw [he, ← h4]
    exact Int.ofNat_lt.2 (Nat.lt_of_le_of_lt h1 h3)
  omega
end Go.Proofs.Ythbhljolpnbdlaa.S1



/- ExactOf's walk. -/
namespace Go.Proofs.Ythbhljolpnbdlaa.S1
open Go Go.Vh

theorem two_range {n : Int} (h0 : 0 ≤ n) (h1 : n ≤ 18446744073709551615) : ∀ i, 0 ≤ (two n).getD i 0 ∧ (two n).getD i 0 ≤ 4294967295 := fun i => by
  rcases i with _ | _ | i
  · show 0 ≤ n % 4294967296 ∧ n % 4294967296 ≤ 4294967295; omega
  · show 0 ≤ n / 4294967296 ∧ n / 4294967296 ≤ 4294967295; omega
  · show 0 ≤ (0 : Int) ∧ (0 : Int) ≤ 4294967295; omega
theorem two_length (n : Int) : (two n).length = 2 := rfl

theorem tz_take (l : List Int) (n : Nat) : ∀ m, m ≤ n → tz (l.take n) m = tz l m
  | 0, _ => rfl
  | m + 1, h => by
    have e : (l.take n).getD m 0 = l.getD m 0 := by simp [List.getD_eq_getElem?_getD, List.getElem?_take, show m < n by omega]
    simp only [tz, e, tz_take l n m (by omega)]
theorem tz_tz (l : List Int) (n : Nat) : tz l (tz l n) = tz l n :=
  tz_uniq l (tz l n) (tz l n) (Nat.le_refl _) (tz_last l n) fun i h h' => by omega

theorem rof_calls (n : Int) (h0 : 0 ≤ n) (h1 : n ≤ 18446744073709551615) : ACalls Try.prog 82 [.int .u64 n] [] [] fun v H =>
    v = mkS (upK (tz (two n) 2)) 0 0 (tz (two n) 2) ∧ ∃ row : ARow, H = [some row] ∧ row.own = true ∧ row.cells.take (tz (two n) 2) = ints .u32 ((two n).take (tz (two n) 2)) := by
  refine ACalls.body Try.func82 ent_rof ir_rof_ok rs_rof_ok Try.ntmps82 (by simp) rfl ?_
  unfold ir_rof
  have e0 : s0 [.int .u64 n] 0 = .int .u64 n := rfl
  have wu : IntKind.u32.wrap (n % 4294967296) = n % 4294967296 := by rw [IntKind.wrap_u32]; omega
  have wv : IntKind.u32.wrap (n / 4294967296) = n / 4294967296 := by rw [IntKind.wrap_u32]; omega
  have hr := two_range h0 h1
  simp (disch := omega) only [sS, ↓reduceIte, Nat.reduceEqDiff, Nat.reduceAdd, Nat.reduceMul, Nat.reduceSub, reduceCtorEq, e_none, e_some, e_bindS, e0, b_rem, b_quo, wu, wv]
  rw [x_bs2 (v := .int .u32 (n % 4294967296)) (u := .int .u32 (n / 4294967296)) (by simp only [e_t, e_upd, Nat.reduceEqDiff, ↓reduceIte]) (by simp only [e_t, e_upd, Nat.reduceEqDiff, ↓reduceIte]) rfl rfl rfl]
  simp (disch := omega) only [sS, ↓reduceIte, Nat.reduceEqDiff, Nat.reduceAdd, Nat.reduceMul, Nat.reduceSub, reduceCtorEq, e_none, e_some, e_bindS]
  refine call_ints (r := 0) (row := ⟨true, false, ints .u32 (two n)⟩) (rdigits_calls (.cap 2) (two n) (okS_cap (by simp [two])) (by simp [two]) hr) rfl rfl rfl rfl ?_
  rintro v0 H0' ⟨rfl, rfl⟩
  have hk : digK (two n) = .u := rfl
  have hH : digH (two n) = [ro (ints .u32 (two n)), sl (ints .i64 (digs (two n)))] := rfl
  have hdl : (digs (two n)).length = 8 := rfl
  have ht := tz_le (digs (two n)) 8
  have htt := tz_tz (digs (two n)) 8
  have hn := nat_digs hr
  rw [two_length] at hn
  have hrd := digs_range hr
  rw [two_length, hk, hH, n_mkS0 (r' := 1) rfl]
  simp only [Nat.reduceMul] at *
  generalize hT : tz (digs (two n)) 8 = t at *
  have htl : ((digs (two n)).take t).length = t := by rw [List.length_take]; omega
  have c1 := rtrim_calls .u ((digs (two n)).take t) okS_u (by omega)
  rw [htl, tz_take _ _ _ (Nat.le_refl _), htt] at c1
  simp (disch := omega) only [sS, ↓reduceIte, Nat.reduceEqDiff, Nat.reduceAdd, Nat.reduceMul, Nat.reduceSub, reduceCtorEq, e_none, e_some, e_bindS]
  refine call_ints (r := 1) (row := ⟨true, true, ints .i64 (digs (two n))⟩) c1 rfl ?_ ?_ rfl ?_
  · simp [Vh.rowAt, renRow, sl, ints_ren]
  · rw [htl, ints_take]
  rintro v0 H0' ⟨rfl, rfl⟩
  rw [n_mkS0 (r' := 1) rfl]
  simp (disch := omega) only [sS, ↓reduceIte, Nat.reduceEqDiff, Nat.reduceAdd, Nat.reduceMul, Nat.reduceSub, reduceCtorEq, e_none, e_some, e_bindS]
  have hrt : ∀ i, 0 ≤ ((digs (two n)).take t).getD i 0 ∧ ((digs (two n)).take t).getD i 0 ≤ 255 := fun i => by
    rw [getD_take (digs (two n)) 8 t i (by have := tz_zero (digs (two n)) 8; rw [hT] at this; exact this) (by omega)]; exact hrd i
  have c2 := rnat_calls .u ((digs (two n)).take t) okS_u (by omega) hrt
  rw [htl, hn.1, hn.2] at c2
  by_cases hz : tz (two n) 2 = 0
  · rw [hz] at c2 ⊢
    simp only [if_true] at c2
    refine call_ints (r := 1) (row := ⟨true, true, ints .i64 (digs (two n))⟩) c2 rfl ?_ ?_ rfl ?_
    · simp [Vh.rowAt, renRow, sl, ints_ren]
    · rw [htl, ints_take]
    rintro v0 H0' ⟨rfl, rfl⟩
    simp (disch := omega) only [sS, ↓reduceIte, Nat.reduceEqDiff, Nat.reduceAdd, Nat.reduceMul, Nat.reduceSub, reduceCtorEq, e_none, e_some, e_bindS]
    refine ret_gc [0] rfl rfl (by simp) ?_
    show _ ∧ _
    refine ⟨?_, _, rfl, rfl, rfl⟩
    simp only [gcS, e_upd, Nat.reduceEqDiff, ↓reduceIte]
    rfl
  · simp only [if_neg hz] at c2
    refine call_ints (r := 1) (row := ⟨true, true, ints .i64 (digs (two n))⟩) c2 rfl ?_ ?_ rfl ?_
    · simp [Vh.rowAt, renRow, sl, ints_ren]
    · rw [htl, ints_take]
    rintro v0 H0' ⟨rfl, rfl⟩
    simp (disch := omega) only [sS, ↓reduceIte, Nat.reduceEqDiff, Nat.reduceAdd, Nat.reduceMul, Nat.reduceSub, reduceCtorEq, e_none, e_some, e_bindS]
    refine ret_gc [2] rfl ?_ (by simp) ?_
    · simp [gcH, Vh.rowAt, rw_, sl, renRow, ints_ren, ints_cell]
    show _ ∧ _
    refine ⟨?_, ⟨true, true, ints .u32 ((two n).take (tz (two n) 2))⟩, ?_, rfl, ?_⟩
    · simp only [gcS, e_upd, Nat.reduceEqDiff, ↓reduceIte]
      rw [n_mkS0 (r' := 2) rfl, n_mkS0 (r' := 0) rfl]
    · simp [gcH, Vh.rowAt, sl, rw_, renRow, ints_ren]
    · simp only [ints_take, List.take_take, Nat.min_self]
end Go.Proofs.Ythbhljolpnbdlaa.S1



/- Contracts: choose. -/
namespace Go.Proofs.Ythbhljolpnbdlaa.S1
open Go Go.Vh

/-- C(n, k), also outside -/
def cI (n k : Int) : Int := if 0 ≤ k ∧ k ≤ n then ((cnk n.toNat k.toNat : Nat) : Int) else 0

theorem new_nil : NewNum 0 .nil [] ⟨true, false, []⟩ := ⟨rfl, fun i => by simp, rfl, rfl, rfl, rfl, rfl⟩
/-- nil is a new number: 0 -/
theorem fresh_nil {H0 : AHeap} : Fresh H0 0 .nilslice (H0 ++ [empty]) := ⟨.nil, [], ⟨true, false, []⟩, rfl, rfl, new_nil⟩

theorem choose_fresh (n : Nat) (k : Int) (hn : n ≤ 600) (hk1 : -9223372036854775808 ≤ k) (hk2 : k ≤ 9223372036854775807) : ACalls Try.prog 113 [.int .i64 n, .int .i64 k] [] [] (Fresh [] (cI n k)) := by
  refine ACalls.body Try.func113 ent_choose ir_choose_ok rs_choose_ok Try.ntmps113 (by simp) rfl ?_
  unfold ir_choose
  have e0 : s0 [.int .i64 (n : Int), .int .i64 k] 0 = .int .i64 n := rfl
  have e1 : s0 [.int .i64 (n : Int), .int .i64 k] 1 = .int .i64 k := rfl
  simp (disch := omega) only [sS, ↓reduceIte, Nat.reduceEqDiff, Nat.reduceAdd, Nat.reduceMul, Nat.reduceSub, reduceCtorEq, e_none, e_some, e_bindS, e0, e1]
  refine call_sc (within_calls k n) rfl rfl (fun _ => rfl) ?_
  by_cases hw : 0 ≤ k ∧ k ≤ n
  · have hd : decide (0 ≤ k ∧ k ≤ (n : Int)) = true := by simp only [hw, and_self, decide_true]
    simp (disch := omega) only [sS, ↓reduceIte, Nat.reduceEqDiff, Nat.reduceAdd, Nat.reduceMul, Nat.reduceSub, reduceCtorEq, e_none, e_some, e_bindS, hd, Bool.not_true, e0, e1]
    refine call_do (xof_calls 1 (by omega) (by omega)) [] rfl rfl rfl rfl trivial ?_
    rintro v0 H0' ⟨rfl, rfl⟩
    rw [m_merge, m_nil, n_mkS0 (r' := 0) rfl]
    simp (disch := omega) only [sS, ↓reduceIte, Nat.reduceEqDiff, Nat.reduceAdd, Nat.reduceMul, Nat.reduceSub, reduceCtorEq, e_none, e_some, e_bindS, e0, e1]
    obtain ⟨j, rfl⟩ : ∃ j : Nat, k = j := ⟨k.toNat, by omega⟩
    obtain ⟨m, hm⟩ : ∃ m : Nat, m = min j (n - j) := ⟨_, rfl⟩
    rw [p_minmax (k := .i64) (k' := .i64) (a := (j : Int)) (b := (n : Int) - (j : Int)) (by simp only [e_t, e_upd, Nat.reduceEqDiff, ↓reduceIte]) (by simp only [e_t, e_upd, Nat.reduceEqDiff, ↓reduceIte])]
    have hmin : (if false = true then (if (n : Int) - (j : Int) > (j : Int) then (n : Int) - (j : Int) else (j : Int)) else (if (n : Int) - (j : Int) < (j : Int) then (n : Int) - (j : Int) else (j : Int))) = (m : Int) := by
      simp only [Bool.false_eq_true, if_false]
      rw [hm]; split <;> omega
    rw [hmin]
    simp (disch := omega) only [sS, ↓reduceIte, Nat.reduceEqDiff, Nat.reduceAdd, Nat.reduceMul, Nat.reduceSub, reduceCtorEq, e_none, e_some, e_bindS, e0, e1]
    have h1 : NewNum 1 (.cap 2) ((two 1).take (tz (two 1) (two 1).length)) ⟨true, false, ints .u32 (two 1)⟩ := new_of_trim (two_range (by omega) (by omega)) (by decide) (by decide) rfl rfl
    refine ⟨fun t s H => ∃ (i : Nat) (κ : SK) (l : List Int) (row : ARow), i ≤ m ∧ t = m - i ∧ NewNum ((cnk n i : Nat) : Int) κ l row ∧ s 0 = .int .i64 n ∧ s 5 = mkS κ 0 0 l.length ∧ s 16 = .int .i64 m ∧ s 17 = .int .i64 i ∧ H = [some row], m, ⟨0, _, _, _, by omega, rfl, by rw [cnk_zero]; exact h1, ?_, ?_, ?_, ?_, rfl⟩, ?_⟩
    · simp only [e_upd, Nat.reduceEqDiff, ↓reduceIte, e0]
    · simp only [e_upd, Nat.reduceEqDiff, ↓reduceIte]; rfl
    · simp only [e_upd, Nat.reduceEqDiff, ↓reduceIte]
    · simp only [e_upd, Nat.reduceEqDiff, ↓reduceIte]; rfl
    rintro t s H ⟨i, κ, l, row, hi, rfl, hnew, h0, h5, h16, h17, rfl⟩
    have hl := cnk_limbs hn hnew.limbs hnew.norm hnew.num
    by_cases him : i < m
    · simp (disch := omega) only [sS, ↓reduceIte, Nat.reduceEqDiff, Nat.reduceAdd, Nat.reduceMul, Nat.reduceSub, reduceCtorEq, e_none, e_some, e_bindS, h0, h5, h16, h17]
      have hst := step_fresh κ l hnew.ok (by omega) hnew.limbs (up := (n : Int) - (i : Int)) (down := (i : Int) + 1) (by omega) (by omega)
      have hx : num l * ((n : Int) - (i : Int)) / ((i : Int) + 1) = ((cnk n (i + 1) : Nat) : Int) := by
        have := cnk_step (n := n) (k := i) (by omega)
        rw [hnew.num]
        rw [show ((n - i : Nat) : Int) = (n : Int) - (i : Int) by omega, show ((i + 1 : Nat) : Int) = (i : Int) + 1 by omega] at this
        exact this
      rw [hx] at hst
      refine call_fresh hst [(0, 0)] rfl rfl ?_ ?_ ⟨seen_ro (row := row) rfl ?_ ?_ (flatL_under ints_flat), trivial⟩ ?_
      · simp [underL, mkS_under, AV.under]
      · rw [n_lcons, n_mkS0 (r' := 0) rfl]; rfl
      · have := hnew.len
        simp only [ints_length]; omega
      · rw [ints_ren, ints_length, List.drop_zero, hnew.cells]
      intro κ' l' row' hnew'
      simp (disch := omega) only [sS, ↓reduceIte, Nat.reduceEqDiff, Nat.reduceAdd, Nat.reduceMul, Nat.reduceSub, reduceCtorEq, e_none, e_some, e_bindS, h17]
      have hrow : gcH [1] ([some row] ++ [some row']) = [some row'] := by
        simp only [gcH, List.map_cons, List.map_nil, Vh.rowAt, List.cons_append, List.nil_append, List.getElem?_cons_succ, List.getElem?_cons_zero, Option.getD_some, flatL_ren hnew'.flat]
      refine loop_gc [1] rfl ?_ (show m - (i + 1) < m - i by omega) ?_
      · rw [hrow]
        simp only [List.all_cons, List.all_nil, Option.all_some, Bool.and_true]
        exact hnew'.cell
      rw [hrow]
      refine ⟨i + 1, κ', l', row', by omega, rfl, hnew', gc_at ?_ (n_int (k := .i64) (n := (n : Int))), gc_at ?_ (n_mkS0 (κ := κ') (r := 1) (off := 0) (n := l'.length) (r' := 0) rfl), gc_at ?_ (n_int (k := .i64) (n := (m : Int))), gc_at ?_ (n_int (k := .i64) (n := ((i + 1 : Nat) : Int))), rfl⟩
      · simp only [e_upd, Nat.reduceEqDiff, ↓reduceIte, h0]
      · simp only [e_upd, Nat.reduceEqDiff, ↓reduceIte]; rfl
      · simp only [e_upd, Nat.reduceEqDiff, ↓reduceIte, h16]
      · simp (disch := omega) only [e_upd, Nat.reduceEqDiff, ↓reduceIte, h17, w64, AV.int.injEq]; simp
    · obtain rfl : i = m := by omega
      simp (disch := omega) only [sS, ↓reduceIte, Nat.reduceEqDiff, Nat.reduceAdd, Nat.reduceMul, Nat.reduceSub, reduceCtorEq, e_none, e_some, e_bindS, h5, h16, h17]
      refine ret_keep (by simp) ?_
      have hv : cI (n : Int) (j : Int) = ((cnk n i : Nat) : Int) := by
        rw [cI, if_pos hw, Int.toNat_natCast, Int.toNat_natCast]
        rcases Nat.le_total j (n - j) with h2 | h2
        · rw [show i = j by omega]
        · rw [show i = n - j by omega, cnk_sym n j (by omega)]
      refine ⟨κ, l, row, ?_, rfl, by rw [hv]; exact hnew⟩
      simp only [e_upd, Nat.reduceEqDiff, ↓reduceIte]
      rfl
  · have hd : decide (0 ≤ k ∧ k ≤ (n : Int)) = false := by simp only [hw, decide_false]
    simp (disch := omega) only [sS, ↓reduceIte, Nat.reduceEqDiff, Nat.reduceAdd, Nat.reduceMul, Nat.reduceSub, reduceCtorEq, e_none, e_some, e_bindS, hd, Bool.not_false]
    refine ⟨_, _, Weak.pad, by simp, ?_⟩
    rw [cI, if_neg hw]
    exact fresh_nil
end Go.Proofs.Ythbhljolpnbdlaa.S1



/- Contracts: fit, Add, the law's add. -/
namespace Go.Proofs.Ythbhljolpnbdlaa.S1
open Go Go.Vh

section
variable {K : St → AHeap → Prop} {d : Option Nat} {s : St} {H : AHeap}
/-- A call of tooLong with two numbers. -/
theorem call_tooLong2 {a b b' n n' : Nat} {κ κ' : SK} {row rowb rowb' : ARow} (hk : okS κ n) (hk' : okS κ' n') (hn : n ≤ 9223372036854775807) (hn' : n' ≤ 9223372036854775807) (ha : Vh.rowAt H a = some row) (hc : row.cells = [mkS κ b 0 n, mkS κ' b' 0 n']) (hb : Vh.rowAt H b = some rowb) (hb' : Vh.rowAt H b' = some rowb')
    (hK : K (putI d s (.int .i64 (if n ≤ 64 ∧ n' ≤ 64 then 0 else 4))) H) : thenC Try.prog K d s H [.slice a 0 2 2] (.func 134 []) := by
  have hl : alen (mkS κ 1 0 n) = some n := k_len hk (Nat.le_refl _)
  have hl2 : alen (mkS κ' 2 0 n') = some n' := k_len hk' (Nat.le_refl _)
  have hl' : lenOf (mkS κ 1 0 n) = n := by simp [lenOf, hl]
  have hl2' : lenOf (mkS κ' 2 0 n') = n' := by simp [lenOf, hl2]
  have s0' : sig [(a, 0), (b, 0), (b', 0)] H.length 0 = some (a, 0) := rfl
  have s1' : sig [(a, 0), (b, 0), (b', 0)] H.length 1 = some (b, 0) := rfl
  have s2' : sig [(a, 0), (b, 0), (b', 0)] H.length 2 = some (b', 0) := rfl
  refine call_do (tooLong_calls [mkS κ 1 0 n, mkS κ' 2 0 n'] [ro [], ro []] (fun c hc => ?_) (by simp)) [(a, 0), (b, 0), (b', 0)] rfl rfl (allRo_once rfl _) ?_ ⟨seen_ro_whole ha ?_ ?_, seen_ro hb ?_ rfl rfl, seen_ro hb' ?_ rfl rfl, trivial⟩ ?_
  · simp only [List.mem_cons, List.mem_singleton, List.not_mem_nil, or_false] at hc
    rcases hc with rfl | rfl
    · exact ⟨by rw [hl]; rfl, by rw [hl']; exact hn⟩
    · exact ⟨by rw [hl2]; rfl, by rw [hl2']; exact hn'⟩
  · simp only [List.length_cons, List.length_nil]; rw [n_lcons, n_lnil, n_slice s0']; rfl
  · rw [n_lcons, n_lcons, n_lnil, n_mkS0 s1', n_mkS0 s2', hc]
  · simp [underL, mkS_under]
  · simp
  · simp
  · rintro v0 H0' ⟨rfl, rfl⟩
    rw [n_int, m_merge, m_ro, m_ro, m_ro, m_nil]
    have e : ([mkS κ 1 0 n, mkS κ' 2 0 n'].all fun c => decide (lenOf c ≤ 64)) = decide (n ≤ 64 ∧ n' ≤ 64) := by
      simp only [List.all_cons, List.all_nil, Bool.and_true, hl', hl2', Bool.decide_and]
    rw [e]
    simp only [List.length_cons, List.length_nil, Nat.reduceAdd, List.drop_succ_cons, List.drop_zero, List.map_nil, List.append_nil, decide_eq_true_eq]
    exact hK
end

end Go.Proofs.Ythbhljolpnbdlaa.S1



/- ExactOf's walk. -/
namespace Go.Proofs.Ythbhljolpnbdlaa.S1
open Go Go.Vh

theorem renL_take {σ : Sig} : ∀ (l : List AV) (k : Nat), (renL σ l).take k = renL σ (l.take k)
  | [], k => by cases k <;> rfl
  | v :: l, 0 => rfl
  | v :: l, k + 1 => by rw [n_lcons, List.take_succ_cons, List.take_succ_cons, n_lcons, renL_take l k]

section
variable {K : St → AHeap → Prop} {d : Option Nat} {s : St} {H : AHeap}
end

end Go.Proofs.Ythbhljolpnbdlaa.S1



/- ExactPascal's walk. -/
namespace Go.Proofs.Ythbhljolpnbdlaa.S1
open Go Go.Vh

theorem cI_nat (n k : Nat) : cI n k = ((cnk n k : Nat) : Int) := by
  unfold cI
  split
  · simp
  · rw [cnk_over n k (by omega)]; rfl
end Go.Proofs.Ythbhljolpnbdlaa.S1



/- Contracts: shifts of limbs. -/
-- NEWSET
namespace Go.Proofs.Ythbhljolpnbdlaa.S1
open Go Go.Vh

end Go.Proofs.Ythbhljolpnbdlaa.S1



/- Contracts: limbs shifted down. -/
-- NEWSET
namespace Go.Proofs.Ythbhljolpnbdlaa.S1
open Go Go.Vh

theorem nvb_cons (x : Int) (l : List Int) : ∀ k, nv (x :: l) (k + 1) = x + BB * nv l k
  | 0 => by simp [nv]
  | k + 1 => by
    have ih := nvb_cons x l k
    rw [nv, ih, nv, Int.pow_succ]
    have e : (x :: l).getD (k + 1) 0 = l.getD k 0 := by simp
    rw [e, Int.mul_add, Int.mul_comm BB (l.getD k 0 * BB ^ k), Int.mul_assoc]
    omega
theorem numb_cons (x : Int) (l : List Int) : num (x :: l) = x + BB * num l := by
  simp only [num, List.length_cons]; exact nvb_cons x l l.length
theorem limbs_drop {l : List Int} (h : Limbs l) (i : Nat) : Limbs (l.drop i) := fun j => by
  have := h (i + j)
  simpa [List.getD_eq_getElem?_getD, List.getElem?_drop] using this
/-- the number of the limbs from i on -/
def upB (a : List Int) (i : Nat) : Nat := (num (a.drop i)).toNat
theorem upB_num {a : List Int} (h : Limbs a) (i : Nat) : num (a.drop i) = (upB a i : Int) := by
  have := num_nonneg (limbs_drop h i)
  simp only [upB]; omega
theorem upB_over {a : List Int} {i : Nat} (h : a.length ≤ i) : upB a i = 0 := by
  simp [upB, List.drop_eq_nil_of_le h, num, nv]
theorem dropB_getD {a : List Int} {i : Nat} (h : i < a.length) : a.drop i = a.getD i 0 :: a.drop (i + 1) := by
  rw [List.drop_eq_getElem_cons h]
  congr 1
  simp [List.getD_eq_getElem?_getD, h]
theorem upB_step {a : List Int} (ha : Limbs a) (i : Nat) : upB a i = (a.getD i 0).toNat + 4294967296 * upB a (i + 1) := by
  rcases Nat.lt_or_ge i a.length with h | h
  · have h1 := upB_num ha i
    rw [dropB_getD h, numb_cons, upB_num ha (i + 1), show BB = 4294967296 from rfl] at h1
    have := ha i
    omega
  · rw [upB_over h, upB_over (by omega), List.getD_eq_getElem?_getD, List.getElem?_eq_none h]; rfl
end Go.Proofs.Ythbhljolpnbdlaa.S1



/- Contracts: a multiple is taken from limbs, and given back. -/
-- NEWSET
namespace Go.Proofs.Ythbhljolpnbdlaa.S1
open Go Go.Vh

end Go.Proofs.Ythbhljolpnbdlaa.S1



/- Contracts: takeTimes, giveBack. -/
-- NEWSET
namespace Go.Proofs.Ythbhljolpnbdlaa.S1
open Go Go.Vh

section
variable {s : St} {H : AHeap}
end
end Go.Proofs.Ythbhljolpnbdlaa.S1



/- Contracts: giveBack. -/
-- NEWSET
namespace Go.Proofs.Ythbhljolpnbdlaa.S1
open Go Go.Vh

end Go.Proofs.Ythbhljolpnbdlaa.S1



/- A digit of a quotient, guessed from three limbs and two. -/
-- NEWSET
namespace Go.Proofs.Ythbhljolpnbdlaa.S1
open Go Go.Vh

/-- The numbers of a guess: W from three limbs, V from two. -/
structure Guess (u0 u1 u2 v1 v2 R D : Nat) : Prop where
  b0 : u0 < 4294967296
  b1 : u1 < 4294967296
  b2 : u2 < 4294967296
  c1 : v1 < 4294967296
  c2 : v2 < 4294967296
  top : 2147483648 ≤ v1
  split : ∃ P rl dl, rl < P ∧ dl < P ∧ R = ((u0 * 4294967296 + u1) * 4294967296 + u2) * P + rl ∧ D = (v1 * 4294967296 + v2) * P + dl
  small : R < D * 4294967296

theorem Guess.pos {u0 u1 u2 v1 v2 R D : Nat} (g : Guess u0 u1 u2 v1 v2 R D) : 0 < D := by
  have := g.small
  rcases Nat.eq_zero_or_pos D with h | h
  · subst h; omega
  · exact h
theorem Guess.le {u0 u1 u2 v1 v2 R D : Nat} (g : Guess u0 u1 u2 v1 v2 R D) : u0 ≤ v1 := by
  obtain ⟨P, rl, dl, h1, h2, rfl, rfl⟩ := g.split
  have hs := g.small
  have c2 := g.c2
  rcases Nat.lt_or_ge v1 u0 with h | h
  · exfalso
    have e1 : (v1 + 1) * 4294967296 * 4294967296 * P ≤ ((u0 * 4294967296 + u1) * 4294967296 + u2) * P := Nat.mul_le_mul_right _ (by omega)
    have e2 : ((v1 * 4294967296 + v2) * P + dl) ≤ (v1 * 4294967296 + v2 + 1) * P := by rw [Nat.add_mul _ 1, Nat.one_mul]; omega
    have e3 : (v1 * 4294967296 + v2 + 1) * P ≤ ((v1 + 1) * 4294967296) * P := Nat.mul_le_mul_right _ (by omega)
    have e4 : ((v1 + 1) * 4294967296) * P * 4294967296 = (v1 + 1) * 4294967296 * 4294967296 * P := Nat.mul_right_comm _ _ _
    omega
  · exact h
/-- what is guessed at first is not too small -/
theorem Guess.first {u0 u1 u2 v1 v2 R D : Nat} (g : Guess u0 u1 u2 v1 v2 R D) : R / D ≤ (u0 * 4294967296 + u1) / v1 := by
  have hD := g.pos
  have ht := g.top
  have b2 := g.b2
  obtain ⟨P, rl, dl, h1, h2, rfl, rfl⟩ := g.split
  rw [Nat.le_div_iff_mul_le (by omega)]
  have hq := Nat.div_mul_le_self (((u0 * 4294967296 + u1) * 4294967296 + u2) * P + rl) ((v1 * 4294967296 + v2) * P + dl)
  generalize (((u0 * 4294967296 + u1) * 4294967296 + u2) * P + rl) / ((v1 * 4294967296 + v2) * P + dl) = q at *
  have hP : 0 < P := by omega
  have e1 : q * (v1 * 4294967296 * P) ≤ q * ((v1 * 4294967296 + v2) * P + dl) := Nat.mul_le_mul_left _ (by rw [Nat.add_mul]; omega)
  have e2 : q * (v1 * 4294967296 * P) = q * v1 * 4294967296 * P := by rw [← Nat.mul_assoc, ← Nat.mul_assoc]
  have e3 : ((u0 * 4294967296 + u1) * 4294967296 + u2) * P + rl < ((u0 * 4294967296 + u1 + 1) * 4294967296) * P := by
    have : ((u0 * 4294967296 + u1) * 4294967296 + u2 + 1) * P ≤ ((u0 * 4294967296 + u1 + 1) * 4294967296) * P := Nat.mul_le_mul_right _ (by omega)
    rw [Nat.add_mul _ 1, Nat.one_mul] at this
    omega
  have e4 : q * v1 * 4294967296 * P < ((u0 * 4294967296 + u1 + 1) * 4294967296) * P := by omega
  have e5 := Nat.lt_of_mul_lt_mul_right e4
  omega
/-- a guess that fails the test is too large -/
theorem Guess.down {u0 u1 u2 v1 v2 R D q r : Nat} (g : Guess u0 u1 u2 v1 v2 R D) (hqr : q * v1 + r = u0 * 4294967296 + u1) (ht : r * 4294967296 + u2 < q * v2) : R / D + 1 ≤ q := by
  have hD := g.pos
  rw [Nat.add_one_le_iff, Nat.div_lt_iff_lt_mul hD]
  obtain ⟨P, rl, dl, h1, h2, rfl, rfl⟩ := g.split
  have e0 : q * (v1 * 4294967296 + v2) = q * v1 * 4294967296 + q * v2 := by rw [Nat.mul_add, Nat.mul_assoc]
  have e1 : (u0 * 4294967296 + u1) * 4294967296 + u2 + 1 ≤ q * (v1 * 4294967296 + v2) := by rw [e0]; omega
  have e2 := Nat.mul_le_mul_right P e1
  rw [Nat.add_mul _ 1, Nat.one_mul] at e2
  have e3 : q * ((v1 * 4294967296 + v2) * P + dl) = q * (v1 * 4294967296 + v2) * P + q * dl := by rw [Nat.mul_add, Nat.mul_assoc]
  rw [e3]; omega
/-- a guess that passes is at most one too large -/
theorem Guess.last {u0 u1 u2 v1 v2 R D q r : Nat} (g : Guess u0 u1 u2 v1 v2 R D) (hq : q ≤ 4294967295) (hqr : q * v1 + r = u0 * 4294967296 + u1) (ht : q * v2 ≤ r * 4294967296 + u2) : q ≤ R / D + 1 := by
  have hD := g.pos
  have htop := g.top
  rw [← Nat.add_div_right R hD, Nat.le_div_iff_mul_le hD]
  obtain ⟨P, rl, dl, h1, h2, rfl, rfl⟩ := g.split
  have e0 : q * (v1 * 4294967296 + v2) = q * v1 * 4294967296 + q * v2 := by rw [Nat.mul_add, Nat.mul_assoc]
  have e1 : q * (v1 * 4294967296 + v2) ≤ (u0 * 4294967296 + u1) * 4294967296 + u2 := by rw [e0]; omega
  have e2 := Nat.mul_le_mul_right P e1
  have e3 : q * ((v1 * 4294967296 + v2) * P + dl) = q * (v1 * 4294967296 + v2) * P + q * dl := by rw [Nat.mul_add, Nat.mul_assoc]
  have e4 : q * dl ≤ 4294967295 * P := Nat.mul_le_mul hq (by omega)
  have e5 : 4294967295 * P ≤ (v1 * 4294967296 + v2) * P := Nat.mul_le_mul_right _ (by omega)
  rw [e3]; omega
end Go.Proofs.Ythbhljolpnbdlaa.S1



/- Contracts: guessDigit. -/
-- NEWSET
namespace Go.Proofs.Ythbhljolpnbdlaa.S1
open Go Go.Vh

end Go.Proofs.Ythbhljolpnbdlaa.S1



/- Contracts: takeDigit. -/
-- NEWSET
namespace Go.Proofs.Ythbhljolpnbdlaa.S1
open Go Go.Vh

end Go.Proofs.Ythbhljolpnbdlaa.S1



/- Contracts: bits.Len32, bits.LeadingZeros32. -/
-- NEWSET
namespace Go.Proofs.Ythbhljolpnbdlaa.S1
open Go Go.Vh

end Go.Proofs.Ythbhljolpnbdlaa.S1



/- Contracts: LeadingZeros32; the lemmas of exact's long division. -/
-- NEWSET
namespace Go.Proofs.Ythbhljolpnbdlaa.S1
open Go Go.Vh

/-- a limb of the quotient -/
def qB (a : List Int) (b i : Nat) : Nat := (4294967296 * (upB a (i + 1) % b) + (a.getD i 0).toNat) / b
theorem upB_div {a : List Int} (ha : Limbs a) {b : Nat} (hb : 0 < b) (i : Nat) : upB a i / b = qB a b i + 4294967296 * (upB a (i + 1) / b) ∧ upB a i % b = (4294967296 * (upB a (i + 1) % b) + (a.getD i 0).toNat) % b := by
  have h1 := Nat.div_add_mod (upB a (i + 1)) b
  rw [upB_step ha i]
  unfold qB
  generalize upB a (i + 1) = u at *
  generalize (a.getD i 0).toNat = d at *
  have e : d + 4294967296 * u = b * (4294967296 * (u / b)) + (4294967296 * (u % b) + d) := by
    have : 4294967296 * u = 4294967296 * (b * (u / b)) + 4294967296 * (u % b) := by omega
    rw [this, Nat.mul_left_comm]; omega
  constructor
  · rw [e, Nat.mul_add_div hb]; omega
  · rw [e, Nat.mul_add_mod]
end Go.Proofs.Ythbhljolpnbdlaa.S1



/- The steps of exact's long division, as numbers. -/
-- NEWSET
namespace Go.Proofs.Ythbhljolpnbdlaa.S1
open Go Go.Vh

theorem upB_zero {l : List Int} (h : Limbs l) : num l = (upB l 0 : Int) := by
  have := upB_num h 0
  rwa [List.drop_zero] at this

/-- What stands in the limbs when the digits from i on are found. -/
structure Cut (W0 W : List Int) (V n i : Nat) : Prop where
  limbs : Limbs W
  len : W.length = W0.length
  low : ∀ j, j < i → W.getD j 0 = W0.getD j 0
  high : ∀ j, i + n ≤ j → W.getD j 0 = 0
  val : nv (W.drop i) n = ((upB W0 i % V : Nat) : Int)

theorem Cut.window {W0 W : List Int} {V n i : Nat} (c : Cut W0 W V n (i + 1)) (hW0 : Limbs W0) (hi : i < W.length) : nv (W.drop i) (n + 1) = ((4294967296 * (upB W0 (i + 1) % V) + (W0.getD i 0).toNat : Nat) : Int) := by
  rw [dropB_getD hi, nvb_cons, c.val, c.low i (by omega), show BB = 4294967296 from rfl]
  have := hW0 i
  omega

/-- The step: the digit is taken. -/
theorem Cut.step {W0 W W' : List Int} {V n i : Nat} (c : Cut W0 W V n (i + 1)) (hW0 : Limbs W0) (hV : 0 < V) (hVn : (V : Int) ≤ BB ^ n) (hl : W'.length = (W.drop i).length) (hL : Limbs W') (hrest : ∀ j, n < j → W'.getD j 0 = (W.drop i).getD j 0)
    (hnum : nv W' (n + 1) = (((4294967296 * (upB W0 (i + 1) % V) + (W0.getD i 0).toNat) % V : Nat) : Int)) (hi : i ≤ W.length) : Cut W0 (W.take i ++ W') V n i := by
  have hti : (W.take i).length = i := by rw [List.length_take]; omega
  have hget : ∀ j, (W.take i ++ W').getD j 0 = if j < i then W.getD j 0 else W'.getD (j - i) 0 := fun j => by
    simp only [List.getD_eq_getElem?_getD, List.getElem?_append, hti]
    split
    · rename_i h; rw [List.getElem?_take_of_lt h]
    · rfl
  have hdrop : (W.take i ++ W').drop i = W' := by
    have := List.drop_left (l₁ := W.take i) (l₂ := W')
    rwa [hti] at this
  have htop : W'.getD n 0 = 0 := by
    rcases Int.lt_or_le (nv W' (n + 1)) (BB ^ n) with h | h
    · rcases Decidable.em (W'.getD n 0 = 0) with h0 | h0
      · exact h0
      · have := nv_ge hL h0; omega
    · have := Nat.mod_lt (4294967296 * (upB W0 (i + 1) % V) + (W0.getD i 0).toNat) hV
      rw [hnum] at h
      omega
  refine ⟨fun j => ?_, ?_, fun j hj => ?_, fun j hj => ?_, ?_⟩
  · rw [hget]
    split
    · exact c.limbs j
    · exact hL _
  · rw [List.length_append, hl, hti, List.length_drop, ← c.len]; omega
  · rw [hget, if_pos hj, c.low j (by omega)]
  · rw [hget, if_neg (by omega)]
    rcases Nat.eq_or_lt_of_le (show n ≤ j - i by omega) with h | h
    · rw [← h]; exact htop
    · rw [hrest _ h]
      have : (W.drop i).getD (j - i) 0 = W.getD j 0 := by
        simp only [List.getD_eq_getElem?_getD, List.getElem?_drop]
        congr 2; omega
      rw [this, c.high j (by omega)]
  · rw [hdrop, (upB_div hW0 hV i).2, ← hnum, nv, htop]; omega
theorem Cut.done {W0 W : List Int} {V n : Nat} (c : Cut W0 W V n 0) : upB W 0 = upB W0 0 % V := by
  have h := upB_zero c.limbs
  have h2 := c.val
  rw [List.drop_zero] at h2
  have h3 : num W = nv W n := by
    rcases Nat.lt_or_ge n W.length with h4 | h4
    · exact nv_zeros W _ (by omega) (fun i h5 _ => c.high i (by omega))
    · exact (nv_long W h4).symm
  omega
/-- The numbers of the guess for such a step. -/
theorem Cut.guess {W0 W D : List Int} {V n i : Nat} (c : Cut W0 W V n (i + 1)) (hW0 : Limbs W0) (hn : 2 ≤ n) (hD : Limbs D) (hV : nv D n = (V : Int)) (htop : 2147483648 ≤ D.getD (n - 1) 0) (hi : i + n < W.length) :
    ∃ u0 u1 u2 v1 v2 : Nat, (W.drop i).getD n 0 = u0 ∧ (W.drop i).getD (n - 1) 0 = u1 ∧ (W.drop i).getD (n - 2) 0 = u2 ∧ D.getD (n - 1) 0 = v1 ∧ D.getD (n - 2) 0 = v2 ∧ Guess u0 u1 u2 v1 v2 (4294967296 * (upB W0 (i + 1) % V) + (W0.getD i 0).toNat) V := by
  have hVp : 0 < V := by
    have h1 := nv_ge hD (k := n - 1) (by omega)
    rw [show n - 1 + 1 = n by omega, hV] at h1
    have := BB_pos (n - 1)
    omega
  have lW := limbs_drop c.limbs i
  have hR := c.window hW0 (by omega)
  generalize hRR : 4294967296 * (upB W0 (i + 1) % V) + (W0.getD i 0).toNat = R at *
  have hsm : R < V * 4294967296 := by
    have := Nat.mod_lt (upB W0 (i + 1)) hVp
    have := hW0 i
    omega
  generalize W.drop i = X at *
  have x0 := lW n
  have x1 := lW (n - 1)
  have x2 := lW (n - 2)
  have y1 := hD (n - 1)
  have y2 := hD (n - 2)
  have eX : nv X (n + 1) = nv X (n - 2) + X.getD (n - 2) 0 * BB ^ (n - 2) + X.getD (n - 1) 0 * BB ^ (n - 1) + X.getD n 0 * BB ^ n := by
    obtain ⟨m, rfl⟩ : ∃ m, n = m + 2 := ⟨n - 2, by omega⟩
    rfl
  have eD : nv D n = nv D (n - 2) + D.getD (n - 2) 0 * BB ^ (n - 2) + D.getD (n - 1) 0 * BB ^ (n - 1) := by
    obtain ⟨m, rfl⟩ : ∃ m, n = m + 2 := ⟨n - 2, by omega⟩
    rfl
  have e1 : BB ^ (n - 1) = BB ^ (n - 2) * 4294967296 := by
    rw [show n - 1 = n - 2 + 1 by omega, Int.pow_succ]; rfl
  have e2 : BB ^ n = BB ^ (n - 2) * 4294967296 * 4294967296 := by
    rw [show n = n - 2 + 1 + 1 by omega, Int.pow_succ, Int.pow_succ]; rfl
  have b1 := nv_bound lW (n - 2)
  have b2 := nv_bound hD (n - 2)
  rw [e1, e2] at eX
  rw [e1] at eD
  rw [hR] at eX
  rw [hV] at eD
  have hP := BB_pos (n - 2)
  generalize X.getD n 0 = u0 at *
  generalize X.getD (n - 1) 0 = u1 at *
  generalize X.getD (n - 2) 0 = u2 at *
  generalize D.getD (n - 1) 0 = v1 at *
  generalize D.getD (n - 2) 0 = v2 at *
  generalize nv X (n - 2) = rl at *
  generalize nv D (n - 2) = dl at *
  generalize BB ^ (n - 2) = P at *
  obtain ⟨u0, rfl⟩ := Int.eq_ofNat_of_zero_le x0.1
  obtain ⟨u1, rfl⟩ := Int.eq_ofNat_of_zero_le x1.1
  obtain ⟨u2, rfl⟩ := Int.eq_ofNat_of_zero_le x2.1
  obtain ⟨v1, rfl⟩ := Int.eq_ofNat_of_zero_le y1.1
  obtain ⟨v2, rfl⟩ := Int.eq_ofNat_of_zero_le y2.1
  obtain ⟨rl, rfl⟩ := Int.eq_ofNat_of_zero_le b1.1
  obtain ⟨dl, rfl⟩ := Int.eq_ofNat_of_zero_le b2.1
  obtain ⟨P, rfl⟩ := Int.eq_ofNat_of_zero_le (Int.le_of_lt hP)
  refine ⟨u0, u1, u2, v1, v2, rfl, rfl, rfl, rfl, rfl, ⟨by omega, by omega, by omega, by omega, by omega, by omega, ⟨P, rl, dl, by omega, by omega, ?_, ?_⟩, hsm⟩⟩
  · have h0 : u0 * 4294967296 * 4294967296 * P = u0 * P * 4294967296 * 4294967296 := by rw [Nat.mul_right_comm (u0 * 4294967296), Nat.mul_right_comm u0]
    have h1 : u1 * 4294967296 * P = u1 * P * 4294967296 := Nat.mul_right_comm _ _ _
    have g0 : (u0 : Int) * ((P : Int) * 4294967296 * 4294967296) = ((u0 * P : Nat) : Int) * 4294967296 * 4294967296 := by rw [← Int.mul_assoc, ← Int.mul_assoc, Int.natCast_mul]
    have g1 : (u1 : Int) * ((P : Int) * 4294967296) = ((u1 * P : Nat) : Int) * 4294967296 := by rw [← Int.mul_assoc, Int.natCast_mul]
    have g2 : (u2 : Int) * (P : Int) = ((u2 * P : Nat) : Int) := (Int.natCast_mul _ _).symm
    rw [g0, g1, g2] at eX
    rw [Nat.add_mul, Nat.add_mul, Nat.add_mul, h0, h1]
    omega
  · have h1 : v1 * 4294967296 * P = v1 * P * 4294967296 := Nat.mul_right_comm _ _ _
    have g1 : (v1 : Int) * ((P : Int) * 4294967296) = ((v1 * P : Nat) : Int) * 4294967296 := by rw [← Int.mul_assoc, Int.natCast_mul]
    have g2 : (v2 : Int) * (P : Int) = ((v2 * P : Nat) : Int) := (Int.natCast_mul _ _).symm
    rw [g1, g2] at eD
    rw [Nat.add_mul, h1]
    omega
end Go.Proofs.Ythbhljolpnbdlaa.S1



/- Contracts: exact's divide. -/
-- NEWSET
namespace Go.Proofs.Ythbhljolpnbdlaa.S1
open Go Go.Vh

theorem NewNum.back {q : Int} {κ : SK} {l : List Int} {row : ARow} (h : NewNum q κ l row) (σ : Sig) : ({ row with cells := renL σ row.cells } : ARow) = row := by
  rw [flatL_ren h.flat]

end Go.Proofs.Ythbhljolpnbdlaa.S1



/- Contracts: exact's gcd. -/
-- NEWSET
namespace Go.Proofs.Ythbhljolpnbdlaa.S1
open Go Go.Vh

section
variable {P : Program} {f : FuncId} {args0 : List AV} {H0 : AHeap} {W0 : List Nat} {x y : Int} {K : St → AHeap → Prop} {d : Option Nat} {s : St} {H : AHeap} {args caps : List AV}
end

/-- A number in limbs somewhere in a heap. -/
def AtK (H : AHeap) (v : AV) (x : Int) (r k : Nat) : Prop := ∃ κ l row, okS κ l.length ∧ v = mkS κ r 0 l.length ∧ Vh.rowAt H r = some row ∧ row.cells.take l.length = ints .u32 l ∧ Limbs l ∧ num l = x ∧ l.length ≤ k
abbrev AtL (H : AHeap) (v : AV) (x : Int) (r : Nat) : Prop := AtK H v x r 100000
theorem AtK.mono {H : AHeap} {v : AV} {x : Int} {r k k' : Nat} (h : AtK H v x r k) (hk : k ≤ k') : AtK H v x r k' := by
  obtain ⟨κ, l, row, h1, h2, h3, h4, h5, h6, h7⟩ := h
  exact ⟨κ, l, row, h1, h2, h3, h4, h5, h6, Nat.le_trans h7 hk⟩
theorem AtK.lt {H : AHeap} {v : AV} {x : Int} {r k : Nat} (h : AtK H v x r k) : r < H.length := by
  obtain ⟨_, _, _, _, _, h1, _⟩ := h
  exact rowAt_lt h1
theorem AtK.keep {H H' : AHeap} {v : AV} {x : Int} {r k : Nat} (h : AtK H v x r k) (he : Vh.rowAt H' r = Vh.rowAt H r) : AtK H' v x r k := by
  obtain ⟨κ, l, row, h1, h2, h3, h4⟩ := h
  exact ⟨κ, l, row, h1, h2, by rw [he, h3], h4⟩
theorem AtK.app {H R : AHeap} {v : AV} {x : Int} {r k : Nat} (h : AtK H v x r k) : AtK (H ++ R) v x r k := h.keep (rowAt_append_left h.lt)
theorem AtK.nonneg {H : AHeap} {v : AV} {x : Int} {r k : Nat} (h : AtK H v x r k) : 0 ≤ x := by
  obtain ⟨κ, l, row, _, _, _, _, hl, rfl, _⟩ := h
  exact num_nonneg hl
theorem NewNum.at {H : AHeap} {x : Int} {κ : SK} {l : List Int} {row : ARow} {r : Nat} (h : NewNum x κ l row) (hr : Vh.rowAt H r = some row) (hl : l.length ≤ 100000) : AtL H (mkS κ r 0 l.length) x r :=
  ⟨κ, l, row, h.ok, rfl, hr, h.cells, h.limbs, h.num, hl⟩
theorem NewNum.short {x : Int} {κ : SK} {l : List Int} {row : ARow} {k : Nat} (h : NewNum x κ l row) (hx : x < BB ^ k) : l.length ≤ k := norm_len h.limbs h.norm (by rw [h.num]; exact hx)

section
variable {K : St → AHeap → Prop} {d : Option Nat} {s : St} {H : AHeap}
theorem seen_limbs {σ : Sig} {n : Nat} {r : Nat} {row : ARow} {l : List Int} (hr : Vh.rowAt H r = some row) (hc : row.cells.take l.length = ints .u32 l) : Vh.seen H σ n (ro (ints .u32 l)) (r, 0) := by
  have h := congrArg List.length hc
  simp only [List.length_take, ints_length] at h
  exact seen_ro hr (by simp only [ints_length]; omega) (by rw [ints_ren, ints_length, List.drop_zero, hc]) (flatL_under ints_flat)
end

end Go.Proofs.Ythbhljolpnbdlaa.S1


