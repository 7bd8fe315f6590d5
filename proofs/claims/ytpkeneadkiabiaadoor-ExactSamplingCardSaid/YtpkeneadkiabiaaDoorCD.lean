/- Contracts: Binomial, Ball. -/
import Derived.Test.YtpkeneadkiabiaaDoorV7
import Derived.Test.YtpkeneadkiabiaaDoorCC
import Derived.Test.YtpkeneadkiabiaaDoorIrA
import Derived.Test.YtpkeneadkiabiaaDoorC8
set_option linter.unusedSimpArgs false
set_option linter.unusedVariables false
namespace Go.Proofs.YtpkeneadkiabiaaDoor
open Go Go.Vh

/-- A new number and an error's number. -/
def FreshE (H0 : AHeap) (x e : Int) (v : AV) (H : AHeap) : Prop := ∃ κ l row, v = .tuple [mkS κ H0.length 0 l.length, .int .i64 e] ∧ H = H0 ++ [some row] ∧ NewNum x κ l row

section
variable {P : Program} {f : FuncId} {args0 : List AV} {H0 : AHeap} {W0 : List Nat} {x e : Int} {K : St → AHeap → Prop} {d : Option Nat} {s : St} {H : AHeap} {args caps : List AV}
theorem call_freshE (h : ACalls P f args0 H0 W0 (FreshE H0 x e)) (σ : List (Nat × Nat)) (hro : allRo H0 = true) (hl : σ.length = H0.length) (hu : underL H0.length args0 = true) (hargs : args ++ caps = renL (sig σ H.length) args0)
    (hseen : seenAll H (sig σ H.length) H0.length H0 σ) (hK : ∀ κ l row, NewNum x κ l row → K (putI d s (.tuple [mkS κ H.length 0 l.length, .int .i64 e])) (H ++ [some row])) : thenC P K d s H args (.func f caps) :=
  call_do h σ (allRo_some hro) hu (allRo_once hro σ) hargs hseen fun v0 H0' ⟨κ, l, row, e1, e2, hn⟩ => by
    subst e1; subst e2
    obtain ⟨k1, k2⟩ := fresh_merge (H := H) hro hl hn
    rw [n_tuple, n_lcons, n_lcons, n_lnil, n_int, k1, k2]
    exact hK _ _ _ hn
end

theorem binomial_calls (n : Nat) (k : Int) (hn : n ≤ 512) (hk1 : -9223372036854775808 ≤ k) (hk2 : k ≤ 9223372036854775807) : ACalls Tryd.prog 39 [.int .i64 n, .int .i64 k] [] [] (FreshE [] (cI n k) 0) := by
  refine ACalls.body Tryd.func39 ent_binomial ir_binomial_ok rs_binomial_ok Tryd.ntmps39 (by simp) rfl ?_
  unfold ir_binomial
  have e0 : s0 [.int .i64 (n : Int), .int .i64 k] 0 = .int .i64 n := rfl
  have e1 : s0 [.int .i64 (n : Int), .int .i64 k] 1 = .int .i64 k := rfl
  simp (disch := omega) only [sS, ↓reduceIte, Nat.reduceEqDiff, Nat.reduceAdd, Nat.reduceMul, Nat.reduceSub, reduceCtorEq, e_none, e_some, e_bindS, e0, e1]
  refine call_sc (within_calls n 512) rfl rfl (fun _ => rfl) ?_
  have hd : decide (0 ≤ (n : Int) ∧ (n : Int) ≤ 512) = true := by rw [decide_eq_true_eq]; omega
  simp (disch := omega) only [sS, ↓reduceIte, Nat.reduceEqDiff, Nat.reduceAdd, Nat.reduceMul, Nat.reduceSub, reduceCtorEq, e_none, e_some, e_bindS, hd, Bool.not_true, e0, e1]
  refine call_fresh (choose_fresh n k (by omega) hk1 hk2) [] rfl rfl rfl rfl trivial ?_
  intro κ l row hnew
  simp (disch := omega) only [sS, ↓reduceIte, Nat.reduceEqDiff, Nat.reduceAdd, Nat.reduceMul, Nat.reduceSub, reduceCtorEq, e_none, e_some, e_bindS]
  refine ret_keep (by simp) ⟨κ, l, row, ?_, rfl, hnew⟩
  simp only [e_upd, Nat.reduceEqDiff, ↓reduceIte]

/-- C(n, 0) + .. + C(n, k) -/
def ballN (n : Nat) : Nat → Nat
  | 0 => cnk n 0
  | k + 1 => ballN n k + cnk n (k + 1)
theorem ballN_le (n : Nat) : ∀ k, ballN n k ≤ (k + 1) * 2 ^ n
  | 0 => by simp only [ballN]; have := cnk_le n 0; omega
  | k + 1 => by
    have h1 := ballN_le n k
    have h2 := cnk_le n (k + 1)
    simp only [ballN]
    rw [Nat.add_mul (k + 1) 1]
    omega
theorem ballN_over (n : Nat) : ∀ k, n ≤ k → ballN n k = ballN n n
  | 0, h => by obtain rfl : n = 0 := by omega
               rfl
  | k + 1, h => by
    rcases Nat.eq_or_lt_of_le h with e | e
    · rw [← e]
    · simp only [ballN]
      rw [cnk_over n (k + 1) (by omega), ballN_over n k (by omega)]; rfl
theorem ball_limbs {n k : Nat} (hn : n ≤ 512) (hk : k ≤ 512) {l : List Int} (h : Limbs l) (hn' : tz l l.length = l.length) (he : num l = ((ballN n k : Nat) : Int)) : l.length ≤ 19 := by
  have : l.length ≤ (n + 10) / 32 + 1 := by
    refine norm_len h hn' ?_
    have h1 := ballN_le n k
    have h2 : (k + 1) * 2 ^ n ≤ 1024 * 2 ^ n := Nat.mul_le_mul_right _ (by omega)
    have h5 : 1024 * 2 ^ n = 2 ^ (n + 10) := by rw [Nat.pow_add, Nat.mul_comm]
    have h3 : 2 ^ (n + 10) < 4294967296 ^ ((n + 10) / 32 + 1) := by
      rw [show (4294967296 : Nat) = 2 ^ 32 from rfl, ← Nat.pow_mul]
      exact Nat.pow_lt_pow_right (by decide) (by omega)
    have h4 : ((4294967296 ^ ((n + 10) / 32 + 1) : Nat) : Int) = BB ^ ((n + 10) / 32 + 1) := by rw [Int.natCast_pow]; rfl
    rw [he, ← h4]
    rw [h5] at h2
    exact Int.ofNat_lt.2 (Nat.lt_of_le_of_lt (Nat.le_trans h1 h2) h3)
  omega
end Go.Proofs.YtpkeneadkiabiaaDoor

/- Contracts: Ball. -/
namespace Go.Proofs.YtpkeneadkiabiaaDoor
open Go Go.Vh

def bI (n t : Int) : Int := if t < 0 then 0 else ((ballN n.toNat t.toNat : Nat) : Int)
theorem new_one : NewNum 1 (.cap 2) ((two 1).take (tz (two 1) (two 1).length)) ⟨true, false, ints .u32 (two 1)⟩ := new_of_trim (two_range (by omega) (by omega)) (by decide) (by decide) rfl rfl

theorem ball_calls (n : Nat) (t : Int) (hn : n ≤ 512) (ht1 : -9223372036854775808 ≤ t) (ht2 : t ≤ 9223372036854775807) : ACalls Tryd.prog 41 [.int .i64 n, .int .i64 t] [] [] (FreshE [] (bI n t) 0) := by
  refine ACalls.body Tryd.func41 ent_ball ir_ball_ok rs_ball_ok Tryd.ntmps41 (by simp) rfl ?_
  unfold ir_ball
  have e0 : s0 [.int .i64 (n : Int), .int .i64 t] 0 = .int .i64 n := rfl
  have e1 : s0 [.int .i64 (n : Int), .int .i64 t] 1 = .int .i64 t := rfl
  simp (disch := omega) only [sS, ↓reduceIte, Nat.reduceEqDiff, Nat.reduceAdd, Nat.reduceMul, Nat.reduceSub, reduceCtorEq, e_none, e_some, e_bindS, e0, e1]
  refine call_sc (within_calls n 512) rfl rfl (fun _ => rfl) ?_
  have hd : decide (0 ≤ (n : Int) ∧ (n : Int) ≤ 512) = true := by rw [decide_eq_true_eq]; omega
  by_cases h0t : t < 0
  · simp (disch := omega) only [sS, ↓reduceIte, Nat.reduceEqDiff, Nat.reduceAdd, Nat.reduceMul, Nat.reduceSub, reduceCtorEq, e_none, e_some, e_bindS, hd, Bool.not_true, e0, e1]
    refine ⟨_, _, Weak.pad, by simp, ?_⟩
    rw [bI, if_pos h0t]
    refine ⟨.nil, [], ⟨true, false, []⟩, ?_, rfl, new_nil⟩
    rfl
  · simp (disch := omega) only [sS, ↓reduceIte, Nat.reduceEqDiff, Nat.reduceAdd, Nat.reduceMul, Nat.reduceSub, reduceCtorEq, e_none, e_some, e_bindS, hd, Bool.not_true, e0, e1]
    refine call_do (xof_calls 1 (by omega) (by omega)) [] rfl rfl rfl rfl trivial ?_
    rintro v0 H0' ⟨rfl, rfl⟩
    rw [m_merge, m_nil, n_mkS0 (r' := 0) rfl]
    simp (disch := omega) only [sS, ↓reduceIte, Nat.reduceEqDiff, Nat.reduceAdd, Nat.reduceMul, Nat.reduceSub, reduceCtorEq, e_none, e_some, e_bindS, e0, e1]
    refine call_do (xof_calls 1 (by omega) (by omega)) [] rfl rfl rfl rfl trivial ?_
    rintro v0 H0' ⟨rfl, rfl⟩
    rw [m_merge, m_nil, n_mkS0 (r' := 1) rfl]
    simp (disch := omega) only [sS, ↓reduceIte, Nat.reduceEqDiff, Nat.reduceAdd, Nat.reduceMul, Nat.reduceSub, reduceCtorEq, e_none, e_some, e_bindS, e0, e1]
    obtain ⟨j, rfl⟩ : ∃ j : Nat, t = j := ⟨t.toNat, by omega⟩
    obtain ⟨m, hm⟩ : ∃ m : Nat, m = min j n := ⟨_, rfl⟩
    rw [p_minmax (k := .i64) (k' := .i64) (a := (j : Int)) (b := (n : Int)) (by simp only [e_t, e_upd, Nat.reduceEqDiff, ↓reduceIte]) (by simp only [e_t, e_upd, Nat.reduceEqDiff, ↓reduceIte])]
    have hmin : (if false = true then (if (n : Int) > (j : Int) then (n : Int) else (j : Int)) else (if (n : Int) < (j : Int) then (n : Int) else (j : Int))) = (m : Int) := by
      simp only [Bool.false_eq_true, if_false]
      rw [hm]; split <;> omega
    rw [hmin]
    simp (disch := omega) only [sS, ↓reduceIte, Nat.reduceEqDiff, Nat.reduceAdd, Nat.reduceMul, Nat.reduceSub, reduceCtorEq, e_none, e_some, e_bindS, e0, e1]
    refine ⟨fun z s H => ∃ (i : Nat) (κ κ' : SK) (l l' : List Int) (row row' : ARow), i ≤ m ∧ z = m - i ∧ NewNum ((ballN n i : Nat) : Int) κ l row ∧ NewNum ((cnk n i : Nat) : Int) κ' l' row' ∧ s 0 = .int .i64 n ∧ s 6 = mkS κ 0 0 l.length ∧ s 7 = mkS κ' 1 0 l'.length ∧ s 18 = .int .i64 m ∧ s 19 = .int .i64 i ∧ H = [some row, some row'], m, ⟨0, _, _, _, _, _, _, by omega, rfl, by rw [ballN, cnk_zero]; exact new_one, by rw [cnk_zero]; exact new_one, ?_, ?_, ?_, ?_, ?_, rfl⟩, ?_⟩
    · simp only [e_upd, Nat.reduceEqDiff, ↓reduceIte, e0]
    · simp only [e_upd, Nat.reduceEqDiff, ↓reduceIte]; rfl
    · simp only [e_upd, Nat.reduceEqDiff, ↓reduceIte]; rfl
    · simp only [e_upd, Nat.reduceEqDiff, ↓reduceIte]
    · simp only [e_upd, Nat.reduceEqDiff, ↓reduceIte]; rfl
    rintro z s H ⟨i, κ, κ', l, l', row, row', hi, rfl, hS, hC, h0, h6, h7, h18, h19, rfl⟩
    have hlS := ball_limbs hn (by omega) hS.limbs hS.norm hS.num
    have hlC := cnk_limbs (by omega) hC.limbs hC.norm hC.num
    by_cases him : i < m
    · simp (disch := omega) only [sS, ↓reduceIte, Nat.reduceEqDiff, Nat.reduceAdd, Nat.reduceMul, Nat.reduceSub, reduceCtorEq, e_none, e_some, e_bindS, h0, h6, h7, h18, h19]
      have hst := step_fresh κ' l' hC.ok (by omega) hC.limbs (up := (n : Int) - (i : Int)) (down := (i : Int) + 1) (by omega) (by omega)
      have hx : num l' * ((n : Int) - (i : Int)) / ((i : Int) + 1) = ((cnk n (i + 1) : Nat) : Int) := by
        have := cnk_step (n := n) (k := i) (by omega)
        rw [hC.num]
        rw [show ((n - i : Nat) : Int) = (n : Int) - (i : Int) by omega, show ((i + 1 : Nat) : Int) = (i : Int) + 1 by omega] at this
        exact this
      rw [hx] at hst
      refine call_fresh hst [(1, 0)] rfl rfl ?_ ?_ ⟨seen_ro (row := row') rfl ?_ ?_ (flatL_under ints_flat), trivial⟩ ?_
      · simp [underL, mkS_under, AV.under]
      · rw [n_lcons, n_mkS0 (r' := 1) rfl]; rfl
      · have := hC.len
        simp only [ints_length]; omega
      · rw [ints_ren, ints_length, List.drop_zero, hC.cells]
      intro κ2 l2 row2 h2
      have hl2 := cnk_limbs (n := n) (by omega) h2.limbs h2.norm h2.num
      simp (disch := omega) only [sS, ↓reduceIte, Nat.reduceEqDiff, Nat.reduceAdd, Nat.reduceMul, Nat.reduceSub, reduceCtorEq, e_none, e_some, e_bindS, h6]
      have had := xadd_fresh κ κ2 l l2 hS.ok h2.ok (by omega) (by omega) hS.limbs h2.limbs
      have hsum : num l + num l2 = ((ballN n (i + 1) : Nat) : Int) := by rw [hS.num, h2.num, ballN]; omega
      rw [hsum] at had
      refine call_fresh had [(0, 0), (2, 0)] rfl rfl ?_ ?_ ⟨seen_ro (row := row) rfl ?_ ?_ (flatL_under ints_flat), seen_ro (row := row2) rfl ?_ ?_ (flatL_under ints_flat), trivial⟩ ?_
      · simp [underL, mkS_under, AV.under]
      · rw [n_lcons, n_lcons, n_lnil, n_mkS0 (r' := 0) rfl, n_mkS0 (r' := 2) rfl]; rfl
      · have := hS.len
        simp only [ints_length]; omega
      · rw [ints_ren, ints_length, List.drop_zero, hS.cells]
      · have := h2.len
        simp only [ints_length]; omega
      · rw [ints_ren, ints_length, List.drop_zero, h2.cells]
      intro κ3 l3 row3 h3
      simp (disch := omega) only [sS, ↓reduceIte, Nat.reduceEqDiff, Nat.reduceAdd, Nat.reduceMul, Nat.reduceSub, reduceCtorEq, e_none, e_some, e_bindS, h19]
      have hrow : gcH [3, 2] ([some row, some row'] ++ [some row2] ++ [some row3]) = [some row3, some row2] := by
        simp only [gcH, List.map_cons, List.map_nil, Vh.rowAt, List.cons_append, List.nil_append, List.getElem?_cons_succ, List.getElem?_cons_zero, Option.getD_some, flatL_ren h3.flat, flatL_ren h2.flat]
      refine loop_gc [3, 2] rfl ?_ (show m - (i + 1) < m - i by omega) ?_
      · rw [hrow]
        simp only [List.all_cons, List.all_nil, Option.all_some, Bool.and_true, h3.cell, h2.cell, Bool.and_self]
      rw [hrow]
      refine ⟨i + 1, κ3, κ2, l3, l2, row3, row2, by omega, rfl, h3, h2, gc_at ?_ (n_int (k := .i64) (n := (n : Int))), gc_at ?_ (n_mkS0 (κ := κ3) (r := 3) (off := 0) (n := l3.length) (r' := 0) rfl), gc_at ?_ (n_mkS0 (κ := κ2) (r := 2) (off := 0) (n := l2.length) (r' := 1) rfl), gc_at ?_ (n_int (k := .i64) (n := (m : Int))), gc_at ?_ (n_int (k := .i64) (n := ((i + 1 : Nat) : Int))), rfl⟩
      · simp only [e_upd, Nat.reduceEqDiff, ↓reduceIte, h0]
      · simp only [e_upd, Nat.reduceEqDiff, ↓reduceIte]; rfl
      · simp only [e_upd, Nat.reduceEqDiff, ↓reduceIte]; rfl
      · simp only [e_upd, Nat.reduceEqDiff, ↓reduceIte, h18]
      · simp (disch := omega) only [e_upd, Nat.reduceEqDiff, ↓reduceIte, h19, w64, AV.int.injEq]; simp
    · obtain rfl : i = m := by omega
      simp (disch := omega) only [sS, ↓reduceIte, Nat.reduceEqDiff, Nat.reduceAdd, Nat.reduceMul, Nat.reduceSub, reduceCtorEq, e_none, e_some, e_bindS, h6, h7, h18, h19]
      have hv : bI (n : Int) (j : Int) = ((ballN n i : Nat) : Int) := by
        rw [bI, if_neg h0t, Int.toNat_natCast, Int.toNat_natCast]
        rcases Nat.le_total j n with h2 | h2
        · rw [show i = j by omega]
        · rw [show i = n by omega, ballN_over n j h2]
      have hrow : gcH [0] [some row, some row'] = [some row] := by
        simp only [gcH, List.map_cons, List.map_nil, Vh.rowAt, List.getElem?_cons_zero, Option.getD_some, flatL_ren hS.flat]
      refine ret_gc [0] rfl ?_ (by simp) ?_
      · rw [hrow]
        simp only [List.all_cons, List.all_nil, Option.all_some, Bool.and_true, hS.cell]
      rw [hrow]
      show FreshE _ _ _ _ _
      refine ⟨κ, l, row, ?_, rfl, by rw [hv]; exact hS⟩
      simp only [gcS, e_upd, Nat.reduceEqDiff, ↓reduceIte, n_int]
      rw [n_mkS0 (r' := 0) rfl]
      rfl
end Go.Proofs.YtpkeneadkiabiaaDoor

/- Contracts: fit, Add, the law's add. -/
namespace Go.Proofs.YtpkeneadkiabiaaDoor
open Go Go.Vh

theorem fit_calls (κ : SK) (n : Nat) (hk : okS κ n) (hn : n < 9223372036854775807) : ACalls Tryd.prog 66 [mkS κ 0 0 n] [ro []] [0] fun v H => v = .tuple (if n ≤ 64 then [mkS κ 0 0 n, .int .i64 0] else [.nilslice, .int .i64 8]) ∧ H = [ro []] := by
  refine ACalls.body Tryd.func66 ent_fit ir_fit_ok rs_fit_ok Tryd.ntmps66 (by simp) rfl ?_
  unfold ir_fit
  have e0 : s0 [mkS κ 0 0 n] 0 = mkS κ 0 0 n := rfl
  by_cases h : n ≤ 64
  · simp (disch := omega) only [sS, ↓reduceIte, Nat.reduceEqDiff, Nat.reduceAdd, Nat.reduceMul, Nat.reduceSub, reduceCtorEq, e_none, e_some, e_bindS, e0, k_len hk]
    refine ret_keep (by simp) ⟨?_, rfl⟩
    simp only [e_upd, Nat.reduceEqDiff, ↓reduceIte, if_pos h]
  · simp (disch := omega) only [sS, ↓reduceIte, Nat.reduceEqDiff, Nat.reduceAdd, Nat.reduceMul, Nat.reduceSub, reduceCtorEq, e_none, e_some, e_bindS, e0, k_len hk]
    refine ret_keep (by simp) ⟨?_, rfl⟩
    simp only [e_upd, Nat.reduceEqDiff, ↓reduceIte, if_neg h]

section
variable {K : St → AHeap → Prop} {d : Option Nat} {s : St} {H : AHeap}
/-- A call of tooLong with two numbers. -/
theorem call_tooLong2 {a b b' n n' : Nat} {κ κ' : SK} {row rowb rowb' : ARow} (hk : okS κ n) (hk' : okS κ' n') (hn : n < 9223372036854775807) (hn' : n' < 9223372036854775807) (ha : Vh.rowAt H a = some row) (hc : row.cells = [mkS κ b 0 n, mkS κ' b' 0 n']) (hb : Vh.rowAt H b = some rowb) (hb' : Vh.rowAt H b' = some rowb')
    (hK : K (putI d s (.int .i64 (if n ≤ 64 ∧ n' ≤ 64 then 0 else 4))) H) : thenC Tryd.prog K d s H [.slice a 0 2 2] (.func 60 []) := by
  have hl : alen (mkS κ 1 0 n) = some n := k_len hk (Nat.le_refl _)
  have hl2 : alen (mkS κ' 2 0 n') = some n' := k_len hk' (Nat.le_refl _)
  have hl' : lenOf (mkS κ 1 0 n) = n := by simp [lenOf, hl]
  have hl2' : lenOf (mkS κ' 2 0 n') = n' := by simp [lenOf, hl2]
  have s0' : sig [(a, 0), (b, 0), (b', 0)] H.length 0 = some (a, 0) := rfl
  have s1' : sig [(a, 0), (b, 0), (b', 0)] H.length 1 = some (b, 0) := rfl
  have s2' : sig [(a, 0), (b, 0), (b', 0)] H.length 2 = some (b', 0) := rfl
  refine call_do (tooLong_calls [mkS κ 1 0 n, mkS κ' 2 0 n'] [ro [], ro []] (fun c hc => ?_) (by simp)) [(a, 0), (b, 0), (b', 0)] rfl rfl (allRo_once rfl _) ?_ ⟨seen_ro_whole ha ?_ ?_, seen_ro hb ?_ rfl rfl, seen_ro hb' ?_ rfl rfl, trivial⟩ ?_
  · simp only [List.mem_cons, List.mem_singleton, List.not_mem_nil, or_false] at hc
    rcases hc with rfl | rfl
    · exact ⟨by rw [hl]; rfl, by rw [hl']; exact hn⟩
    · exact ⟨by rw [hl2]; rfl, by rw [hl2']; exact hn'⟩
  · simp only [List.length_cons, List.length_nil]; rw [n_lcons, n_lnil, n_slice s0']; rfl
  · rw [n_lcons, n_lcons, n_lnil, n_mkS0 s1', n_mkS0 s2', hc]
  · simp [underL, mkS_under]
  · simp
  · simp
  · rintro v0 H0' ⟨rfl, rfl⟩
    rw [n_int, m_merge, m_ro, m_ro, m_ro, m_nil]
    have e : ([mkS κ 1 0 n, mkS κ' 2 0 n'].all fun c => decide (lenOf c ≤ 64)) = decide (n ≤ 64 ∧ n' ≤ 64) := by
      simp only [List.all_cons, List.all_nil, Bool.and_true, hl', hl2', Bool.decide_and]
    rw [e]
    simp only [List.length_cons, List.length_nil, Nat.reduceAdd, List.drop_succ_cons, List.drop_zero, List.map_nil, List.append_nil, decide_eq_true_eq]
    exact hK
end

theorem norm_64 {l : List Int} (h : Limbs l) (hn : tz l l.length = l.length) : l.length ≤ 64 ↔ num l < BB ^ 64 :=
  ⟨fun h1 => Int.lt_of_lt_of_le (nv_bound h _).2 (BB_mono h1), fun h1 => norm_len h hn h1⟩

def addX (x y : Int) (long : Prop) [Decidable long] : Int := if long then 0 else if x + y < BB ^ 64 then x + y else 0
def addE (x y : Int) (long : Prop) [Decidable long] : Int := if long then 4 else if x + y < BB ^ 64 then 0 else 8

theorem xAdd_calls (κ κ' : SK) (a b : List Int) (hk : okS κ a.length) (hk' : okS κ' b.length) (hm : a.length ≤ 1000000) (hm' : b.length ≤ 1000000) (ha : Limbs a) (hb : Limbs b) :
    ACalls Tryd.prog 103 [mkS κ 0 0 a.length, mkS κ' 1 0 b.length] [ro (ints .u32 a), ro (ints .u32 b)] [0, 1]
      (FreshE [ro (ints .u32 a), ro (ints .u32 b)] (addX (num a) (num b) (¬ (a.length ≤ 64 ∧ b.length ≤ 64))) (addE (num a) (num b) (¬ (a.length ≤ 64 ∧ b.length ≤ 64)))) := by
  refine ACalls.body Tryd.func103 ent_xAdd ir_xAdd_ok rs_xAdd_ok Tryd.ntmps103 (by simp) rfl ?_
  unfold ir_xAdd
  have e0 : s0 [mkS κ 0 0 a.length, mkS κ' 1 0 b.length] 0 = mkS κ 0 0 a.length := rfl
  have e1 : s0 [mkS κ 0 0 a.length, mkS κ' 1 0 b.length] 1 = mkS κ' 1 0 b.length := rfl
  simp (disch := omega) only [sS, ↓reduceIte, Nat.reduceEqDiff, Nat.reduceAdd, Nat.reduceMul, Nat.reduceSub, reduceCtorEq, e_none, e_some, e_bindS, e0, e1]
  rw [x_bs2 (v := mkS κ 0 0 a.length) (u := mkS κ' 1 0 b.length) (by simp only [e_t, e_upd, Nat.reduceEqDiff, ↓reduceIte]) (by simp only [e_t, e_upd, Nat.reduceEqDiff, ↓reduceIte]) c_mkS c_mkS c_nil]
  simp (disch := omega) only [sS, ↓reduceIte, Nat.reduceEqDiff, Nat.reduceAdd, Nat.reduceMul, Nat.reduceSub, reduceCtorEq, e_none, e_some, e_bindS, e0, e1]
  refine call_tooLong2 (a := 2) (b := 0) (b' := 1) hk hk' (by omega) (by omega) rfl rfl rfl rfl ?_
  have hrow : gcH [0, 1] ([ro (ints .u32 a), ro (ints .u32 b)] ++ [rw_ [mkS κ 0 0 a.length, mkS κ' 1 0 b.length]]) = [ro (ints .u32 a), ro (ints .u32 b)] := by
    simp [gcH, Vh.rowAt, ro, ints_ren]
  by_cases hl : a.length ≤ 64 ∧ b.length ≤ 64
  · simp (disch := omega) only [sS, ↓reduceIte, Nat.reduceEqDiff, Nat.reduceAdd, Nat.reduceMul, Nat.reduceSub, reduceCtorEq, e_none, e_some, e_bindS, if_pos hl, e0, e1]
    refine call_fresh (xadd_fresh κ κ' a b hk hk' hm hm' ha hb) [(0, 0), (1, 0)] rfl rfl ?_ ?_ ⟨seen_ro_whole (row := ⟨false, false, ints .u32 a⟩) rfl (by rw [ints_ren]) (flatL_under ints_flat), seen_ro_whole (row := ⟨false, false, ints .u32 b⟩) rfl (by rw [ints_ren]) (flatL_under ints_flat), trivial⟩ ?_
    · simp [underL, mkS_under]
    · rw [n_lcons, n_lcons, n_lnil, n_mkS0 (r' := 0) rfl, n_mkS0 (r' := 1) rfl]; rfl
    intro κ1 l1 row1 h1
    have h64 := norm_64 h1.limbs h1.norm
    rw [h1.num] at h64
    have hlen : l1.length ≤ 1000000 := by
      have h2 : l1.length ≤ 65 := norm_len h1.limbs h1.norm (by
        rw [h1.num]
        have h3 := Int.lt_of_lt_of_le (nv_bound ha a.length).2 (BB_mono hl.1)
        have h4 := Int.lt_of_lt_of_le (nv_bound hb b.length).2 (BB_mono hl.2)
        have h5 : num a = nv a a.length := rfl
        have h6 : num b = nv b b.length := rfl
        have hb2 : BB = 4294967296 := rfl
        have h7 : BB ^ 65 = BB ^ 64 * 4294967296 := Int.pow_succ _ _
        have h8 := BB_pos 64
        generalize BB ^ 64 = p at *
        omega)
      omega
    simp (disch := omega) only [sS, ↓reduceIte, Nat.reduceEqDiff, Nat.reduceAdd, Nat.reduceMul, Nat.reduceSub, reduceCtorEq, e_none, e_some, e_bindS, e0, e1]
    refine call_do (fit_calls κ1 l1.length h1.ok (by omega)) [(3, 0)] rfl ?_ rfl ?_ ⟨seen_ro (row := row1) rfl (by simp) rfl rfl, trivial⟩ ?_
    · simp [underL, mkS_under]
    · rw [n_lcons, n_lnil, n_mkS0 (r' := 3) rfl]; rfl
    rintro v0 H0' ⟨rfl, rfl⟩
    rw [m_merge, m_ro, m_nil]
    by_cases hf : l1.length ≤ 64
    · rw [if_pos hf, n_tuple, n_lcons, n_lcons, n_lnil, n_int, n_mkS0 (r' := 3) rfl]
      simp (disch := omega) only [sS, ↓reduceIte, Nat.reduceEqDiff, Nat.reduceAdd, Nat.reduceMul, Nat.reduceSub, reduceCtorEq, e_none, e_some, e_bindS, List.getElem?_cons_zero, List.getElem?_cons_succ]
      refine ret_gc [0, 1, 3] rfl ?_ (by simp) ?_
      · simp [gcH, Vh.rowAt, ro, ints_ren, ints_cell, flatL_ren h1.flat]
        simpa using h1.cell
      show FreshE _ _ _ _ _
      refine ⟨κ1, l1, row1, ?_, ?_, ?_⟩
      · simp only [gcS, e_upd, Nat.reduceEqDiff, ↓reduceIte, n_int]
        rw [n_mkS0 (r' := 2) rfl, addE, if_neg (by simpa using hl), if_pos (h64.1 hf)]
        rfl
      · simp [gcH, Vh.rowAt, ro, ints_ren, flatL_ren h1.flat]
      · rw [addX, if_neg (by simpa using hl), if_pos (h64.1 hf)]; exact h1
    · rw [if_neg hf, n_tuple, n_lcons, n_lcons, n_lnil, n_int, n_nil]
      simp (disch := omega) only [sS, ↓reduceIte, Nat.reduceEqDiff, Nat.reduceAdd, Nat.reduceMul, Nat.reduceSub, reduceCtorEq, e_none, e_some, e_bindS, List.getElem?_cons_zero, List.getElem?_cons_succ]
      have hrow2 : gcH [0, 1] ([ro (ints .u32 a), ro (ints .u32 b)] ++ [rw_ [mkS κ 0 0 a.length, mkS κ' 1 0 b.length]] ++ [some row1]) = [ro (ints .u32 a), ro (ints .u32 b)] := by
        simp [gcH, Vh.rowAt, ro, ints_ren]
      refine ⟨_, _, Weak.trans (Weak.gc [0, 1] rfl ?_) Weak.pad, ?_, ?_⟩
      · simp [gcH, Vh.rowAt, ro, ints_ren, ints_cell]
      · simp [gcH]
      show FreshE _ _ _ _ _
      refine ⟨.nil, [], ⟨true, false, []⟩, ?_, ?_, ?_⟩
      · simp only [gcS, e_upd, Nat.reduceEqDiff, ↓reduceIte, n_int, n_nil]
        rw [addE, if_neg (by simpa using hl), if_neg (fun h => hf (h64.2 h))]
        rfl
      · simp [gcH, Vh.rowAt, ro, ints_ren]; rfl
      · rw [addX, if_neg (by simpa using hl), if_neg (fun h => hf (h64.2 h))]; exact new_nil
  · simp (disch := omega) only [sS, ↓reduceIte, Nat.reduceEqDiff, Nat.reduceAdd, Nat.reduceMul, Nat.reduceSub, reduceCtorEq, e_none, e_some, e_bindS, if_neg hl]
    refine ⟨_, _, Weak.trans (Weak.gc [0, 1] rfl ?_) Weak.pad, ?_, ?_⟩
    · simp [gcH, Vh.rowAt, ro, ints_ren, ints_cell]
    · simp [gcH]
    show FreshE _ _ _ _ _
    refine ⟨.nil, [], ⟨true, false, []⟩, ?_, ?_, ?_⟩
    · simp only [gcS, e_upd, Nat.reduceEqDiff, ↓reduceIte, n_int, n_nil]
      rw [addE, if_pos hl]
      rfl
    · simp [gcH, Vh.rowAt, ro, ints_ren]; rfl
    · rw [addX, if_pos hl]; exact new_nil
end Go.Proofs.YtpkeneadkiabiaaDoor

/- ExactPascal's walk. -/
namespace Go.Proofs.YtpkeneadkiabiaaDoor
open Go Go.Vh

theorem ladd_fresh (κ κ' : SK) (a b : List Int) (hk : okS κ a.length) (hk' : okS κ' b.length) (hm : a.length ≤ 1000000) (hm' : b.length ≤ 1000000) (ha : Limbs a) (hb : Limbs b) :
    ACalls Tryd.prog 48 [mkS κ 0 0 a.length, mkS κ' 1 0 b.length] [ro (ints .u32 a), ro (ints .u32 b)] [0, 1]
      (Fresh [ro (ints .u32 a), ro (ints .u32 b)] (addX (num a) (num b) (¬ (a.length ≤ 64 ∧ b.length ≤ 64)))) := by
  refine ACalls.body Tryd.func48 ent_ladd ir_ladd_ok rs_ladd_ok Tryd.ntmps48 (by simp) rfl ?_
  unfold ir_ladd
  have e0 : s0 [mkS κ 0 0 a.length, mkS κ' 1 0 b.length] 0 = mkS κ 0 0 a.length := rfl
  have e1 : s0 [mkS κ 0 0 a.length, mkS κ' 1 0 b.length] 1 = mkS κ' 1 0 b.length := rfl
  simp (disch := omega) only [sS, ↓reduceIte, Nat.reduceEqDiff, Nat.reduceAdd, Nat.reduceMul, Nat.reduceSub, reduceCtorEq, e_none, e_some, e_bindS, e0, e1]
  refine call_freshE (xAdd_calls κ κ' a b hk hk' hm hm' ha hb) [(0, 0), (1, 0)] rfl rfl ?_ ?_ ⟨seen_ro_whole (row := ⟨false, false, ints .u32 a⟩) rfl (by rw [ints_ren]) (flatL_under ints_flat), seen_ro_whole (row := ⟨false, false, ints .u32 b⟩) rfl (by rw [ints_ren]) (flatL_under ints_flat), trivial⟩ ?_
  · simp [underL, mkS_under]
  · rw [n_lcons, n_lcons, n_lnil, n_mkS0 (r' := 0) rfl, n_mkS0 (r' := 1) rfl]; rfl
  intro κ1 l1 row1 h1
  have hrow : gcH [0, 1] ([ro (ints .u32 a), ro (ints .u32 b)] ++ [some row1]) = [ro (ints .u32 a), ro (ints .u32 b)] := by
    simp [gcH, Vh.rowAt, ro, ints_ren]
  by_cases he : addE (num a) (num b) (¬ (a.length ≤ 64 ∧ b.length ≤ 64)) = 0
  · rw [he]
    simp (disch := omega) only [sS, ↓reduceIte, Nat.reduceEqDiff, Nat.reduceAdd, Nat.reduceMul, Nat.reduceSub, reduceCtorEq, e_none, e_some, e_bindS, List.getElem?_cons_zero, List.getElem?_cons_succ]
    refine ret_keep (by simp) ⟨κ1, l1, row1, ?_, rfl, h1⟩
    simp only [e_upd, Nat.reduceEqDiff, ↓reduceIte]
  · have hx : addX (num a) (num b) (¬ (a.length ≤ 64 ∧ b.length ≤ 64)) = 0 := by
      unfold addE at he; unfold addX
      split
      · rfl
      · rename_i h
        rw [if_neg h] at he
        split
        · rename_i h2; rw [if_pos h2] at he; exact (he rfl).elim
        · rfl
    simp (disch := omega) only [sS, ↓reduceIte, Nat.reduceEqDiff, Nat.reduceAdd, Nat.reduceMul, Nat.reduceSub, reduceCtorEq, e_none, e_some, e_bindS, List.getElem?_cons_zero, List.getElem?_cons_succ]
    refine ⟨_, _, Weak.trans (Weak.gc [0, 1] rfl ?_) Weak.pad, ?_, ?_⟩
    · rw [hrow]; simp [ro, ints_cell]
    · rw [hrow]; simp
    show Fresh _ _ _ _
    rw [hx, hrow]
    refine ⟨.nil, [], ⟨true, false, []⟩, ?_, rfl, new_nil⟩
    simp only [gcS, e_upd, Nat.reduceEqDiff, ↓reduceIte, n_nil]
    rfl

theorem new_eq {x : Int} {κ κ' : SK} {l l' : List Int} {row row' : ARow} (h : NewNum x κ l row) (h' : NewNum x κ' l' row') : l = l' := by
  have := num_inj h.limbs h'.limbs (h.num.trans h'.num.symm)
  rwa [h.norm, h'.norm, List.take_length, List.take_length] at this
theorem cI_nat (n k : Nat) : cI n k = ((cnk n k : Nat) : Int) := by
  unfold cI
  split
  · simp
  · rw [cnk_over n k (by omega)]; rfl
theorem bI_nat (n k : Nat) : bI n k = ((ballN n k : Nat) : Int) := by
  unfold bI
  rw [if_neg (by omega)]; simp
theorem ball_limbs' {n k : Nat} (hn : n ≤ 512) {l : List Int} (h : Limbs l) (hn' : tz l l.length = l.length) (he : num l = ((ballN n k : Nat) : Int)) : l.length ≤ 19 := by
  rcases Nat.le_total k n with h1 | h1
  · exact ball_limbs hn (by omega) h hn' he
  · rw [ballN_over n k h1] at he
    exact ball_limbs hn hn h hn' he
end Go.Proofs.YtpkeneadkiabiaaDoor

/- ExactPascal's walk. -/
namespace Go.Proofs.YtpkeneadkiabiaaDoor
open Go Go.Vh

section
variable {K : St → AHeap → Prop} {d : Option Nat} {s : St} {H : AHeap}
/-- A sum of two numbers that stand in rows. -/
theorem call_ladd {x y : Int} {κ κ' : SK} {l l' : List Int} {a b : Nat} {ra rb ra' rb' : ARow} (h1 : NewNum x κ l ra) (h2 : NewNum y κ' l' rb) (hl : l.length ≤ 64) (hl' : l'.length ≤ 64) (hs : x + y < BB ^ 64) (ha : Vh.rowAt H a = some ra') (ea : ra' = ra) (hb : Vh.rowAt H b = some rb') (eb : rb' = rb)
    (hK : ∀ κ l row, NewNum (x + y) κ l row → K (putI d s (mkS κ H.length 0 l.length)) (H ++ [some row])) : thenC Tryd.prog K d s H [mkS κ a 0 l.length, mkS κ' b 0 l'.length] (.func 48 []) := by
  subst ea; subst eb
  have hc := ladd_fresh κ κ' l l' h1.ok h2.ok (by omega) (by omega) h1.limbs h2.limbs
  have hx : addX (num l) (num l') (¬ (l.length ≤ 64 ∧ l'.length ≤ 64)) = x + y := by
    rw [addX, if_neg (by simp [hl, hl']), h1.num, h2.num, if_pos hs]
  rw [hx] at hc
  have q1 := h1.len
  have q2 := h2.len
  refine call_fresh hc [(a, 0), (b, 0)] rfl rfl ?_ ?_ ⟨seen_ro ha (by simp only [ints_length]; omega) (by rw [ints_ren, ints_length, List.drop_zero, h1.cells]) (flatL_under ints_flat), seen_ro hb (by simp only [ints_length]; omega) (by rw [ints_ren, ints_length, List.drop_zero, h2.cells]) (flatL_under ints_flat), trivial⟩ hK
  · simp [underL, mkS_under]
  · rw [n_lcons, n_lcons, n_lnil, n_mkS0 (r' := a) rfl, n_mkS0 (r' := b) rfl]; rfl
theorem call_same_new {x : Int} {κ κ' : SK} {l l' : List Int} {a b : Nat} {ra rb ra' rb' : ARow} (h1 : NewNum x κ l ra) (h2 : NewNum x κ' l' rb) (hl : l.length ≤ 1000000) (hl' : l'.length ≤ 1000000) (ha : Vh.rowAt H a = some ra') (ea : ra' = ra) (hb : Vh.rowAt H b = some rb') (eb : rb' = rb)
    (hK : K (putI d s (.bool true)) H) : thenC Tryd.prog K d s H [mkS κ a 0 l.length, mkS κ' b 0 l'.length] (.func 16 []) := by
  subst ea; subst eb
  refine call_rsame rfl rfl h1.ok h2.ok (by omega) (by omega) ha h1.cells hb h2.cells ?_
  rw [show decide (l = l') = true by rw [new_eq h1 h2]; simp]
  exact hK
end

theorem pascal_calls {Ww : List Nat} (hw : ACalls Tryd.prog 18 [] [] Ww fun v _ => v = .bool true) (n k : Int) (hn : 0 ≤ n ∧ n ≤ 65535) (hk : 0 ≤ k ∧ k ≤ 65535) : ACalls Tryd.prog 12 [.int .u16 n, .int .u16 k] [] [] fun v _ => v = .bool true := by
  refine ACalls.body Tryd.func12 ent_pascal ir_pascal_ok rs_pascal_ok Tryd.ntmps12 (by simp) rfl ?_
  unfold ir_pascal
  have e0 : s0 [.int .u16 n, .int .u16 k] 0 = .int .u16 n := rfl
  have e1 : s0 [.int .u16 n, .int .u16 k] 1 = .int .u16 k := rfl
  obtain ⟨N, hN⟩ : ∃ N : Nat, n % 512 = N := ⟨(n % 512).toNat, by omega⟩
  obtain ⟨A, hA⟩ : ∃ A : Nat, k % 520 = A := ⟨(k % 520).toNat, by omega⟩
  have hN1 : N ≤ 511 := by omega
  have hA1 : A ≤ 519 := by omega
  simp (disch := omega) only [sS, ↓reduceIte, Nat.reduceEqDiff, Nat.reduceAdd, Nat.reduceMul, Nat.reduceSub, reduceCtorEq, e_none, e_some, e_bindS, e0, e1, b_rem, hN, hA]
  have c1 := binomial_calls N A (by omega) (by omega) (by omega)
  have c2 := binomial_calls N ((A : Int) + 1) (by omega) (by omega) (by omega)
  have c3 := binomial_calls (N + 1) ((A : Int) + 1) (by omega) (by omega) (by omega)
  have c4 := ball_calls N A (by omega) (by omega) (by omega)
  have c5 := ball_calls N ((A : Int) + 1) (by omega) (by omega) (by omega)
  rw [cI_nat] at c1
  rw [show (A : Int) + 1 = ((A + 1 : Nat) : Int) by omega, cI_nat] at c2 c3
  rw [bI_nat] at c4
  rw [show (A : Int) + 1 = ((A + 1 : Nat) : Int) by omega, bI_nat] at c5
  rw [show ((N + 1 : Nat) : Int) = (N : Int) + 1 by omega] at c3
  rw [show ((A + 1 : Nat) : Int) = (A : Int) + 1 by omega] at c2 c3 c5
  have hsum : ((cnk (N + 1) (A + 1) : Nat) : Int) = ((cnk N A : Nat) : Int) + ((cnk N (A + 1) : Nat) : Int) := by simp only [cnk]; omega
  have hball : ((ballN N (A + 1) : Nat) : Int) = ((ballN N A : Nat) : Int) + ((cnk N (A + 1) : Nat) : Int) := by simp only [ballN]; omega
  rw [hsum] at c3
  rw [hball] at c5
  refine call_freshE c1 [] rfl rfl rfl rfl trivial ?_
  intro κ1 l1 r1 h1
  simp (disch := omega) only [sS, ↓reduceIte, Nat.reduceEqDiff, Nat.reduceAdd, Nat.reduceMul, Nat.reduceSub, reduceCtorEq, e_none, e_some, e_bindS, List.getElem?_cons_zero, List.getElem?_cons_succ]
  refine call_freshE c2 [] rfl rfl rfl rfl trivial ?_
  intro κ2 l2 r2 h2
  simp (disch := omega) only [sS, ↓reduceIte, Nat.reduceEqDiff, Nat.reduceAdd, Nat.reduceMul, Nat.reduceSub, reduceCtorEq, e_none, e_some, e_bindS, List.getElem?_cons_zero, List.getElem?_cons_succ]
  refine call_freshE c3 [] rfl rfl rfl rfl trivial ?_
  intro κ3 l3 r3 h3
  have q1 := cnk_limbs (by omega) h1.limbs h1.norm h1.num
  have q2 := cnk_limbs (by omega) h2.limbs h2.norm h2.num
  have q3 := cnk_limbs (n := N + 1) (k := A + 1) (by omega) h3.limbs h3.norm (by rw [h3.num, hsum])
  have b3 : ((cnk N A : Nat) : Int) + ((cnk N (A + 1) : Nat) : Int) < BB ^ 64 := by
    have := (norm_64 h3.limbs h3.norm).1 (by omega)
    rwa [h3.num] at this
  simp (disch := omega) only [sS, ↓reduceIte, Nat.reduceEqDiff, Nat.reduceAdd, Nat.reduceMul, Nat.reduceSub, reduceCtorEq, e_none, e_some, e_bindS, List.getElem?_cons_zero, List.getElem?_cons_succ]
  refine call_ladd (a := 0) (b := 1) h1 h2 (by omega) (by omega) b3 rfl rfl rfl rfl ?_
  intro κ4 l4 r4 h4
  have q4 := cnk_limbs (n := N + 1) (k := A + 1) (by omega) h4.limbs h4.norm (by rw [h4.num, hsum])
  simp (disch := omega) only [sS, ↓reduceIte, Nat.reduceEqDiff, Nat.reduceAdd, Nat.reduceMul, Nat.reduceSub, reduceCtorEq, e_none, e_some, e_bindS]
  refine call_same_new (a := 3) (b := 2) h4 h3 (by omega) (by omega) rfl rfl rfl rfl ?_
  simp (disch := omega) only [sS, ↓reduceIte, Nat.reduceEqDiff, Nat.reduceAdd, Nat.reduceMul, Nat.reduceSub, reduceCtorEq, e_none, e_some, e_bindS, Bool.not_true]
  refine call_freshE c4 [] rfl rfl rfl rfl trivial ?_
  intro κ5 l5 r5 h5
  simp (disch := omega) only [sS, ↓reduceIte, Nat.reduceEqDiff, Nat.reduceAdd, Nat.reduceMul, Nat.reduceSub, reduceCtorEq, e_none, e_some, e_bindS, List.getElem?_cons_zero, List.getElem?_cons_succ]
  refine call_freshE c5 [] rfl rfl rfl rfl trivial ?_
  intro κ6 l6 r6 h6
  have q5 := ball_limbs' (n := N) (k := A) (by omega) h5.limbs h5.norm h5.num
  have q6 := ball_limbs' (n := N) (k := A + 1) (by omega) h6.limbs h6.norm (by rw [h6.num, hball])
  have b6 : ((ballN N A : Nat) : Int) + ((cnk N (A + 1) : Nat) : Int) < BB ^ 64 := by
    have := (norm_64 h6.limbs h6.norm).1 (by omega)
    rwa [h6.num] at this
  simp (disch := omega) only [sS, ↓reduceIte, Nat.reduceEqDiff, Nat.reduceAdd, Nat.reduceMul, Nat.reduceSub, reduceCtorEq, e_none, e_some, e_bindS, List.getElem?_cons_zero, List.getElem?_cons_succ]
  refine call_ladd (a := 4) (b := 1) h5 h2 (by omega) (by omega) b6 rfl rfl rfl rfl ?_
  intro κ7 l7 r7 h7
  have q7 := ball_limbs' (n := N) (k := A + 1) (by omega) h7.limbs h7.norm (by rw [h7.num, hball])
  simp (disch := omega) only [sS, ↓reduceIte, Nat.reduceEqDiff, Nat.reduceAdd, Nat.reduceMul, Nat.reduceSub, reduceCtorEq, e_none, e_some, e_bindS]
  refine call_same_new (a := 6) (b := 5) h7 h6 (by omega) (by omega) rfl rfl rfl rfl ?_
  simp (disch := omega) only [sS, ↓reduceIte, Nat.reduceEqDiff, Nat.reduceAdd, Nat.reduceMul, Nat.reduceSub, reduceCtorEq, e_none, e_some, e_bindS]
  refine call_true hw fun H' => ?_
  simp (disch := omega) only [sS, ↓reduceIte, Nat.reduceEqDiff, Nat.reduceAdd, Nat.reduceMul, Nat.reduceSub, reduceCtorEq, e_none, e_some, e_bindS]
  refine ret_keep (by simp) ?_
  first | rfl | (show _ = _; rfl)
end Go.Proofs.YtpkeneadkiabiaaDoor
