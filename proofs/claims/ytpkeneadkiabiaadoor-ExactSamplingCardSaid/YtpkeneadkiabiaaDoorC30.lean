/- Contracts: the ones of a number; ExactSets' walk. -/
import Derived.Test.YtpkeneadkiabiaaDoorV7
import Derived.Test.YtpkeneadkiabiaaDoorCD
import Derived.Test.YtpkeneadkiabiaaDoorIrE
import Derived.Test.YtpkeneadkiabiaaDoorPc1
import Derived.Test.YtpkeneadkiabiaaDoorVX
set_option linter.unusedSimpArgs false
set_option linter.unusedVariables false
namespace Go.Proofs.YtpkeneadkiabiaaDoor
open Go Go.Vh Go.Pc

theorem num_two (x : Int) : num (two x) = x := by
  simp [num, two, nv, BB]; omega
theorem ones_calls (n : Nat) (hn : n ≤ 9223372036854775807) : ACalls Tryd.prog 57 [.int .i64 (n : Int)] [] [] fun v H => v = .int .i64 ((pc n : Nat) : Int) ∧ H = [] := by
  refine ACalls.trim1 (W := List.range 0) ?_ rfl
  refine ACalls.body Tryd.func57 ent_ones ir_ones_ok rs_ones_ok Tryd.ntmps57 (by simp) rfl ?_
  unfold ir_ones
  have e0 : s0 [.int .i64 (n : Int)] 0 = .int .i64 n := rfl
  simp (disch := omega) only [sS, ↓reduceIte, Nat.reduceEqDiff, Nat.reduceAdd, Nat.reduceMul, Nat.reduceSub, reduceCtorEq, e_none, e_some, e_bindS]
  refine ⟨fun t s H => ∃ c : Nat, t ≤ n ∧ c + pc t = pc n ∧ s 0 = .int .i64 (t : Int) ∧ s 3 = .int .i64 (c : Int), n, ⟨0, Nat.le_refl _, by omega, ?_, ?_⟩, ?_⟩
  · simp only [e_upd, e_putS, e_putN, e_t, e_c, Nat.reduceEqDiff, ↓reduceIte, reduceCtorEq, Nat.reduceAdd, e0]
  · simp only [e_upd, e_putS, e_putN, e_t, e_c, Nat.reduceEqDiff, ↓reduceIte, reduceCtorEq, Nat.reduceAdd]; rfl
  rintro t s H ⟨c, ht, hc, h0, h3⟩
  rcases Nat.eq_zero_or_pos t with rfl | hp
  · have h0' : s 0 = .int .i64 0 := h0
    rw [pc_zero] at hc
    simp (disch := omega) only [sS, ↓reduceIte, Nat.reduceEqDiff, Nat.reduceAdd, Nat.reduceMul, Nat.reduceSub, reduceCtorEq, e_none, e_some, e_bindS, h0', h3]
    refine ret_keep (by simp) ?_
    simp only [rs_ones, q_tmp, q_then, e_upd, e_putS, e_putN, e_t, e_c, Nat.reduceEqDiff, ↓reduceIte, reduceCtorEq, Nat.reduceAdd]
    rw [show c = pc n by omega]
  · have hpc := pc_pos hp
    have hle := pc_le n
    simp (disch := omega) only [sS, ↓reduceIte, Nat.reduceEqDiff, Nat.reduceAdd, Nat.reduceMul, Nat.reduceSub, reduceCtorEq, e_none, e_some, e_bindS, h0, h3, b_rem, b_quo]
    refine loop_keep (m := t / 2) (by omega) ⟨c + t % 2, by omega, by omega, ?_, ?_⟩
    · simp only [e_upd, e_putS, e_putN, e_t, e_c, Nat.reduceEqDiff, ↓reduceIte, reduceCtorEq, Nat.reduceAdd]; congr 1
    · simp only [e_upd, e_putS, e_putN, e_t, e_c, Nat.reduceEqDiff, ↓reduceIte, reduceCtorEq, Nat.reduceAdd]; congr 1

section
variable {K : St → AHeap → Prop} {d : Option Nat} {s : St} {H : AHeap}
/-- A number that stands in a row, and the one of 64 bits. -/
theorem call_same_of {x : Int} {κ : SK} {l : List Int} {a b : Nat} {ra ra' rb : ARow} (h0 : 0 ≤ x) (h1 : x ≤ 18446744073709551615) (h : NewNum x κ l ra) (ha : Vh.rowAt H a = some ra') (ea : ra' = ra) (hb : Vh.rowAt H b = some rb)
    (hcb : rb.cells.take (tz (two x) 2) = ints .u32 ((two x).take (tz (two x) 2))) (hK : K (putI d s (.bool true)) H) : thenC Tryd.prog K d s H [mkS κ a 0 l.length, mkS (upK (tz (two x) 2)) b 0 (tz (two x) 2)] (.func 16 []) := by
  subst ea
  have hn := new_of_trim (S := two x) (x := x) (c := 2) (row := ⟨true, false, ints .u32 (two x)⟩) (two_range h0 h1) (num_two x) (tz_le _ 2) rfl rfl
  have e := new_eq h hn
  have ht := tz_le (two x) 2
  have htl : ((two x).take (tz (two x) 2)).length = tz (two x) 2 := by rw [List.length_take, two_length]; omega
  have hll : l.length = tz (two x) 2 := by rw [e]; exact htl
  refine call_rsame (l' := (two x).take (tz (two x) 2)) rfl htl h.ok (by unfold upK; split <;> simp_all [okS]) (by omega) (by omega) ha h.cells hb hcb ?_
  rw [show decide (l = (two x).take (tz (two x) 2)) = true by rw [decide_eq_true_eq]; exact e]
  exact hK
end

theorem shl13 (N : Nat) (h : N ≤ 12) : abin .shl (.int .i64 1) (.int .u64 (N : Int)) = some (.int .i64 ((2 ^ N : Nat) : Int)) := by
  rcases (show N = 0 ∨ N = 1 ∨ N = 2 ∨ N = 3 ∨ N = 4 ∨ N = 5 ∨ N = 6 ∨ N = 7 ∨ N = 8 ∨ N = 9 ∨ N = 10 ∨ N = 11 ∨ N = 12 by omega) with rfl | rfl | rfl | rfl | rfl | rfl | rfl | rfl | rfl | rfl | rfl | rfl | rfl <;> rfl
theorem pow13 (N : Nat) (h : N ≤ 12) : 2 ^ N ≤ 4096 := Nat.le_trans (Nat.pow_le_pow_right (by omega) h) (by decide)

theorem sets_calls {Ww : List Nat} (hw : ACalls Tryd.prog 18 [] [] Ww fun v _ => v = .bool true) (n k : Int) (hn : 0 ≤ n ∧ n ≤ 255) (hk : 0 ≤ k ∧ k ≤ 255) : ACalls Tryd.prog 11 [.int .u8 n, .int .u8 k] [] [] fun v _ => v = .bool true := by
  refine ACalls.body Tryd.func11 ent_sets ir_sets_ok rs_sets_ok Tryd.ntmps11 (by simp) rfl ?_
  unfold ir_sets
  have e0 : s0 [.int .u8 n, .int .u8 k] 0 = .int .u8 n := rfl
  have e1 : s0 [.int .u8 n, .int .u8 k] 1 = .int .u8 k := rfl
  obtain ⟨N, hN⟩ : ∃ N : Nat, n % 13 = N := ⟨(n % 13).toNat, by omega⟩
  obtain ⟨A, hA⟩ : ∃ A : Nat, k % 16 = A := ⟨(k % 16).toNat, by omega⟩
  have hN1 : N ≤ 12 := by omega
  have hA1 : A ≤ 15 := by omega
  have hp := pow13 N hN1
  have hsh := shl13 N hN1
  obtain ⟨M, hM⟩ : ∃ M, 2 ^ N = M := ⟨_, rfl⟩
  rw [hM] at hp hsh
  simp (disch := omega) only [sS, ↓reduceIte, Nat.reduceEqDiff, Nat.reduceAdd, Nat.reduceMul, Nat.reduceSub, reduceCtorEq, e_none, e_some, e_bindS, e0, e1, b_rem, hN, hA]
  refine ⟨fun t s H => ∃ j : Nat, t = M - j ∧ j ≤ M ∧ s 5 = .int .i64 (N : Int) ∧ s 6 = .int .i64 (A : Int) ∧ s 7 = .int .u64 ((cs (fun s => decide (pc s = A)) j : Nat) : Int) ∧ s 8 = .int .u64 ((cs (fun s => decide (pc s ≤ A)) j : Nat) : Int) ∧ s 9 = .int .i64 (j : Int) ∧ H = [], M, ⟨0, rfl, by omega, ?_, ?_, ?_, ?_, ?_, rfl⟩, ?_⟩
  · simp only [e_upd, e_putS, e_putN, e_t, e_c, Nat.reduceEqDiff, ↓reduceIte, reduceCtorEq, Nat.reduceAdd]
  · simp only [e_upd, e_putS, e_putN, e_t, e_c, Nat.reduceEqDiff, ↓reduceIte, reduceCtorEq, Nat.reduceAdd]
  · simp only [e_upd, e_putS, e_putN, e_t, e_c, Nat.reduceEqDiff, ↓reduceIte, reduceCtorEq, Nat.reduceAdd]; rfl
  · simp only [e_upd, e_putS, e_putN, e_t, e_c, Nat.reduceEqDiff, ↓reduceIte, reduceCtorEq, Nat.reduceAdd]; rfl
  · simp only [e_upd, e_putS, e_putN, e_t, e_c, Nat.reduceEqDiff, ↓reduceIte, reduceCtorEq, Nat.reduceAdd]; rfl
  rintro t s H ⟨j, rfl, hj, h5, h6, h7, h8, h9, rfl⟩
  by_cases hlt : j < M
  · have q1 := cs_le (fun s => decide (pc s = A)) j
    have q2 := cs_le (fun s => decide (pc s ≤ A)) j
    have q3 := pc_le j
    simp (disch := omega) only [sS, ↓reduceIte, Nat.reduceEqDiff, Nat.reduceAdd, Nat.reduceMul, Nat.reduceSub, reduceCtorEq, e_none, e_some, e_bindS, h5, h6, h7, h8, h9, hsh]
    refine call_sc (ones_calls j (by omega)) rfl rfl (fun _ => rfl) ?_
    obtain ⟨p, hp'⟩ : ∃ p, pc j = p := ⟨_, rfl⟩
    rw [hp'] at q3 ⊢
    have f1 : cs (fun s => decide (pc s = A)) (j + 1) = cs (fun s => decide (pc s = A)) j + if p = A then 1 else 0 := by
      rw [cs, hp']; simp
    have f2 : cs (fun s => decide (pc s ≤ A)) (j + 1) = cs (fun s => decide (pc s ≤ A)) j + if p ≤ A then 1 else 0 := by
      rw [cs, hp']; simp
    rcases Nat.lt_trichotomy p A with h | h | h
    · rw [if_neg (by omega)] at f1
      rw [if_pos (by omega)] at f2
      simp (disch := omega) only [sS, ↓reduceIte, Nat.reduceEqDiff, Nat.reduceAdd, Nat.reduceMul, Nat.reduceSub, reduceCtorEq, e_none, e_some, e_bindS, h5, h6, h7, h8, h9]
      refine loop_keep (m := M - (j + 1)) (by omega) ⟨j + 1, rfl, by omega, ?_, ?_, ?_, ?_, ?_, rfl⟩
      · simp only [e_upd, e_putS, e_putN, e_t, e_c, Nat.reduceEqDiff, ↓reduceIte, reduceCtorEq, Nat.reduceAdd, h5]
      · simp only [e_upd, e_putS, e_putN, e_t, e_c, Nat.reduceEqDiff, ↓reduceIte, reduceCtorEq, Nat.reduceAdd, h6]
      · simp only [e_upd, e_putS, e_putN, e_t, e_c, Nat.reduceEqDiff, ↓reduceIte, reduceCtorEq, Nat.reduceAdd, h7, f1]; rfl
      · simp only [e_upd, e_putS, e_putN, e_t, e_c, Nat.reduceEqDiff, ↓reduceIte, reduceCtorEq, Nat.reduceAdd, f2]; rfl
      · simp only [e_upd, e_putS, e_putN, e_t, e_c, Nat.reduceEqDiff, ↓reduceIte, reduceCtorEq, Nat.reduceAdd]; rfl
    · rw [if_pos (by omega)] at f1
      rw [if_pos (by omega)] at f2
      simp (disch := omega) only [sS, ↓reduceIte, Nat.reduceEqDiff, Nat.reduceAdd, Nat.reduceMul, Nat.reduceSub, reduceCtorEq, e_none, e_some, e_bindS, h5, h6, h7, h8, h9]
      refine loop_keep (m := M - (j + 1)) (by omega) ⟨j + 1, rfl, by omega, ?_, ?_, ?_, ?_, ?_, rfl⟩
      · simp only [e_upd, e_putS, e_putN, e_t, e_c, Nat.reduceEqDiff, ↓reduceIte, reduceCtorEq, Nat.reduceAdd, h5]
      · simp only [e_upd, e_putS, e_putN, e_t, e_c, Nat.reduceEqDiff, ↓reduceIte, reduceCtorEq, Nat.reduceAdd, h6]
      · simp only [e_upd, e_putS, e_putN, e_t, e_c, Nat.reduceEqDiff, ↓reduceIte, reduceCtorEq, Nat.reduceAdd, f1]; rfl
      · simp only [e_upd, e_putS, e_putN, e_t, e_c, Nat.reduceEqDiff, ↓reduceIte, reduceCtorEq, Nat.reduceAdd, f2]; rfl
      · simp only [e_upd, e_putS, e_putN, e_t, e_c, Nat.reduceEqDiff, ↓reduceIte, reduceCtorEq, Nat.reduceAdd]; rfl
    · rw [if_neg (by omega)] at f1
      rw [if_neg (by omega)] at f2
      simp (disch := omega) only [sS, ↓reduceIte, Nat.reduceEqDiff, Nat.reduceAdd, Nat.reduceMul, Nat.reduceSub, reduceCtorEq, e_none, e_some, e_bindS, h5, h6, h7, h8, h9]
      refine loop_keep (m := M - (j + 1)) (by omega) ⟨j + 1, rfl, by omega, ?_, ?_, ?_, ?_, ?_, rfl⟩
      · simp only [e_upd, e_putS, e_putN, e_t, e_c, Nat.reduceEqDiff, ↓reduceIte, reduceCtorEq, Nat.reduceAdd, h5]
      · simp only [e_upd, e_putS, e_putN, e_t, e_c, Nat.reduceEqDiff, ↓reduceIte, reduceCtorEq, Nat.reduceAdd, h6]
      · simp only [e_upd, e_putS, e_putN, e_t, e_c, Nat.reduceEqDiff, ↓reduceIte, reduceCtorEq, Nat.reduceAdd, h7, f1]; rfl
      · simp only [e_upd, e_putS, e_putN, e_t, e_c, Nat.reduceEqDiff, ↓reduceIte, reduceCtorEq, Nat.reduceAdd, h8, f2]; rfl
      · simp only [e_upd, e_putS, e_putN, e_t, e_c, Nat.reduceEqDiff, ↓reduceIte, reduceCtorEq, Nat.reduceAdd]; rfl
  obtain rfl : j = M := by omega
  have g1 : cs (fun s => decide (pc s = A)) j = cnk N A := by rw [← hM]; exact sets_just (c := cnk) cnk_zero (fun _ => rfl) (fun n k => by simp only [cnk]) N A
  have g2 : cs (fun s => decide (pc s ≤ A)) j = ballN N A := by rw [← hM]; exact sets_most (c := cnk) (b := ballN) cnk_zero (fun _ => rfl) (fun n k => by simp only [cnk]) (fun _ => rfl) (fun _ _ => rfl) N A
  have q1 := cs_le (fun s => decide (pc s = A)) j
  have q2 := cs_le (fun s => decide (pc s ≤ A)) j
  rw [g1] at h7 q1
  rw [g2] at h8 q2
  simp (disch := omega) only [sS, ↓reduceIte, Nat.reduceEqDiff, Nat.reduceAdd, Nat.reduceMul, Nat.reduceSub, reduceCtorEq, e_none, e_some, e_bindS, h5, h6, h7, h8, h9, hsh]
  have c1 := binomial_calls N A (by omega) (by omega) (by omega)
  have c4 := ball_calls N A (by omega) (by omega) (by omega)
  rw [cI_nat] at c1
  rw [bI_nat] at c4
  refine call_freshE c1 [] rfl rfl rfl rfl trivial ?_
  intro κ1 l1 r1 h1
  simp (disch := omega) only [sS, ↓reduceIte, Nat.reduceEqDiff, Nat.reduceAdd, Nat.reduceMul, Nat.reduceSub, reduceCtorEq, e_none, e_some, e_bindS, h5, h6, h7, h8, List.getElem?_cons_zero, List.getElem?_cons_succ]
  refine call_freshE c4 [] rfl rfl rfl rfl trivial ?_
  intro κ2 l2 r2 h2
  simp (disch := omega) only [sS, ↓reduceIte, Nat.reduceEqDiff, Nat.reduceAdd, Nat.reduceMul, Nat.reduceSub, reduceCtorEq, e_none, e_some, e_bindS, h5, h6, h7, h8, List.getElem?_cons_zero, List.getElem?_cons_succ, beq_self_eq_true]
  refine call_do (rof_calls ((cnk N A : Nat) : Int) (by omega) (by omega)) [] rfl rfl rfl rfl trivial ?_
  rintro v0 H0' ⟨rfl, row, rfl, hown, hrow⟩
  rw [m_merge, m_nil, n_mkS (r' := 2) (d := 0) rfl]
  simp (disch := omega) only [sS, ↓reduceIte, Nat.reduceEqDiff, Nat.reduceAdd, Nat.reduceMul, Nat.reduceSub, reduceCtorEq, e_none, e_some, e_bindS, h5, h6, h7, h8, beq_self_eq_true]
  refine call_same_of (a := 0) (b := 2) (rb := ⟨true, row.slack, renL (sig [] 2) row.cells⟩) (by omega) (by omega) h1 rfl rfl ?_ ?_ ?_
  · simp [Vh.rowAt, renRow, hown]
  · rw [renL_take, hrow, ints_ren]
  simp (disch := omega) only [sS, ↓reduceIte, Nat.reduceEqDiff, Nat.reduceAdd, Nat.reduceMul, Nat.reduceSub, reduceCtorEq, e_none, e_some, e_bindS, h5, h6, h7, h8, beq_self_eq_true]
  refine call_do (rof_calls ((ballN N A : Nat) : Int) (by omega) (by omega)) [] rfl rfl rfl rfl trivial ?_
  rintro v0 H0' ⟨rfl, row', rfl, hown', hrow'⟩
  rw [m_merge, m_nil, n_mkS (r' := 3) (d := 0) rfl]
  simp (disch := omega) only [sS, ↓reduceIte, Nat.reduceEqDiff, Nat.reduceAdd, Nat.reduceMul, Nat.reduceSub, reduceCtorEq, e_none, e_some, e_bindS, h5, h6, h7, h8, beq_self_eq_true]
  refine call_same_of (a := 1) (b := 3) (rb := ⟨true, row'.slack, renL (sig [] 3) row'.cells⟩) (by omega) (by omega) h2 rfl rfl ?_ ?_ ?_
  · simp [Vh.rowAt, renRow, hown']
  · rw [renL_take, hrow', ints_ren]
  simp (disch := omega) only [sS, ↓reduceIte, Nat.reduceEqDiff, Nat.reduceAdd, Nat.reduceMul, Nat.reduceSub, reduceCtorEq, e_none, e_some, e_bindS, h5, h6, h7, h8, beq_self_eq_true]
  refine call_true hw fun H' => ?_
  simp (disch := omega) only [sS, ↓reduceIte, Nat.reduceEqDiff, Nat.reduceAdd, Nat.reduceMul, Nat.reduceSub, reduceCtorEq, e_none, e_some, e_bindS]
  refine ret_keep (by simp) ?_
  first | rfl | (show _ = _; rfl)
end Go.Proofs.YtpkeneadkiabiaaDoor
