/- Contracts: the reference's numbers to the base 256: sub, compare, mul. -/
import Derived.Test.YthbhljolpnbdlaaVX
import Derived.Test.YthbhljolpnbdlaaPL
set_option linter.unusedSimpArgs false
set_option linter.unusedVariables false
-- NEWSET
namespace Go.Proofs.Ythbhljolpnbdlaa.S1
open Go Go.Vh

set_option maxHeartbeats 1000000 in
theorem rsub_calls (κ κ' : SK) (a b : List Int) (p q : Nat) (hk : okS κ a.length) (hk' : okS κ' b.length) (hm : a.length ≤ 100000) (hm' : b.length ≤ a.length) (ha : Dg.DL a) (hb : Dg.DL b) (hp : Dg.num a = p) (hq : Dg.num b = q) (hqp : q ≤ p) :
    ACalls Try.prog 159 [mkS κ 0 0 a.length, mkS κ' 1 0 b.length] [ro (ints .i64 a), ro (ints .i64 b)] (List.range 2) (DNew [ro (ints .i64 a), ro (ints .i64 b)] (p - q)) := by
  refine ACalls.body Try.func159 ent_rsub ir_rsub_ok rs_rsub_ok Try.ntmps159 (by simp) rfl ?_
  unfold ir_rsub
  have e0 : s0 [mkS κ 0 0 a.length, mkS κ' 1 0 b.length] 0 = mkS κ 0 0 a.length := rfl
  have e1 : s0 [mkS κ 0 0 a.length, mkS κ' 1 0 b.length] 1 = mkS κ' 1 0 b.length := rfl
  simp (disch := omega) only [sN, ↓reduceIte, Nat.reduceEqDiff, Nat.reduceAdd, Nat.reduceMul, Nat.reduceSub, reduceCtorEq, e_none, e_some, e_bindS]
  refine ⟨fun m s H => ∃ i : Nat, m = a.length - i ∧ i ≤ a.length ∧ s 0 = mkS κ 0 0 a.length ∧ s 1 = mkS κ' 1 0 b.length ∧ s 6 = .int .i64 (Dg.subD a b i).2 ∧ s 7 = .int .i64 (i : Int) ∧ grownI [ro (ints .i64 a), ro (ints .i64 b)] (Dg.subD a b i).1 (s 5) H, a.length, ⟨0, rfl, by omega, ?_, ?_, ?_, ?_, .inl ⟨rfl, ?_, rfl⟩⟩, ?_⟩
  · simp only [e_upd, e_putS, e_putN, e_t, e_c, Nat.reduceEqDiff, ↓reduceIte, reduceCtorEq, Nat.reduceAdd, e0]
  · simp only [e_upd, e_putS, e_putN, e_t, e_c, Nat.reduceEqDiff, ↓reduceIte, reduceCtorEq, Nat.reduceAdd, e1]
  · simp only [e_upd, e_putS, e_putN, e_t, e_c, Nat.reduceEqDiff, ↓reduceIte, reduceCtorEq, Nat.reduceAdd]; rfl
  · simp only [e_upd, e_putS, e_putN, e_t, e_c, Nat.reduceEqDiff, ↓reduceIte, reduceCtorEq, Nat.reduceAdd]; rfl
  · simp only [e_upd, e_putS, e_putN, e_t, e_c, Nat.reduceEqDiff, ↓reduceIte, reduceCtorEq, Nat.reduceAdd]
  rintro m s H ⟨i, rfl, hi, h0, h1, h6, h7, hg⟩
  obtain ⟨c0, c1⟩ := Dg.subD_borrow a b i
  have hlen := Dg.subD_length a b i
  have hai := ha i
  have hbi := hb i
  have hst : Dg.subD a b (i + 1) = if a.getD i 0 - (Dg.subD a b i).2 - b.getD i 0 < 0 then ((Dg.subD a b i).1 ++ [a.getD i 0 - (Dg.subD a b i).2 - b.getD i 0 + 256], 1) else ((Dg.subD a b i).1 ++ [a.getD i 0 - (Dg.subD a b i).2 - b.getD i 0], 0) := rfl
  obtain ⟨c, hc⟩ : ∃ c, (Dg.subD a b i).2 = c := ⟨_, rfl⟩
  obtain ⟨x, hx⟩ : ∃ x, a.getD i 0 = x := ⟨_, rfl⟩
  obtain ⟨y, hy⟩ : ∃ y, b.getD i 0 = y := ⟨_, rfl⟩
  simp only [hc, hx, hy] at h6 c0 c1 hai hbi hst
  by_cases la : (i : Int) < (a.length : Int)
  · have ia : aindexAddr 1 (mkS κ 0 0 a.length) (.int .i64 (i : Int)) = some (.ptr 0 i) := by
      rw [k_idx hk (Nat.le_refl _) (by omega) la]; simp
    have ga : (ints .i64 a)[i]? = some (.int .i64 x) := by rw [ints_get (by omega), hx]
    by_cases lb : (i : Int) < (b.length : Int)
    · have ib : aindexAddr 1 (mkS κ' 1 0 b.length) (.int .i64 (i : Int)) = some (.ptr 1 i) := by
        rw [k_idx hk' (Nat.le_refl _) (by omega) lb]; simp
      have gb : (ints .i64 b)[i]? = some (.int .i64 y) := by rw [ints_get (by omega), hy]
      by_cases neg : x - c - y < 0
      · have stp : Dg.subD a b (i + 1) = ((Dg.subD a b i).1 ++ [x - c - y + 256], 1) := by rw [hst, if_pos neg]
        rcases hg with ⟨hz, h5, rfl⟩ | ⟨hpos, h5, rfl⟩
        · simp (disch := omega) only [sN, ↓reduceIte, Nat.reduceEqDiff, Nat.reduceAdd, Nat.reduceMul, Nat.reduceSub, reduceCtorEq, e_none, e_some, e_bindS, h0, h1, h6, h7, k_len hk, k_len hk', ia, ga, ib, gb, h5]
          rw [x_bs1 (v := .int .i64 (x - c - y + 256)) (by simp only [e_upd, e_putS, e_putN, e_t, e_c, Nat.reduceEqDiff, ↓reduceIte, reduceCtorEq, Nat.reduceAdd]) rfl]
          simp (disch := omega) only [sN, ↓reduceIte, Nat.reduceEqDiff, Nat.reduceAdd, Nat.reduceMul, Nat.reduceSub, reduceCtorEq, e_none, e_some, e_bindS, h0, h1, h6, h7, k_len hk, k_len hk', ia, ga, ib, gb, h5]
          rw [x_appN (r := 2) (m := 1) (c := 1) (row := ⟨true, false, [.int .i64 (x - c - y + 256)]⟩) (xs := [.int .i64 (x - c - y + 256)]) (by simp only [e_upd, e_putS, e_putN, e_t, e_c, Nat.reduceEqDiff, ↓reduceIte, reduceCtorEq, Nat.reduceAdd, h5]) (by simp only [e_upd, e_putS, e_putN, e_t, e_c, Nat.reduceEqDiff, ↓reduceIte, reduceCtorEq, Nat.reduceAdd]; rfl) rfl rfl (by simp) (by omega) rfl]
          simp (disch := omega) only [sN, ↓reduceIte, Nat.reduceEqDiff, Nat.reduceAdd, Nat.reduceMul, Nat.reduceSub, reduceCtorEq, e_none, e_some, e_bindS, h0, h1, h6, h7, k_len hk, k_len hk', ia, ga, ib, gb, h5]
          refine loop_gc (m := a.length - (i + 1)) [0, 1, 3] rfl ?_ (by omega) ⟨i + 1, rfl, by omega, ?_, ?_, ?_, ?_, .inr ⟨by rw [Dg.subD_length]; omega, ?_, ?_⟩⟩
          · simp [gcH, Vh.rowAt, ro, rw_, sl, ints_ren, ints_cell, n_lcons, n_lnil, n_int, AV.cell]
          · exact gc_at (v := mkS κ 0 0 a.length) (by simp only [e_upd, e_putS, e_putN, e_t, e_c, Nat.reduceEqDiff, ↓reduceIte, reduceCtorEq, Nat.reduceAdd, h0]) (n_mkS0 rfl)
          · exact gc_at (v := mkS κ' 1 0 b.length) (by simp only [e_upd, e_putS, e_putN, e_t, e_c, Nat.reduceEqDiff, ↓reduceIte, reduceCtorEq, Nat.reduceAdd, h1]) (n_mkS0 rfl)
          · rw [stp]; exact gc_at (v := .int .i64 1) (by simp only [e_upd, e_putS, e_putN, e_t, e_c, Nat.reduceEqDiff, ↓reduceIte, reduceCtorEq, Nat.reduceAdd]) rfl
          · exact gc_at (v := .int .i64 ((i + 1 : Nat) : Int)) (by simp only [e_upd, e_putS, e_putN, e_t, e_c, Nat.reduceEqDiff, ↓reduceIte, reduceCtorEq, Nat.reduceAdd]; rfl) rfl
          · rw [Dg.subD_length a b (i + 1)]; have : i = 0 := by omega
            subst this; exact gc_at (v := .sliceU 3 0 1 1) (by simp only [e_upd, e_putS, e_putN, e_t, e_c, Nat.reduceEqDiff, ↓reduceIte, reduceCtorEq, Nat.reduceAdd]; rfl) rfl
          · rw [stp, show (Dg.subD a b i).1 = [] from List.eq_nil_of_length_eq_zero (by rw [Dg.subD_length]; omega)]
            simp [gcH, Vh.rowAt, ro, rw_, sl, ints_ren, n_lcons, n_lnil, n_int, ints1]
        · simp (disch := omega) only [sN, ↓reduceIte, Nat.reduceEqDiff, Nat.reduceAdd, Nat.reduceMul, Nat.reduceSub, reduceCtorEq, e_none, e_some, e_bindS, h0, h1, h6, h7, k_len hk, k_len hk', ia, ga, ib, gb, h5, List.cons_append, List.nil_append]
          rw [x_bs1 (v := .int .i64 (x - c - y + 256)) (by simp only [e_upd, e_putS, e_putN, e_t, e_c, Nat.reduceEqDiff, ↓reduceIte, reduceCtorEq, Nat.reduceAdd]) rfl]
          simp (disch := omega) only [sN, ↓reduceIte, Nat.reduceEqDiff, Nat.reduceAdd, Nat.reduceMul, Nat.reduceSub, reduceCtorEq, e_none, e_some, e_bindS, h0, h1, h6, h7, k_len hk, k_len hk', ia, ga, ib, gb, h5, List.cons_append, List.nil_append]
          rw [x_appU (q := 2) (n := i) (r := 3) (m := 1) (c := 1) (row := ⟨true, false, [.int .i64 (x - c - y + 256)]⟩) (xs := [.int .i64 (x - c - y + 256)]) (old := ints .i64 (Dg.subD a b i).1) (by simp only [e_upd, e_putS, e_putN, e_t, e_c, Nat.reduceEqDiff, ↓reduceIte, reduceCtorEq, Nat.reduceAdd, h5, Dg.subD_length]; rfl) (by simp only [e_upd, e_putS, e_putN, e_t, e_c, Nat.reduceEqDiff, ↓reduceIte, reduceCtorEq, Nat.reduceAdd]; rfl) rfl (by rw [ints_length, Dg.subD_length]) rfl rfl (by simp) (by omega) rfl, ints_snoc]
          simp (disch := omega) only [sN, ↓reduceIte, Nat.reduceEqDiff, Nat.reduceAdd, Nat.reduceMul, Nat.reduceSub, reduceCtorEq, e_none, e_some, e_bindS, h0, h1, h6, h7, k_len hk, k_len hk', ia, ga, ib, gb, h5]
          refine loop_gc (m := a.length - (i + 1)) [0, 1, 4] rfl ?_ (by omega) ⟨i + 1, rfl, by omega, ?_, ?_, ?_, ?_, .inr ⟨by rw [Dg.subD_length]; omega, ?_, ?_⟩⟩
          · simp [gcH, Vh.rowAt, ro, rw_, sl, ints_ren, ints_cell]
          · exact gc_at (v := mkS κ 0 0 a.length) (by simp only [e_upd, e_putS, e_putN, e_t, e_c, Nat.reduceEqDiff, ↓reduceIte, reduceCtorEq, Nat.reduceAdd, h0]) (n_mkS0 rfl)
          · exact gc_at (v := mkS κ' 1 0 b.length) (by simp only [e_upd, e_putS, e_putN, e_t, e_c, Nat.reduceEqDiff, ↓reduceIte, reduceCtorEq, Nat.reduceAdd, h1]) (n_mkS0 rfl)
          · rw [stp]; exact gc_at (v := .int .i64 1) (by simp only [e_upd, e_putS, e_putN, e_t, e_c, Nat.reduceEqDiff, ↓reduceIte, reduceCtorEq, Nat.reduceAdd]) rfl
          · exact gc_at (v := .int .i64 ((i + 1 : Nat) : Int)) (by simp only [e_upd, e_putS, e_putN, e_t, e_c, Nat.reduceEqDiff, ↓reduceIte, reduceCtorEq, Nat.reduceAdd]; rfl) rfl
          · rw [Dg.subD_length a b (i + 1)]; exact gc_at (v := .sliceU 4 0 (i + 1) 1) (by simp only [e_upd, e_putS, e_putN, e_t, e_c, Nat.reduceEqDiff, ↓reduceIte, reduceCtorEq, Nat.reduceAdd]; rfl) rfl
          · rw [stp]
            simp [gcH, Vh.rowAt, ro, rw_, sl, ints_ren]
      · have stp : Dg.subD a b (i + 1) = ((Dg.subD a b i).1 ++ [x - c - y], 0) := by rw [hst, if_neg neg]
        rcases hg with ⟨hz, h5, rfl⟩ | ⟨hpos, h5, rfl⟩
        · simp (disch := omega) only [sN, ↓reduceIte, Nat.reduceEqDiff, Nat.reduceAdd, Nat.reduceMul, Nat.reduceSub, reduceCtorEq, e_none, e_some, e_bindS, h0, h1, h6, h7, k_len hk, k_len hk', ia, ga, ib, gb, h5]
          rw [x_bs1 (v := .int .i64 (x - c - y)) (by simp only [e_upd, e_putS, e_putN, e_t, e_c, Nat.reduceEqDiff, ↓reduceIte, reduceCtorEq, Nat.reduceAdd]) rfl]
          simp (disch := omega) only [sN, ↓reduceIte, Nat.reduceEqDiff, Nat.reduceAdd, Nat.reduceMul, Nat.reduceSub, reduceCtorEq, e_none, e_some, e_bindS, h0, h1, h6, h7, k_len hk, k_len hk', ia, ga, ib, gb, h5]
          rw [x_appN (r := 2) (m := 1) (c := 1) (row := ⟨true, false, [.int .i64 (x - c - y)]⟩) (xs := [.int .i64 (x - c - y)]) (by simp only [e_upd, e_putS, e_putN, e_t, e_c, Nat.reduceEqDiff, ↓reduceIte, reduceCtorEq, Nat.reduceAdd, h5]) (by simp only [e_upd, e_putS, e_putN, e_t, e_c, Nat.reduceEqDiff, ↓reduceIte, reduceCtorEq, Nat.reduceAdd]; rfl) rfl rfl (by simp) (by omega) rfl]
          simp (disch := omega) only [sN, ↓reduceIte, Nat.reduceEqDiff, Nat.reduceAdd, Nat.reduceMul, Nat.reduceSub, reduceCtorEq, e_none, e_some, e_bindS, h0, h1, h6, h7, k_len hk, k_len hk', ia, ga, ib, gb, h5]
          refine loop_gc (m := a.length - (i + 1)) [0, 1, 3] rfl ?_ (by omega) ⟨i + 1, rfl, by omega, ?_, ?_, ?_, ?_, .inr ⟨by rw [Dg.subD_length]; omega, ?_, ?_⟩⟩
          · simp [gcH, Vh.rowAt, ro, rw_, sl, ints_ren, ints_cell, n_lcons, n_lnil, n_int, AV.cell]
          · exact gc_at (v := mkS κ 0 0 a.length) (by simp only [e_upd, e_putS, e_putN, e_t, e_c, Nat.reduceEqDiff, ↓reduceIte, reduceCtorEq, Nat.reduceAdd, h0]) (n_mkS0 rfl)
          · exact gc_at (v := mkS κ' 1 0 b.length) (by simp only [e_upd, e_putS, e_putN, e_t, e_c, Nat.reduceEqDiff, ↓reduceIte, reduceCtorEq, Nat.reduceAdd, h1]) (n_mkS0 rfl)
          · rw [stp]; exact gc_at (v := .int .i64 0) (by simp only [e_upd, e_putS, e_putN, e_t, e_c, Nat.reduceEqDiff, ↓reduceIte, reduceCtorEq, Nat.reduceAdd]) rfl
          · exact gc_at (v := .int .i64 ((i + 1 : Nat) : Int)) (by simp only [e_upd, e_putS, e_putN, e_t, e_c, Nat.reduceEqDiff, ↓reduceIte, reduceCtorEq, Nat.reduceAdd]; rfl) rfl
          · rw [Dg.subD_length a b (i + 1)]; have : i = 0 := by omega
            subst this; exact gc_at (v := .sliceU 3 0 1 1) (by simp only [e_upd, e_putS, e_putN, e_t, e_c, Nat.reduceEqDiff, ↓reduceIte, reduceCtorEq, Nat.reduceAdd]; rfl) rfl
          · rw [stp, show (Dg.subD a b i).1 = [] from List.eq_nil_of_length_eq_zero (by rw [Dg.subD_length]; omega)]
            simp [gcH, Vh.rowAt, ro, rw_, sl, ints_ren, n_lcons, n_lnil, n_int, ints1]
        · simp (disch := omega) only [sN, ↓reduceIte, Nat.reduceEqDiff, Nat.reduceAdd, Nat.reduceMul, Nat.reduceSub, reduceCtorEq, e_none, e_some, e_bindS, h0, h1, h6, h7, k_len hk, k_len hk', ia, ga, ib, gb, h5, List.cons_append, List.nil_append]
          rw [x_bs1 (v := .int .i64 (x - c - y)) (by simp only [e_upd, e_putS, e_putN, e_t, e_c, Nat.reduceEqDiff, ↓reduceIte, reduceCtorEq, Nat.reduceAdd]) rfl]
          simp (disch := omega) only [sN, ↓reduceIte, Nat.reduceEqDiff, Nat.reduceAdd, Nat.reduceMul, Nat.reduceSub, reduceCtorEq, e_none, e_some, e_bindS, h0, h1, h6, h7, k_len hk, k_len hk', ia, ga, ib, gb, h5, List.cons_append, List.nil_append]
          rw [x_appU (q := 2) (n := i) (r := 3) (m := 1) (c := 1) (row := ⟨true, false, [.int .i64 (x - c - y)]⟩) (xs := [.int .i64 (x - c - y)]) (old := ints .i64 (Dg.subD a b i).1) (by simp only [e_upd, e_putS, e_putN, e_t, e_c, Nat.reduceEqDiff, ↓reduceIte, reduceCtorEq, Nat.reduceAdd, h5, Dg.subD_length]; rfl) (by simp only [e_upd, e_putS, e_putN, e_t, e_c, Nat.reduceEqDiff, ↓reduceIte, reduceCtorEq, Nat.reduceAdd]; rfl) rfl (by rw [ints_length, Dg.subD_length]) rfl rfl (by simp) (by omega) rfl, ints_snoc]
          simp (disch := omega) only [sN, ↓reduceIte, Nat.reduceEqDiff, Nat.reduceAdd, Nat.reduceMul, Nat.reduceSub, reduceCtorEq, e_none, e_some, e_bindS, h0, h1, h6, h7, k_len hk, k_len hk', ia, ga, ib, gb, h5]
          refine loop_gc (m := a.length - (i + 1)) [0, 1, 4] rfl ?_ (by omega) ⟨i + 1, rfl, by omega, ?_, ?_, ?_, ?_, .inr ⟨by rw [Dg.subD_length]; omega, ?_, ?_⟩⟩
          · simp [gcH, Vh.rowAt, ro, rw_, sl, ints_ren, ints_cell]
          · exact gc_at (v := mkS κ 0 0 a.length) (by simp only [e_upd, e_putS, e_putN, e_t, e_c, Nat.reduceEqDiff, ↓reduceIte, reduceCtorEq, Nat.reduceAdd, h0]) (n_mkS0 rfl)
          · exact gc_at (v := mkS κ' 1 0 b.length) (by simp only [e_upd, e_putS, e_putN, e_t, e_c, Nat.reduceEqDiff, ↓reduceIte, reduceCtorEq, Nat.reduceAdd, h1]) (n_mkS0 rfl)
          · rw [stp]; exact gc_at (v := .int .i64 0) (by simp only [e_upd, e_putS, e_putN, e_t, e_c, Nat.reduceEqDiff, ↓reduceIte, reduceCtorEq, Nat.reduceAdd]) rfl
          · exact gc_at (v := .int .i64 ((i + 1 : Nat) : Int)) (by simp only [e_upd, e_putS, e_putN, e_t, e_c, Nat.reduceEqDiff, ↓reduceIte, reduceCtorEq, Nat.reduceAdd]; rfl) rfl
          · rw [Dg.subD_length a b (i + 1)]; exact gc_at (v := .sliceU 4 0 (i + 1) 1) (by simp only [e_upd, e_putS, e_putN, e_t, e_c, Nat.reduceEqDiff, ↓reduceIte, reduceCtorEq, Nat.reduceAdd]; rfl) rfl
          · rw [stp]
            simp [gcH, Vh.rowAt, ro, rw_, sl, ints_ren]
    · have hy0 : y = 0 := by rw [← hy, List.getD_eq_getElem?_getD, List.getElem?_eq_none (by omega)]; rfl
      rw [hy0, Int.sub_zero] at hst
      by_cases neg : x - c < 0
      · have stp : Dg.subD a b (i + 1) = ((Dg.subD a b i).1 ++ [x - c + 256], 1) := by rw [hst, if_pos neg]
        rcases hg with ⟨hz, h5, rfl⟩ | ⟨hpos, h5, rfl⟩
        · simp (disch := omega) only [sN, ↓reduceIte, Nat.reduceEqDiff, Nat.reduceAdd, Nat.reduceMul, Nat.reduceSub, reduceCtorEq, e_none, e_some, e_bindS, h0, h1, h6, h7, k_len hk, k_len hk', ia, ga, h5]
          rw [x_bs1 (v := .int .i64 (x - c + 256)) (by simp only [e_upd, e_putS, e_putN, e_t, e_c, Nat.reduceEqDiff, ↓reduceIte, reduceCtorEq, Nat.reduceAdd]) rfl]
          simp (disch := omega) only [sN, ↓reduceIte, Nat.reduceEqDiff, Nat.reduceAdd, Nat.reduceMul, Nat.reduceSub, reduceCtorEq, e_none, e_some, e_bindS, h0, h1, h6, h7, k_len hk, k_len hk', ia, ga, h5]
          rw [x_appN (r := 2) (m := 1) (c := 1) (row := ⟨true, false, [.int .i64 (x - c + 256)]⟩) (xs := [.int .i64 (x - c + 256)]) (by simp only [e_upd, e_putS, e_putN, e_t, e_c, Nat.reduceEqDiff, ↓reduceIte, reduceCtorEq, Nat.reduceAdd, h5]) (by simp only [e_upd, e_putS, e_putN, e_t, e_c, Nat.reduceEqDiff, ↓reduceIte, reduceCtorEq, Nat.reduceAdd]; rfl) rfl rfl (by simp) (by omega) rfl]
          simp (disch := omega) only [sN, ↓reduceIte, Nat.reduceEqDiff, Nat.reduceAdd, Nat.reduceMul, Nat.reduceSub, reduceCtorEq, e_none, e_some, e_bindS, h0, h1, h6, h7, k_len hk, k_len hk', ia, ga, h5]
          refine loop_gc (m := a.length - (i + 1)) [0, 1, 3] rfl ?_ (by omega) ⟨i + 1, rfl, by omega, ?_, ?_, ?_, ?_, .inr ⟨by rw [Dg.subD_length]; omega, ?_, ?_⟩⟩
          · simp [gcH, Vh.rowAt, ro, rw_, sl, ints_ren, ints_cell, n_lcons, n_lnil, n_int, AV.cell]
          · exact gc_at (v := mkS κ 0 0 a.length) (by simp only [e_upd, e_putS, e_putN, e_t, e_c, Nat.reduceEqDiff, ↓reduceIte, reduceCtorEq, Nat.reduceAdd, h0]) (n_mkS0 rfl)
          · exact gc_at (v := mkS κ' 1 0 b.length) (by simp only [e_upd, e_putS, e_putN, e_t, e_c, Nat.reduceEqDiff, ↓reduceIte, reduceCtorEq, Nat.reduceAdd, h1]) (n_mkS0 rfl)
          · rw [stp]; exact gc_at (v := .int .i64 1) (by simp only [e_upd, e_putS, e_putN, e_t, e_c, Nat.reduceEqDiff, ↓reduceIte, reduceCtorEq, Nat.reduceAdd]) rfl
          · exact gc_at (v := .int .i64 ((i + 1 : Nat) : Int)) (by simp only [e_upd, e_putS, e_putN, e_t, e_c, Nat.reduceEqDiff, ↓reduceIte, reduceCtorEq, Nat.reduceAdd]; rfl) rfl
          · rw [Dg.subD_length a b (i + 1)]; have : i = 0 := by omega
            subst this; exact gc_at (v := .sliceU 3 0 1 1) (by simp only [e_upd, e_putS, e_putN, e_t, e_c, Nat.reduceEqDiff, ↓reduceIte, reduceCtorEq, Nat.reduceAdd]; rfl) rfl
          · rw [stp, show (Dg.subD a b i).1 = [] from List.eq_nil_of_length_eq_zero (by rw [Dg.subD_length]; omega)]
            simp [gcH, Vh.rowAt, ro, rw_, sl, ints_ren, n_lcons, n_lnil, n_int, ints1]
        · simp (disch := omega) only [sN, ↓reduceIte, Nat.reduceEqDiff, Nat.reduceAdd, Nat.reduceMul, Nat.reduceSub, reduceCtorEq, e_none, e_some, e_bindS, h0, h1, h6, h7, k_len hk, k_len hk', ia, ga, h5, List.cons_append, List.nil_append]
          rw [x_bs1 (v := .int .i64 (x - c + 256)) (by simp only [e_upd, e_putS, e_putN, e_t, e_c, Nat.reduceEqDiff, ↓reduceIte, reduceCtorEq, Nat.reduceAdd]) rfl]
          simp (disch := omega) only [sN, ↓reduceIte, Nat.reduceEqDiff, Nat.reduceAdd, Nat.reduceMul, Nat.reduceSub, reduceCtorEq, e_none, e_some, e_bindS, h0, h1, h6, h7, k_len hk, k_len hk', ia, ga, h5, List.cons_append, List.nil_append]
          rw [x_appU (q := 2) (n := i) (r := 3) (m := 1) (c := 1) (row := ⟨true, false, [.int .i64 (x - c + 256)]⟩) (xs := [.int .i64 (x - c + 256)]) (old := ints .i64 (Dg.subD a b i).1) (by simp only [e_upd, e_putS, e_putN, e_t, e_c, Nat.reduceEqDiff, ↓reduceIte, reduceCtorEq, Nat.reduceAdd, h5, Dg.subD_length]; rfl) (by simp only [e_upd, e_putS, e_putN, e_t, e_c, Nat.reduceEqDiff, ↓reduceIte, reduceCtorEq, Nat.reduceAdd]; rfl) rfl (by rw [ints_length, Dg.subD_length]) rfl rfl (by simp) (by omega) rfl, ints_snoc]
          simp (disch := omega) only [sN, ↓reduceIte, Nat.reduceEqDiff, Nat.reduceAdd, Nat.reduceMul, Nat.reduceSub, reduceCtorEq, e_none, e_some, e_bindS, h0, h1, h6, h7, k_len hk, k_len hk', ia, ga, h5]
          refine loop_gc (m := a.length - (i + 1)) [0, 1, 4] rfl ?_ (by omega) ⟨i + 1, rfl, by omega, ?_, ?_, ?_, ?_, .inr ⟨by rw [Dg.subD_length]; omega, ?_, ?_⟩⟩
          · simp [gcH, Vh.rowAt, ro, rw_, sl, ints_ren, ints_cell]
          · exact gc_at (v := mkS κ 0 0 a.length) (by simp only [e_upd, e_putS, e_putN, e_t, e_c, Nat.reduceEqDiff, ↓reduceIte, reduceCtorEq, Nat.reduceAdd, h0]) (n_mkS0 rfl)
          · exact gc_at (v := mkS κ' 1 0 b.length) (by simp only [e_upd, e_putS, e_putN, e_t, e_c, Nat.reduceEqDiff, ↓reduceIte, reduceCtorEq, Nat.reduceAdd, h1]) (n_mkS0 rfl)
          · rw [stp]; exact gc_at (v := .int .i64 1) (by simp only [e_upd, e_putS, e_putN, e_t, e_c, Nat.reduceEqDiff, ↓reduceIte, reduceCtorEq, Nat.reduceAdd]) rfl
          · exact gc_at (v := .int .i64 ((i + 1 : Nat) : Int)) (by simp only [e_upd, e_putS, e_putN, e_t, e_c, Nat.reduceEqDiff, ↓reduceIte, reduceCtorEq, Nat.reduceAdd]; rfl) rfl
          · rw [Dg.subD_length a b (i + 1)]; exact gc_at (v := .sliceU 4 0 (i + 1) 1) (by simp only [e_upd, e_putS, e_putN, e_t, e_c, Nat.reduceEqDiff, ↓reduceIte, reduceCtorEq, Nat.reduceAdd]; rfl) rfl
          · rw [stp]
            simp [gcH, Vh.rowAt, ro, rw_, sl, ints_ren]
      · have stp : Dg.subD a b (i + 1) = ((Dg.subD a b i).1 ++ [x - c], 0) := by rw [hst, if_neg neg]
        rcases hg with ⟨hz, h5, rfl⟩ | ⟨hpos, h5, rfl⟩
        · simp (disch := omega) only [sN, ↓reduceIte, Nat.reduceEqDiff, Nat.reduceAdd, Nat.reduceMul, Nat.reduceSub, reduceCtorEq, e_none, e_some, e_bindS, h0, h1, h6, h7, k_len hk, k_len hk', ia, ga, h5]
          rw [x_bs1 (v := .int .i64 (x - c)) (by simp only [e_upd, e_putS, e_putN, e_t, e_c, Nat.reduceEqDiff, ↓reduceIte, reduceCtorEq, Nat.reduceAdd]) rfl]
          simp (disch := omega) only [sN, ↓reduceIte, Nat.reduceEqDiff, Nat.reduceAdd, Nat.reduceMul, Nat.reduceSub, reduceCtorEq, e_none, e_some, e_bindS, h0, h1, h6, h7, k_len hk, k_len hk', ia, ga, h5]
          rw [x_appN (r := 2) (m := 1) (c := 1) (row := ⟨true, false, [.int .i64 (x - c)]⟩) (xs := [.int .i64 (x - c)]) (by simp only [e_upd, e_putS, e_putN, e_t, e_c, Nat.reduceEqDiff, ↓reduceIte, reduceCtorEq, Nat.reduceAdd, h5]) (by simp only [e_upd, e_putS, e_putN, e_t, e_c, Nat.reduceEqDiff, ↓reduceIte, reduceCtorEq, Nat.reduceAdd]; rfl) rfl rfl (by simp) (by omega) rfl]
          simp (disch := omega) only [sN, ↓reduceIte, Nat.reduceEqDiff, Nat.reduceAdd, Nat.reduceMul, Nat.reduceSub, reduceCtorEq, e_none, e_some, e_bindS, h0, h1, h6, h7, k_len hk, k_len hk', ia, ga, h5]
          refine loop_gc (m := a.length - (i + 1)) [0, 1, 3] rfl ?_ (by omega) ⟨i + 1, rfl, by omega, ?_, ?_, ?_, ?_, .inr ⟨by rw [Dg.subD_length]; omega, ?_, ?_⟩⟩
          · simp [gcH, Vh.rowAt, ro, rw_, sl, ints_ren, ints_cell, n_lcons, n_lnil, n_int, AV.cell]
          · exact gc_at (v := mkS κ 0 0 a.length) (by simp only [e_upd, e_putS, e_putN, e_t, e_c, Nat.reduceEqDiff, ↓reduceIte, reduceCtorEq, Nat.reduceAdd, h0]) (n_mkS0 rfl)
          · exact gc_at (v := mkS κ' 1 0 b.length) (by simp only [e_upd, e_putS, e_putN, e_t, e_c, Nat.reduceEqDiff, ↓reduceIte, reduceCtorEq, Nat.reduceAdd, h1]) (n_mkS0 rfl)
          · rw [stp]; exact gc_at (v := .int .i64 0) (by simp only [e_upd, e_putS, e_putN, e_t, e_c, Nat.reduceEqDiff, ↓reduceIte, reduceCtorEq, Nat.reduceAdd]) rfl
          · exact gc_at (v := .int .i64 ((i + 1 : Nat) : Int)) (by simp only [e_upd, e_putS, e_putN, e_t, e_c, Nat.reduceEqDiff, ↓reduceIte, reduceCtorEq, Nat.reduceAdd]; rfl) rfl
          · rw [Dg.subD_length a b (i + 1)]; have : i = 0 := by omega
            subst this; exact gc_at (v := .sliceU 3 0 1 1) (by simp only [e_upd, e_putS, e_putN, e_t, e_c, Nat.reduceEqDiff, ↓reduceIte, reduceCtorEq, Nat.reduceAdd]; rfl) rfl
          · rw [stp, show (Dg.subD a b i).1 = [] from List.eq_nil_of_length_eq_zero (by rw [Dg.subD_length]; omega)]
            simp [gcH, Vh.rowAt, ro, rw_, sl, ints_ren, n_lcons, n_lnil, n_int, ints1]
        · simp (disch := omega) only [sN, ↓reduceIte, Nat.reduceEqDiff, Nat.reduceAdd, Nat.reduceMul, Nat.reduceSub, reduceCtorEq, e_none, e_some, e_bindS, h0, h1, h6, h7, k_len hk, k_len hk', ia, ga, h5, List.cons_append, List.nil_append]
          rw [x_bs1 (v := .int .i64 (x - c)) (by simp only [e_upd, e_putS, e_putN, e_t, e_c, Nat.reduceEqDiff, ↓reduceIte, reduceCtorEq, Nat.reduceAdd]) rfl]
          simp (disch := omega) only [sN, ↓reduceIte, Nat.reduceEqDiff, Nat.reduceAdd, Nat.reduceMul, Nat.reduceSub, reduceCtorEq, e_none, e_some, e_bindS, h0, h1, h6, h7, k_len hk, k_len hk', ia, ga, h5, List.cons_append, List.nil_append]
          rw [x_appU (q := 2) (n := i) (r := 3) (m := 1) (c := 1) (row := ⟨true, false, [.int .i64 (x - c)]⟩) (xs := [.int .i64 (x - c)]) (old := ints .i64 (Dg.subD a b i).1) (by simp only [e_upd, e_putS, e_putN, e_t, e_c, Nat.reduceEqDiff, ↓reduceIte, reduceCtorEq, Nat.reduceAdd, h5, Dg.subD_length]; rfl) (by simp only [e_upd, e_putS, e_putN, e_t, e_c, Nat.reduceEqDiff, ↓reduceIte, reduceCtorEq, Nat.reduceAdd]; rfl) rfl (by rw [ints_length, Dg.subD_length]) rfl rfl (by simp) (by omega) rfl, ints_snoc]
          simp (disch := omega) only [sN, ↓reduceIte, Nat.reduceEqDiff, Nat.reduceAdd, Nat.reduceMul, Nat.reduceSub, reduceCtorEq, e_none, e_some, e_bindS, h0, h1, h6, h7, k_len hk, k_len hk', ia, ga, h5]
          refine loop_gc (m := a.length - (i + 1)) [0, 1, 4] rfl ?_ (by omega) ⟨i + 1, rfl, by omega, ?_, ?_, ?_, ?_, .inr ⟨by rw [Dg.subD_length]; omega, ?_, ?_⟩⟩
          · simp [gcH, Vh.rowAt, ro, rw_, sl, ints_ren, ints_cell]
          · exact gc_at (v := mkS κ 0 0 a.length) (by simp only [e_upd, e_putS, e_putN, e_t, e_c, Nat.reduceEqDiff, ↓reduceIte, reduceCtorEq, Nat.reduceAdd, h0]) (n_mkS0 rfl)
          · exact gc_at (v := mkS κ' 1 0 b.length) (by simp only [e_upd, e_putS, e_putN, e_t, e_c, Nat.reduceEqDiff, ↓reduceIte, reduceCtorEq, Nat.reduceAdd, h1]) (n_mkS0 rfl)
          · rw [stp]; exact gc_at (v := .int .i64 0) (by simp only [e_upd, e_putS, e_putN, e_t, e_c, Nat.reduceEqDiff, ↓reduceIte, reduceCtorEq, Nat.reduceAdd]) rfl
          · exact gc_at (v := .int .i64 ((i + 1 : Nat) : Int)) (by simp only [e_upd, e_putS, e_putN, e_t, e_c, Nat.reduceEqDiff, ↓reduceIte, reduceCtorEq, Nat.reduceAdd]; rfl) rfl
          · rw [Dg.subD_length a b (i + 1)]; exact gc_at (v := .sliceU 4 0 (i + 1) 1) (by simp only [e_upd, e_putS, e_putN, e_t, e_c, Nat.reduceEqDiff, ↓reduceIte, reduceCtorEq, Nat.reduceAdd]; rfl) rfl
          · rw [stp]
            simp [gcH, Vh.rowAt, ro, rw_, sl, ints_ren]
  · have hi2 : i = a.length := by omega
    have hnum := Dg.subD_num ha hb hm' (by omega)
    have hdl := Dg.subD_dl ha hb i
    rw [← hi2, hp, hq] at hnum
    have hnum' : Dg.num (Dg.subD a b i).1 = ((p - q : Nat) : Int) := by omega
    generalize (Dg.subD a b i).1 = O at *
    rcases hg with ⟨hz, h5, rfl⟩ | ⟨hpos, h5, rfl⟩
    · obtain rfl : O = [] := List.eq_nil_of_length_eq_zero hz
      have hpq : p - q = 0 := by
        have : Dg.num [] = 0 := rfl
        omega
      simp (disch := omega) only [sN, ↓reduceIte, Nat.reduceEqDiff, Nat.reduceAdd, Nat.reduceMul, Nat.reduceSub, reduceCtorEq, e_none, e_some, e_bindS, h0, h1, h5, h6, h7, k_len hk, k_len hk']
      refine call_ints (κ := .nil) (n := 0) (l := []) (r := 0) (row := ⟨false, false, ints .i64 a⟩) (rtrim_calls .nil [] rfl (by simp)) rfl rfl rfl rfl ?_
      rintro v0 H0' ⟨rfl, rfl⟩
      simp (disch := omega) only [sN, ↓reduceIte, Nat.reduceEqDiff, Nat.reduceAdd, Nat.reduceMul, Nat.reduceSub, reduceCtorEq, e_none, e_some, e_bindS]
      refine ⟨_, _, Weak.pad, by simp, ?_⟩
      unfold rs_rsub; rw [q_tmp, q_then, hpq]
      simp only [e_upd, e_putS, e_putN, e_t, e_c, Nat.reduceEqDiff, ↓reduceIte, reduceCtorEq, Nat.reduceAdd]
      exact dnew_nil
    · simp (disch := omega) only [sN, ↓reduceIte, Nat.reduceEqDiff, Nat.reduceAdd, Nat.reduceMul, Nat.reduceSub, reduceCtorEq, e_none, e_some, e_bindS, h0, h1, h5, h6, h7, k_len hk, k_len hk', List.cons_append, List.nil_append]
      refine call_ints (κ := .u) (l := O) (r := 2) (row := ⟨true, true, ints .i64 O⟩) (rtrim_calls .u O okS_u (by omega)) rfl rfl (by rw [← ints_length (k := .i64) (l := O), List.take_length]) rfl ?_
      rintro v0 H0' ⟨rfl, rfl⟩
      rw [n_mkS0 (r' := 2) rfl]
      simp (disch := omega) only [sN, ↓reduceIte, Nat.reduceEqDiff, Nat.reduceAdd, Nat.reduceMul, Nat.reduceSub, reduceCtorEq, e_none, e_some, e_bindS]
      refine ret_keep (by simp) ?_
      unfold rs_rsub; rw [q_tmp, q_then]
      simp only [e_upd, e_putS, e_putN, e_t, e_c, Nat.reduceEqDiff, ↓reduceIte, reduceCtorEq, Nat.reduceAdd]
      exact dnew_of hdl hnum' trivial

theorem rcompare_calls (κ κ' : SK) (a b : List Int) (hk : okS κ a.length) (hk' : okS κ' b.length) (hm : a.length ≤ 1000000) (hm' : b.length ≤ 1000000) (ha : Dg.DL a) (hb : Dg.DL b) (na : Dg.tz a a.length = a.length) (nb : Dg.tz b b.length = b.length) :
    ACalls Try.prog 117 [mkS κ 0 0 a.length, mkS κ' 1 0 b.length] [ro (ints .i64 a), ro (ints .i64 b)] (List.range 2) fun v H => v = .int .i64 (Dg.cmpI (Dg.num a) (Dg.num b)) ∧ H = [ro (ints .i64 a), ro (ints .i64 b)] := by
  refine ACalls.body Try.func117 ent_rcompare ir_rcompare_ok rs_rcompare_ok Try.ntmps117 (by simp) rfl ?_
  unfold ir_rcompare
  have e0 : s0 [mkS κ 0 0 a.length, mkS κ' 1 0 b.length] 0 = mkS κ 0 0 a.length := rfl
  have e1 : s0 [mkS κ 0 0 a.length, mkS κ' 1 0 b.length] 1 = mkS κ' 1 0 b.length := rfl
  rcases Nat.lt_trichotomy a.length b.length with hlt | heq | hgt
  · obtain ⟨r1, _⟩ := Dg.cmp_len ha hb na nb hlt
    rw [r1]
    simp (disch := omega) only [sN, ↓reduceIte, Nat.reduceEqDiff, Nat.reduceAdd, Nat.reduceMul, Nat.reduceSub, reduceCtorEq, e_none, e_some, e_bindS, e0, e1, k_len hk, k_len hk']
    exact ret_keep (by simp) ⟨by simp only [e_upd, e_putS, e_putN, e_t, e_c, Nat.reduceEqDiff, ↓reduceIte, reduceCtorEq, Nat.reduceAdd], rfl⟩
  · obtain ⟨n, hn⟩ : ∃ n, a.length = n := ⟨_, rfl⟩
    have hbn : b.length = n := by omega
    rw [hn] at hk e0 e1 hm ⊢
    rw [hbn] at hk' e0 e1 hm' ⊢
    simp (disch := omega) only [sN, ↓reduceIte, Nat.reduceEqDiff, Nat.reduceAdd, Nat.reduceMul, Nat.reduceSub, reduceCtorEq, e_none, e_some, e_bindS, e0, e1, k_len hk, k_len hk']
    refine ⟨fun m s H => ∃ k : Nat, m = n - k ∧ k ≤ n ∧ (∀ j, n - k ≤ j → j < n → a.getD j 0 = b.getD j 0) ∧ s 0 = mkS κ 0 0 n ∧ s 1 = mkS κ' 1 0 n ∧ s 5 = .int .i64 ((n : Int) - 1 - k) ∧ H = [ro (ints .i64 a), ro (ints .i64 b)], n, ⟨0, rfl, by omega, fun j h1 h2 => by omega, ?_, ?_, ?_, rfl⟩, ?_⟩
    · simp only [e_upd, e_putS, e_putN, e_t, e_c, Nat.reduceEqDiff, ↓reduceIte, reduceCtorEq, Nat.reduceAdd, e0]
    · simp only [e_upd, e_putS, e_putN, e_t, e_c, Nat.reduceEqDiff, ↓reduceIte, reduceCtorEq, Nat.reduceAdd, e1]
    · simp only [e_upd, e_putS, e_putN, e_t, e_c, Nat.reduceEqDiff, ↓reduceIte, reduceCtorEq, Nat.reduceAdd]; congr 1; omega
    rintro m s H ⟨k, rfl, hkn, hsame, h0, h1, h5, rfl⟩
    by_cases hlt : k < n
    · obtain ⟨j, hj⟩ : ∃ j : Nat, j = n - 1 - k := ⟨_, rfl⟩
      have hjI : (n : Int) - 1 - k = (j : Int) := by omega
      rw [hjI] at h5
      have ia : aindexAddr 1 (mkS κ 0 0 n) (.int .i64 (j : Int)) = some (.ptr 0 j) := by
        rw [k_idx hk (Nat.le_refl _) (by omega) (by omega)]; simp
      have ib : aindexAddr 1 (mkS κ' 1 0 n) (.int .i64 (j : Int)) = some (.ptr 1 j) := by
        rw [k_idx hk' (Nat.le_refl _) (by omega) (by omega)]; simp
      have ga : (ints .i64 a)[j]? = some (.int .i64 (a.getD j 0)) := ints_get (by omega)
      have gb : (ints .i64 b)[j]? = some (.int .i64 (b.getD j 0)) := ints_get (by omega)
      rcases Int.lt_trichotomy (a.getD j 0) (b.getD j 0) with h | h | h
      · obtain ⟨r1, _⟩ := Dg.cmp_top ha hb hn hbn (k := j) (by omega) (fun i h1 h2 => hsame i (by omega) h2) h
        rw [r1]
        simp (disch := omega) only [sN, ↓reduceIte, Nat.reduceEqDiff, Nat.reduceAdd, Nat.reduceMul, Nat.reduceSub, reduceCtorEq, e_none, e_some, e_bindS, h0, h1, h5, ia, ib, ga, gb]
        exact ret_keep (by simp) ⟨by simp only [e_upd, e_putS, e_putN, e_t, e_c, Nat.reduceEqDiff, ↓reduceIte, reduceCtorEq, Nat.reduceAdd], rfl⟩
      · simp (disch := omega) only [sN, ↓reduceIte, Nat.reduceEqDiff, Nat.reduceAdd, Nat.reduceMul, Nat.reduceSub, reduceCtorEq, e_none, e_some, e_bindS, h0, h1, h5, ia, ib, ga, gb]
        refine loop_keep (m := n - (k + 1)) (by omega) ⟨k + 1, rfl, by omega, fun i h1 h2 => ?_, ?_, ?_, ?_, rfl⟩
        · by_cases e : i = j
          · subst e; exact h
          · exact hsame i (by omega) h2
        · simp only [e_upd, e_putS, e_putN, e_t, e_c, Nat.reduceEqDiff, ↓reduceIte, reduceCtorEq, Nat.reduceAdd, h0]
        · simp only [e_upd, e_putS, e_putN, e_t, e_c, Nat.reduceEqDiff, ↓reduceIte, reduceCtorEq, Nat.reduceAdd, h1]
        · simp only [e_upd, e_putS, e_putN, e_t, e_c, Nat.reduceEqDiff, ↓reduceIte, reduceCtorEq, Nat.reduceAdd]; congr 1; omega
      · obtain ⟨_, r1⟩ := Dg.cmp_top hb ha hbn hn (k := j) (by omega) (fun i h1 h2 => (hsame i (by omega) h2).symm) h
        rw [r1]
        simp (disch := omega) only [sN, ↓reduceIte, Nat.reduceEqDiff, Nat.reduceAdd, Nat.reduceMul, Nat.reduceSub, reduceCtorEq, e_none, e_some, e_bindS, h0, h1, h5, ia, ib, ga, gb]
        exact ret_keep (by simp) ⟨by simp only [e_upd, e_putS, e_putN, e_t, e_c, Nat.reduceEqDiff, ↓reduceIte, reduceCtorEq, Nat.reduceAdd], rfl⟩
    · have r1 := Dg.cmp_eq (a := a) (b := b) hn hbn (fun i hi => hsame i (by omega) hi)
      rw [r1]
      have h5' : s 5 = .int .i64 (-1) := by rw [h5]; congr 1; omega
      simp (disch := omega) only [sN, ↓reduceIte, Nat.reduceEqDiff, Nat.reduceAdd, Nat.reduceMul, Nat.reduceSub, reduceCtorEq, e_none, e_some, e_bindS, h0, h1, h5']
      exact ret_keep (by simp) ⟨by simp only [e_upd, e_putS, e_putN, e_t, e_c, Nat.reduceEqDiff, ↓reduceIte, reduceCtorEq, Nat.reduceAdd], rfl⟩
  · obtain ⟨_, r1⟩ := Dg.cmp_len hb ha nb na hgt
    rw [r1]
    simp (disch := omega) only [sN, ↓reduceIte, Nat.reduceEqDiff, Nat.reduceAdd, Nat.reduceMul, Nat.reduceSub, reduceCtorEq, e_none, e_some, e_bindS, e0, e1, k_len hk, k_len hk']
    exact ret_keep (by simp) ⟨by simp only [e_upd, e_putS, e_putN, e_t, e_c, Nat.reduceEqDiff, ↓reduceIte, reduceCtorEq, Nat.reduceAdd], rfl⟩

set_option maxHeartbeats 1000000 in
theorem rmul_calls (κ κ' : SK) (a b : List Int) (p q : Nat) (hk : okS κ a.length) (hk' : okS κ' b.length) (hm : a.length ≤ 100000) (hm' : b.length ≤ 100000) (ha : Dg.DL a) (hb : Dg.DL b) (hp : Dg.num a = p) (hq : Dg.num b = q) :
    ACalls Try.prog 119 [mkS κ 0 0 a.length, mkS κ' 1 0 b.length] [ro (ints .i64 a), ro (ints .i64 b)] (List.range 2) (DNew [ro (ints .i64 a), ro (ints .i64 b)] (p * q)) := by
  refine ACalls.body Try.func119 ent_rmul ir_rmul_ok rs_rmul_ok Try.ntmps119 (by simp) rfl ?_
  unfold ir_rmul
  have e0 : s0 [mkS κ 0 0 a.length, mkS κ' 1 0 b.length] 0 = mkS κ 0 0 a.length := rfl
  have e1 : s0 [mkS κ 0 0 a.length, mkS κ' 1 0 b.length] 1 = mkS κ' 1 0 b.length := rfl
  obtain ⟨L, hL⟩ : ∃ L, L = a.length + b.length := ⟨_, rfl⟩
  have hLI : (a.length : Int) + (b.length : Int) = (L : Int) := by omega
  simp (disch := omega) only [sN, ↓reduceIte, Nat.reduceEqDiff, Nat.reduceAdd, Nat.reduceMul, Nat.reduceSub, reduceCtorEq, e_none, e_some, e_bindS, e0, e1, k_len hk, k_len hk', hLI]
  rw [x_make (n := (L : Int)) (by simp only [e_upd, e_putS, e_putN, e_t, e_c, Nat.reduceEqDiff, ↓reduceIte, reduceCtorEq, Nat.reduceAdd]) (by omega) (by omega) (by omega)]
  simp (disch := omega) only [sN, ↓reduceIte, Nat.reduceEqDiff, Nat.reduceAdd, Nat.reduceMul, Nat.reduceSub, reduceCtorEq, e_none, e_some, e_bindS, e0, e1]
  refine ⟨fun m s H => ∃ i : Nat, m = a.length - i ∧ i ≤ a.length ∧ s 0 = mkS κ 0 0 a.length ∧ s 1 = mkS κ' 1 0 b.length ∧ s 5 = .slice 2 0 L L ∧ s 6 = .int .i64 (i : Int) ∧ H = [ro (ints .i64 a), ro (ints .i64 b), rw_ (ints .i64 (Dg.mulI a b i))], a.length, ⟨0, rfl, by omega, ?_, ?_, ?_, ?_, ?_⟩, ?_⟩
  · simp only [e_upd, e_putS, e_putN, e_t, e_c, Nat.reduceEqDiff, ↓reduceIte, reduceCtorEq, Nat.reduceAdd, e0]
  · simp only [e_upd, e_putS, e_putN, e_t, e_c, Nat.reduceEqDiff, ↓reduceIte, reduceCtorEq, Nat.reduceAdd, e1]
  · simp only [e_upd, e_putS, e_putN, e_t, e_c, Nat.reduceEqDiff, ↓reduceIte, reduceCtorEq, Nat.reduceAdd, nat_toNat]; rfl
  · simp only [e_upd, e_putS, e_putN, e_t, e_c, Nat.reduceEqDiff, ↓reduceIte, reduceCtorEq, Nat.reduceAdd]; rfl
  · simp only [nat_toNat, Dg.mulI, ← hL]; rfl
  rintro m s H ⟨i, rfl, hi, h0, h1, h5, h6, rfl⟩
  by_cases la : i < a.length
  · have ia : aindexAddr 1 (mkS κ 0 0 a.length) (.int .i64 (i : Int)) = some (.ptr 0 i) := by
      rw [k_idx hk (Nat.le_refl _) (by omega) (by omega)]; simp
    have ga : (ints .i64 a)[i]? = some (.int .i64 (a.getD i 0)) := ints_get (by omega)
    have hai := ha i
    have hPd := Dg.mulI_dl ha hb i
    have hPl : (Dg.mulI a b i).length = L := by rw [Dg.mulI_length]; omega
    have hz := Dg.mulI_zero a b (i + b.length) i (Nat.le_refl _)
    have hnext : Dg.mulI a b (i + 1) = (Dg.mulJ (a.getD i 0) b (Dg.mulI a b i) i b.length).1.set (i + b.length) (Dg.mulJ (a.getD i 0) b (Dg.mulI a b i) i b.length).2 := rfl
    generalize Dg.mulI a b i = P at *
    simp (disch := omega) only [sN, ↓reduceIte, Nat.reduceEqDiff, Nat.reduceAdd, Nat.reduceMul, Nat.reduceSub, reduceCtorEq, e_none, e_some, e_bindS, h0, h1, h5, h6, k_len hk, k_len hk']
    refine ⟨fun m s H => ∃ j : Nat, m = b.length - j ∧ j ≤ b.length ∧ s 0 = mkS κ 0 0 a.length ∧ s 1 = mkS κ' 1 0 b.length ∧ s 5 = .slice 2 0 L L ∧ s 6 = .int .i64 (i : Int) ∧ s 7 = .int .i64 (Dg.mulJ (a.getD i 0) b P i j).2 ∧ s 8 = .int .i64 (j : Int) ∧ H = [ro (ints .i64 a), ro (ints .i64 b), rw_ (ints .i64 (Dg.mulJ (a.getD i 0) b P i j).1)], b.length, ⟨0, rfl, by omega, ?_, ?_, ?_, ?_, ?_, ?_, rfl⟩, ?_⟩
    · simp only [e_upd, e_putS, e_putN, e_t, e_c, Nat.reduceEqDiff, ↓reduceIte, reduceCtorEq, Nat.reduceAdd, h0]
    · simp only [e_upd, e_putS, e_putN, e_t, e_c, Nat.reduceEqDiff, ↓reduceIte, reduceCtorEq, Nat.reduceAdd, h1]
    · simp only [e_upd, e_putS, e_putN, e_t, e_c, Nat.reduceEqDiff, ↓reduceIte, reduceCtorEq, Nat.reduceAdd, h5]
    · simp only [e_upd, e_putS, e_putN, e_t, e_c, Nat.reduceEqDiff, ↓reduceIte, reduceCtorEq, Nat.reduceAdd, h6]
    · simp only [e_upd, e_putS, e_putN, e_t, e_c, Nat.reduceEqDiff, ↓reduceIte, reduceCtorEq, Nat.reduceAdd]; rfl
    · simp only [e_upd, e_putS, e_putN, e_t, e_c, Nat.reduceEqDiff, ↓reduceIte, reduceCtorEq, Nat.reduceAdd]; rfl
    rintro m s H ⟨j, rfl, hj, h0, h1, h5, h6, h7, h8, rfl⟩
    obtain ⟨d1, d2, d3⟩ := Dg.mulJ_range hai hb hPd i j
    have hJl := Dg.mulJ_length (a.getD i 0) b P i j
    by_cases lb : j < b.length
    · have ib : aindexAddr 1 (mkS κ' 1 0 b.length) (.int .i64 (j : Int)) = some (.ptr 1 j) := by
        rw [k_idx hk' (Nat.le_refl _) (by omega) (by omega)]; simp
      have gb : (ints .i64 b)[j]? = some (.int .i64 (b.getD j 0)) := ints_get (by omega)
      have hpr := Dg.prod_range hai (hb j)
      have hdij := d1 (i + j)
      have hnx : Dg.mulJ (a.getD i 0) b P i (j + 1) = ((Dg.mulJ (a.getD i 0) b P i j).1.set (i + j) (((Dg.mulJ (a.getD i 0) b P i j).2 + (a.getD i 0 * b.getD j 0 + (Dg.mulJ (a.getD i 0) b P i j).1.getD (i + j) 0)) % 256), ((Dg.mulJ (a.getD i 0) b P i j).2 + (a.getD i 0 * b.getD j 0 + (Dg.mulJ (a.getD i 0) b P i j).1.getD (i + j) 0)) / 256) := rfl
      have hmul : abin .mul (.int .i64 (a.getD i 0)) (.int .i64 (b.getD j 0)) = some (.int .i64 (a.getD i 0 * b.getD j 0)) := by
        rw [b_mul, w64 (by omega) (by omega)]
      generalize a.getD i 0 * b.getD j 0 = pr at *
      generalize hJ1 : (Dg.mulJ (a.getD i 0) b P i j).1 = J at *
      generalize hJ2 : (Dg.mulJ (a.getD i 0) b P i j).2 = c at *
      have gJ : (ints .i64 J)[i + j]? = some (.int .i64 (J.getD (i + j) 0)) := ints_get (by omega)
      obtain ⟨X, hX⟩ : ∃ X, X = c + (pr + J.getD (i + j) 0) := ⟨_, rfl⟩
      have hX' : J.getD (i + j) 0 + pr + c = X := by omega
      have hij : ((i : Int) + (j : Int)) = ((i + j : Nat) : Int) := by omega
      rw [← hX] at hnx
      simp (disch := omega) only [sN, ↓reduceIte, Nat.reduceEqDiff, Nat.reduceAdd, Nat.reduceMul, Nat.reduceSub, reduceCtorEq, e_none, e_some, e_bindS, h0, h1, h5, h6, h7, h8, k_len hk, k_len hk', ia, ga, ib, gb, hij, gJ, hmul, hX', b_rem, b_quo]
      rw [x_store (r := 2) (off := i + j) (k := .i64) (b := X % 256) (l := J) (by simp only [e_upd, e_putS, e_putN, e_t, e_c, Nat.reduceEqDiff, ↓reduceIte, reduceCtorEq, Nat.reduceAdd]) (by simp only [e_upd, e_putS, e_putN, e_t, e_c, Nat.reduceEqDiff, ↓reduceIte, reduceCtorEq, Nat.reduceAdd]) rfl (by omega)]
      simp (disch := omega) only [sN, ↓reduceIte, Nat.reduceEqDiff, Nat.reduceAdd, Nat.reduceMul, Nat.reduceSub, reduceCtorEq, e_none, e_some, e_bindS, h0, h1, h5, h6, h7, h8, List.set_cons_succ, List.set_cons_zero, b_rem, b_quo]
      refine loop_keep (m := b.length - (j + 1)) (by omega) ⟨j + 1, rfl, by omega, ?_, ?_, ?_, ?_, ?_, ?_, ?_⟩
      · simp only [e_upd, e_putS, e_putN, e_t, e_c, Nat.reduceEqDiff, ↓reduceIte, reduceCtorEq, Nat.reduceAdd, h0]
      · simp only [e_upd, e_putS, e_putN, e_t, e_c, Nat.reduceEqDiff, ↓reduceIte, reduceCtorEq, Nat.reduceAdd, h1]
      · simp only [e_upd, e_putS, e_putN, e_t, e_c, Nat.reduceEqDiff, ↓reduceIte, reduceCtorEq, Nat.reduceAdd, h5]
      · simp only [e_upd, e_putS, e_putN, e_t, e_c, Nat.reduceEqDiff, ↓reduceIte, reduceCtorEq, Nat.reduceAdd, h6]
      · simp only [e_upd, e_putS, e_putN, e_t, e_c, Nat.reduceEqDiff, ↓reduceIte, reduceCtorEq, Nat.reduceAdd, hnx]
      · simp only [e_upd, e_putS, e_putN, e_t, e_c, Nat.reduceEqDiff, ↓reduceIte, reduceCtorEq, Nat.reduceAdd]; rfl
      · rw [hnx]
    · obtain rfl : j = b.length := by omega
      have hk0 : (Dg.mulJ (a.getD i 0) b P i b.length).1.getD (i + b.length) 0 = 0 := by rw [Dg.mulJ_keep _ _ _ _ _ _ (Nat.le_refl _)]; exact hz
      generalize (Dg.mulJ (a.getD i 0) b P i b.length).1 = J at *
      generalize (Dg.mulJ (a.getD i 0) b P i b.length).2 = c at *
      have gJ : (ints .i64 J)[i + b.length]? = some (.int .i64 0) := by rw [ints_get (by omega), hk0]
      have hij : ((i : Int) + (b.length : Int)) = ((i + b.length : Nat) : Int) := by omega
      simp (disch := omega) only [sN, ↓reduceIte, Nat.reduceEqDiff, Nat.reduceAdd, Nat.reduceMul, Nat.reduceSub, reduceCtorEq, e_none, e_some, e_bindS, h0, h1, h5, h6, h7, h8, k_len hk, k_len hk', hij, gJ]
      rw [x_store (r := 2) (off := i + b.length) (k := .i64) (b := c) (l := J) (by simp only [e_upd, e_putS, e_putN, e_t, e_c, Nat.reduceEqDiff, ↓reduceIte, reduceCtorEq, Nat.reduceAdd]) (by simp only [e_upd, e_putS, e_putN, e_t, e_c, Nat.reduceEqDiff, ↓reduceIte, reduceCtorEq, Nat.reduceAdd, Int.zero_add]) rfl (by omega)]
      simp (disch := omega) only [sN, ↓reduceIte, Nat.reduceEqDiff, Nat.reduceAdd, Nat.reduceMul, Nat.reduceSub, reduceCtorEq, e_none, e_some, e_bindS, h0, h1, h5, h6, h7, h8, List.set_cons_succ, List.set_cons_zero]
      refine loop_keep (m := a.length - (i + 1)) (by omega) ⟨i + 1, rfl, by omega, ?_, ?_, ?_, ?_, ?_⟩
      · simp only [e_upd, e_putS, e_putN, e_t, e_c, Nat.reduceEqDiff, ↓reduceIte, reduceCtorEq, Nat.reduceAdd, h0]
      · simp only [e_upd, e_putS, e_putN, e_t, e_c, Nat.reduceEqDiff, ↓reduceIte, reduceCtorEq, Nat.reduceAdd, h1]
      · simp only [e_upd, e_putS, e_putN, e_t, e_c, Nat.reduceEqDiff, ↓reduceIte, reduceCtorEq, Nat.reduceAdd, h5]
      · simp only [e_upd, e_putS, e_putN, e_t, e_c, Nat.reduceEqDiff, ↓reduceIte, reduceCtorEq, Nat.reduceAdd]; rfl
      · rw [hnext]
  · obtain rfl : i = a.length := by omega
    have hPl : (Dg.mulI a b a.length).length = L := by rw [Dg.mulI_length]; omega
    have hPd := Dg.mulI_dl ha hb a.length
    have hnum := Dg.mul_num a b
    rw [hp, hq] at hnum
    generalize Dg.mulI a b a.length = P at *
    simp (disch := omega) only [sN, ↓reduceIte, Nat.reduceEqDiff, Nat.reduceAdd, Nat.reduceMul, Nat.reduceSub, reduceCtorEq, e_none, e_some, e_bindS, h0, h1, h5, h6, k_len hk]
    have hc := rtrim_calls (.cap L) P (show L ≥ P.length by omega) (by omega)
    rw [hPl] at hc
    refine call_ints (κ := .cap L) (n := L) (l := P) (r := 2) (row := ⟨true, false, ints .i64 P⟩) hc rfl rfl (by rw [← ints_length (k := .i64) (l := P), List.take_length]) rfl ?_
    rintro v0 H0' ⟨rfl, rfl⟩
    rw [n_mkS0 (r' := 2) rfl]
    simp (disch := omega) only [sN, ↓reduceIte, Nat.reduceEqDiff, Nat.reduceAdd, Nat.reduceMul, Nat.reduceSub, reduceCtorEq, e_none, e_some, e_bindS]
    refine ret_keep (by simp) ?_
    unfold rs_rmul; rw [q_tmp, q_then]
    simp only [e_upd, e_putS, e_putN, e_t, e_c, Nat.reduceEqDiff, ↓reduceIte, reduceCtorEq, Nat.reduceAdd]
    rw [← hPl]
    have ht := tz_le P P.length
    exact dnew_of (b := false) hPd (by rw [hnum]; simp) (show tz P P.length ≤ P.length from ht)
end Go.Proofs.Ythbhljolpnbdlaa.S1


