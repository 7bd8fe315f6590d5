/- Contracts: the reference's numbers to the base 256: small, add, sub. -/
import Derived.Test.YthbhljolpnbdlaaVX
import Derived.Test.YthbhljolpnbdlaaV7
import Derived.Test.YthbhljolpnbdlaaPE
import Derived.Test.YthbhljolpnbdlaaPJ
import Derived.Test.YthbhljolpnbdlaaPK
import Derived.Test.YthbhljolpnbdlaaVY
set_option linter.unusedSimpArgs false
set_option linter.unusedVariables false
-- NEWSET
namespace Go.Proofs.Ythbhljolpnbdlaa.S1
open Go Go.Vh

theorem ints1 {x : Int} : ints .i64 [x] = [.int .i64 x] := rfl
theorem tz_dg (l : List Int) : ∀ n, tz l n = Dg.tz l n
  | 0 => rfl
  | n + 1 => by unfold tz Dg.tz; rw [tz_dg l n]
/-- A number to the base 256 that is new. -/
def DNew (base : AHeap) (n : Nat) (v : AV) (H : AHeap) : Prop := ∃ κ row, okS κ (Dg.dg n).length ∧ v = mkS κ base.length 0 (Dg.dg n).length ∧ H = base ++ [some row] ∧ row.own = true ∧ row.cells.take (Dg.dg n).length = ints .i64 (Dg.dg n) ∧ row.cells.all AV.flat = true
theorem dnew_nil {base : AHeap} : DNew base 0 .nilslice (base ++ [empty]) :=
  ⟨.nil, ⟨true, false, []⟩, by rw [Dg.dg_zero]; rfl, by rw [Dg.dg_zero]; rfl, rfl, rfl, by rw [Dg.dg_zero]; rfl, rfl⟩
theorem dnew_of {base : AHeap} {O : List Int} {n : Nat} {κ : SK} {b : Bool} (hO : Dg.DL O) (hn : Dg.num O = n) (hk : okS κ (tz O O.length)) : DNew base n (mkS κ base.length 0 (tz O O.length)) (base ++ [some ⟨true, b, ints .i64 O⟩]) := by
  have ht := Dg.trim_dg hO
  rw [hn, Int.toNat_natCast, ← tz_dg] at ht
  have hl : tz O O.length = (Dg.dg n).length := by
    have := congrArg List.length ht
    rw [List.length_take] at this
    have := tz_le O O.length
    omega
  refine ⟨κ, ⟨true, b, ints .i64 O⟩, by rw [← hl]; exact hk, by rw [hl], rfl, rfl, ?_, ints_flat⟩
  rw [ints_take, ← hl, ht]

theorem rsmall_calls (n : Nat) (hn : n ≤ 9223372036854775807) : ACalls Try.prog 140 [.int .i64 (n : Int)] [] (List.range 0) (DNew [] n) := by
  refine ACalls.body Try.func140 ent_rsmall ir_rsmall_ok rs_rsmall_ok Try.ntmps140 (by simp) rfl ?_
  unfold ir_rsmall
  have e0 : s0 [.int .i64 (n : Int)] 0 = .int .i64 n := rfl
  simp (disch := omega) only [sN, ↓reduceIte, Nat.reduceEqDiff, Nat.reduceAdd, Nat.reduceMul, Nat.reduceSub, reduceCtorEq, e_none, e_some, e_bindS]
  refine ⟨fun m s H => ∃ o : List Int, m ≤ n ∧ o.length + m ≤ n ∧ o ++ Dg.dg m = Dg.dg n ∧ s 0 = .int .i64 (m : Int) ∧ grownI [] o (s 3) H, n, ⟨[], Nat.le_refl _, by simp, rfl, ?_, .inl ⟨rfl, ?_, rfl⟩⟩, ?_⟩
  · simp only [e_upd, e_putS, e_putN, e_t, e_c, Nat.reduceEqDiff, ↓reduceIte, reduceCtorEq, Nat.reduceAdd, e0]
  · simp only [e_upd, e_putS, e_putN, e_t, e_c, Nat.reduceEqDiff, ↓reduceIte, reduceCtorEq, Nat.reduceAdd]
  rintro m s H ⟨o, hm, hlen, ho, h0, hg⟩
  rcases Nat.eq_zero_or_pos m with rfl | hp
  · have h0' : s 0 = .int .i64 0 := h0
    rw [Dg.dg_zero, List.append_nil] at ho
    simp (disch := omega) only [sN, ↓reduceIte, Nat.reduceEqDiff, Nat.reduceAdd, Nat.reduceMul, Nat.reduceSub, reduceCtorEq, e_none, e_some, e_bindS, h0']
    rcases hg with ⟨hz, h3, rfl⟩ | ⟨hpos, h3, rfl⟩
    · obtain rfl : o = [] := List.eq_nil_of_length_eq_zero hz
      refine ⟨_, _, Weak.pad, by simp, ?_⟩
      unfold rs_rsmall; rw [q_tmp, q_then]
      simp only [e_upd, e_putS, e_putN, e_t, e_c, Nat.reduceEqDiff, ↓reduceIte, reduceCtorEq, Nat.reduceAdd, h3]
      exact ⟨.nil, ⟨true, false, []⟩, by rw [← ho]; rfl, by rw [← ho]; rfl, rfl, rfl, by rw [← ho]; rfl, rfl⟩
    · refine ret_keep (by simp) ?_
      unfold rs_rsmall; rw [q_tmp, q_then]
      simp only [e_upd, e_putS, e_putN, e_t, e_c, Nat.reduceEqDiff, ↓reduceIte, reduceCtorEq, Nat.reduceAdd, h3]
      exact ⟨.u, ⟨true, true, ints .i64 o⟩, trivial, by rw [← ho]; rfl, rfl, rfl, by rw [← ho]; simp [ints_length, List.take_of_length_le], ints_flat⟩
  · have hdg := Dg.dg_pos hp
    obtain ⟨x, hx⟩ : ∃ x : Int, ((m % 256 : Nat) : Int) = x := ⟨_, rfl⟩
    have hxm : (m : Int) % 256 = x := by omega
    have hq : (m : Int) / 256 = ((m / 256 : Nat) : Int) := by omega
    rw [hx] at hdg
    have ho2 : (o ++ [x]) ++ Dg.dg (m / 256) = Dg.dg n := by rw [← ho, hdg]; simp
    rcases hg with ⟨hz, h3, rfl⟩ | ⟨hpos, h3, rfl⟩
    · obtain rfl : o = [] := List.eq_nil_of_length_eq_zero hz
      simp (disch := omega) only [sN, ↓reduceIte, Nat.reduceEqDiff, Nat.reduceAdd, Nat.reduceMul, Nat.reduceSub, reduceCtorEq, e_none, e_some, e_bindS, h0, h3, b_rem, b_quo, hxm, hq]
      rw [x_bs1 (v := .int .i64 x) (by simp only [e_upd, e_putS, e_putN, e_t, e_c, Nat.reduceEqDiff, ↓reduceIte, reduceCtorEq, Nat.reduceAdd]) rfl]
      simp (disch := omega) only [sN, ↓reduceIte, Nat.reduceEqDiff, Nat.reduceAdd, Nat.reduceMul, Nat.reduceSub, reduceCtorEq, e_none, e_some, e_bindS, h0, h3, b_rem, b_quo, hxm, hq]
      rw [x_appN (r := 0) (m := 1) (c := 1) (row := ⟨true, false, [.int .i64 x]⟩) (xs := [.int .i64 x]) (by simp only [e_upd, e_putS, e_putN, e_t, e_c, Nat.reduceEqDiff, ↓reduceIte, reduceCtorEq, Nat.reduceAdd, h3]) (by simp only [e_upd, e_putS, e_putN, e_t, e_c, Nat.reduceEqDiff, ↓reduceIte, reduceCtorEq, Nat.reduceAdd]; rfl) rfl rfl (by simp) (by omega) rfl]
      simp (disch := omega) only [sN, ↓reduceIte, Nat.reduceEqDiff, Nat.reduceAdd, Nat.reduceMul, Nat.reduceSub, reduceCtorEq, e_none, e_some, e_bindS, h0, h3, b_rem, b_quo, hxm, hq]
      refine loop_gc (m := m / 256) [1] rfl ?_ (by omega) ⟨[] ++ [x], by omega, by simp; omega, ho2, ?_, .inr ⟨by simp, ?_, ?_⟩⟩
      · simp [gcH, Vh.rowAt, rw_, sl, n_lcons, n_lnil, n_int, AV.cell]
      · exact gc_at (v := .int .i64 ((m / 256 : Nat) : Int)) (by simp only [e_upd, e_putS, e_putN, e_t, e_c, Nat.reduceEqDiff, ↓reduceIte, reduceCtorEq, Nat.reduceAdd]) rfl
      · exact gc_at (v := .sliceU 1 0 1 1) (by simp only [e_upd, e_putS, e_putN, e_t, e_c, Nat.reduceEqDiff, ↓reduceIte, reduceCtorEq, Nat.reduceAdd]; rfl) rfl
      · simp [gcH, Vh.rowAt, rw_, sl, n_lcons, n_lnil, n_int, ints1]
    · have hol : o.length ≤ 1000000 := by
        have h8 : (Dg.dg n).length ≤ 8 := Dg.dg_len_le (by omega)
        have := congrArg List.length ho
        rw [List.length_append] at this; omega
      simp (disch := omega) only [sN, ↓reduceIte, Nat.reduceEqDiff, Nat.reduceAdd, Nat.reduceMul, Nat.reduceSub, reduceCtorEq, e_none, e_some, e_bindS, h0, h3, b_rem, b_quo, hxm, hq, List.cons_append, List.nil_append]
      rw [x_bs1 (v := .int .i64 x) (by simp only [e_upd, e_putS, e_putN, e_t, e_c, Nat.reduceEqDiff, ↓reduceIte, reduceCtorEq, Nat.reduceAdd]) rfl]
      simp (disch := omega) only [sN, ↓reduceIte, Nat.reduceEqDiff, Nat.reduceAdd, Nat.reduceMul, Nat.reduceSub, reduceCtorEq, e_none, e_some, e_bindS, h0, h3, b_rem, b_quo, hxm, hq, List.cons_append, List.nil_append]
      rw [x_appU (q := 0) (n := o.length) (r := 1) (m := 1) (c := 1) (row := ⟨true, false, [.int .i64 x]⟩) (xs := [.int .i64 x]) (old := ints .i64 o) (by simp only [e_upd, e_putS, e_putN, e_t, e_c, Nat.reduceEqDiff, ↓reduceIte, reduceCtorEq, Nat.reduceAdd, h3]; rfl) (by simp only [e_upd, e_putS, e_putN, e_t, e_c, Nat.reduceEqDiff, ↓reduceIte, reduceCtorEq, Nat.reduceAdd]; rfl) rfl ints_length rfl rfl (by simp) (by omega) rfl, ints_snoc]
      simp (disch := omega) only [sN, ↓reduceIte, Nat.reduceEqDiff, Nat.reduceAdd, Nat.reduceMul, Nat.reduceSub, reduceCtorEq, e_none, e_some, e_bindS, h0, h3, b_rem, b_quo, hxm, hq]
      refine loop_gc (m := m / 256) [2] rfl ?_ (by omega) ⟨o ++ [x], by omega, by simp; omega, ho2, ?_, .inr ⟨by simp, ?_, ?_⟩⟩
      · simp [gcH, Vh.rowAt, rw_, sl, ints_ren, ints_cell]
      · exact gc_at (v := .int .i64 ((m / 256 : Nat) : Int)) (by simp only [e_upd, e_putS, e_putN, e_t, e_c, Nat.reduceEqDiff, ↓reduceIte, reduceCtorEq, Nat.reduceAdd]) rfl
      · rw [List.length_append]; exact gc_at (v := .sliceU 2 0 (o.length + 1) 1) (by simp only [e_upd, e_putS, e_putN, e_t, e_c, Nat.reduceEqDiff, ↓reduceIte, reduceCtorEq, Nat.reduceAdd]; rfl) rfl
      · simp [gcH, Vh.rowAt, rw_, sl, ints_ren]

set_option maxHeartbeats 1000000 in
theorem radd_calls (κ κ' : SK) (a b : List Int) (p q : Nat) (hk : okS κ a.length) (hk' : okS κ' b.length) (hm : a.length ≤ 100000) (hm' : b.length ≤ 100000) (ha : Dg.DL a) (hb : Dg.DL b) (hp : Dg.num a = p) (hq : Dg.num b = q) :
    ACalls Try.prog 142 [mkS κ 0 0 a.length, mkS κ' 1 0 b.length] [ro (ints .i64 a), ro (ints .i64 b)] (List.range 2) (DNew [ro (ints .i64 a), ro (ints .i64 b)] (p + q)) := by
  refine ACalls.body Try.func142 ent_radd ir_radd_ok rs_radd_ok Try.ntmps142 (by simp) rfl ?_
  unfold ir_radd
  have e0 : s0 [mkS κ 0 0 a.length, mkS κ' 1 0 b.length] 0 = mkS κ 0 0 a.length := rfl
  have e1 : s0 [mkS κ 0 0 a.length, mkS κ' 1 0 b.length] 1 = mkS κ' 1 0 b.length := rfl
  obtain ⟨N, hN⟩ : ∃ N, N = max a.length b.length := ⟨_, rfl⟩
  simp (disch := omega) only [sN, ↓reduceIte, Nat.reduceEqDiff, Nat.reduceAdd, Nat.reduceMul, Nat.reduceSub, reduceCtorEq, e_none, e_some, e_bindS]
  refine ⟨fun m s H => ∃ i : Nat, m = N + 1 - i ∧ i ≤ N + 1 ∧ s 0 = mkS κ 0 0 a.length ∧ s 1 = mkS κ' 1 0 b.length ∧ s 6 = .int .i64 (Dg.addD a b i).2 ∧ s 7 = .int .i64 (i : Int) ∧ grownI [ro (ints .i64 a), ro (ints .i64 b)] (Dg.addD a b i).1 (s 5) H, N + 1, ⟨0, rfl, by omega, ?_, ?_, ?_, ?_, .inl ⟨rfl, ?_, rfl⟩⟩, ?_⟩
  · simp only [e_upd, e_putS, e_putN, e_t, e_c, Nat.reduceEqDiff, ↓reduceIte, reduceCtorEq, Nat.reduceAdd, e0]
  · simp only [e_upd, e_putS, e_putN, e_t, e_c, Nat.reduceEqDiff, ↓reduceIte, reduceCtorEq, Nat.reduceAdd, e1]
  · simp only [e_upd, e_putS, e_putN, e_t, e_c, Nat.reduceEqDiff, ↓reduceIte, reduceCtorEq, Nat.reduceAdd]; rfl
  · simp only [e_upd, e_putS, e_putN, e_t, e_c, Nat.reduceEqDiff, ↓reduceIte, reduceCtorEq, Nat.reduceAdd]; rfl
  · simp only [e_upd, e_putS, e_putN, e_t, e_c, Nat.reduceEqDiff, ↓reduceIte, reduceCtorEq, Nat.reduceAdd]
  rintro m s H ⟨i, rfl, hi, h0, h1, h6, h7, hg⟩
  obtain ⟨c0, c1⟩ := Dg.addD_carry ha hb i
  have hlen := Dg.addD_length a b i
  have hstop : i = N + 1 → (Dg.addD a b i).2 = 0 := fun e => by subst e; exact Dg.addD_stops ha hb (by omega) (by omega)
  have hai := ha i
  have hbi := hb i
  have st1 : ∀ z, z = (Dg.addD a b i).2 + a.getD i 0 + b.getD i 0 → (Dg.addD a b (i + 1)).1 = (Dg.addD a b i).1 ++ [z % 256] := fun z e => by rw [e]; rfl
  have st2 : ∀ z, z = (Dg.addD a b i).2 + a.getD i 0 + b.getD i 0 → (Dg.addD a b (i + 1)).2 = z / 256 := fun z e => by rw [e]; rfl
  obtain ⟨c, hc⟩ : ∃ c, (Dg.addD a b i).2 = c := ⟨_, rfl⟩
  obtain ⟨x, hx⟩ : ∃ x, a.getD i 0 = x := ⟨_, rfl⟩
  obtain ⟨y, hy⟩ : ∃ y, b.getD i 0 = y := ⟨_, rfl⟩
  simp only [hc, hx, hy] at h6 c0 c1 hstop hai hbi st1 st2
  by_cases la : (i : Int) < (a.length : Int)
  · have ia : aindexAddr 1 (mkS κ 0 0 a.length) (.int .i64 (i : Int)) = some (.ptr 0 i) := by
      rw [k_idx hk (Nat.le_refl _) (by omega) la]; simp
    have ga : (ints .i64 a)[i]? = some (.int .i64 x) := by rw [ints_get (by omega), hx]
    by_cases lb : (i : Int) < (b.length : Int)
    · have ib : aindexAddr 1 (mkS κ' 1 0 b.length) (.int .i64 (i : Int)) = some (.ptr 1 i) := by
        rw [k_idx hk' (Nat.le_refl _) (by omega) lb]; simp
      have gb : (ints .i64 b)[i]? = some (.int .i64 y) := by rw [ints_get (by omega), hy]
      rcases hg with ⟨hz, h5, rfl⟩ | ⟨hpos, h5, rfl⟩
      · simp (disch := omega) only [sN, ↓reduceIte, Nat.reduceEqDiff, Nat.reduceAdd, Nat.reduceMul, Nat.reduceSub, reduceCtorEq, e_none, e_some, e_bindS, h0, h1, h6, h7, k_len hk, k_len hk', b_rem, b_quo, ia, ga, ib, gb, h5]
        rw [x_bs1 (v := .int .i64 ((c + x + y) % 256)) (by simp only [e_upd, e_putS, e_putN, e_t, e_c, Nat.reduceEqDiff, ↓reduceIte, reduceCtorEq, Nat.reduceAdd]) rfl]
        simp (disch := omega) only [sN, ↓reduceIte, Nat.reduceEqDiff, Nat.reduceAdd, Nat.reduceMul, Nat.reduceSub, reduceCtorEq, e_none, e_some, e_bindS, h0, h1, h6, h7, k_len hk, k_len hk', b_rem, b_quo, ia, ga, ib, gb, h5]
        rw [x_appN (r := 2) (m := 1) (c := 1) (row := ⟨true, false, [.int .i64 ((c + x + y) % 256)]⟩) (xs := [.int .i64 ((c + x + y) % 256)]) (by simp only [e_upd, e_putS, e_putN, e_t, e_c, Nat.reduceEqDiff, ↓reduceIte, reduceCtorEq, Nat.reduceAdd, h5]) (by simp only [e_upd, e_putS, e_putN, e_t, e_c, Nat.reduceEqDiff, ↓reduceIte, reduceCtorEq, Nat.reduceAdd]; rfl) rfl rfl (by simp) (by omega) rfl]
        simp (disch := omega) only [sN, ↓reduceIte, Nat.reduceEqDiff, Nat.reduceAdd, Nat.reduceMul, Nat.reduceSub, reduceCtorEq, e_none, e_some, e_bindS, h0, h1, h6, h7, k_len hk, k_len hk', b_rem, b_quo, ia, ga, ib, gb, h5]
        refine loop_gc (m := N + 1 - (i + 1)) [0, 1, 3] rfl ?_ (by omega) ⟨i + 1, rfl, by omega, ?_, ?_, ?_, ?_, .inr ⟨by rw [Dg.addD_length]; omega, ?_, ?_⟩⟩
        · simp [gcH, Vh.rowAt, ro, rw_, sl, ints_ren, ints_cell, n_lcons, n_lnil, n_int, AV.cell]
        · exact gc_at (v := mkS κ 0 0 a.length) (by simp only [e_upd, e_putS, e_putN, e_t, e_c, Nat.reduceEqDiff, ↓reduceIte, reduceCtorEq, Nat.reduceAdd, h0]) (n_mkS0 rfl)
        · exact gc_at (v := mkS κ' 1 0 b.length) (by simp only [e_upd, e_putS, e_putN, e_t, e_c, Nat.reduceEqDiff, ↓reduceIte, reduceCtorEq, Nat.reduceAdd, h1]) (n_mkS0 rfl)
        · rw [st2 (c + x + y) (by omega)]; exact gc_at (v := .int .i64 ((c + x + y) / 256)) (by simp only [e_upd, e_putS, e_putN, e_t, e_c, Nat.reduceEqDiff, ↓reduceIte, reduceCtorEq, Nat.reduceAdd]) rfl
        · exact gc_at (v := .int .i64 ((i + 1 : Nat) : Int)) (by simp only [e_upd, e_putS, e_putN, e_t, e_c, Nat.reduceEqDiff, ↓reduceIte, reduceCtorEq, Nat.reduceAdd]; rfl) rfl
        · rw [Dg.addD_length a b (i + 1)]; have : i = 0 := by omega
          subst this; exact gc_at (v := .sliceU 3 0 1 1) (by simp only [e_upd, e_putS, e_putN, e_t, e_c, Nat.reduceEqDiff, ↓reduceIte, reduceCtorEq, Nat.reduceAdd]; rfl) rfl
        · rw [st1 (c + x + y) (by omega), show (Dg.addD a b i).1 = [] from List.eq_nil_of_length_eq_zero (by rw [Dg.addD_length]; omega)]
          simp [gcH, Vh.rowAt, ro, rw_, sl, ints_ren, n_lcons, n_lnil, n_int, ints1]
      · simp (disch := omega) only [sN, ↓reduceIte, Nat.reduceEqDiff, Nat.reduceAdd, Nat.reduceMul, Nat.reduceSub, reduceCtorEq, e_none, e_some, e_bindS, h0, h1, h6, h7, k_len hk, k_len hk', b_rem, b_quo, ia, ga, ib, gb, h5, List.cons_append, List.nil_append]
        rw [x_bs1 (v := .int .i64 ((c + x + y) % 256)) (by simp only [e_upd, e_putS, e_putN, e_t, e_c, Nat.reduceEqDiff, ↓reduceIte, reduceCtorEq, Nat.reduceAdd]) rfl]
        simp (disch := omega) only [sN, ↓reduceIte, Nat.reduceEqDiff, Nat.reduceAdd, Nat.reduceMul, Nat.reduceSub, reduceCtorEq, e_none, e_some, e_bindS, h0, h1, h6, h7, k_len hk, k_len hk', b_rem, b_quo, ia, ga, ib, gb, h5, List.cons_append, List.nil_append]
        rw [x_appU (q := 2) (n := i) (r := 3) (m := 1) (c := 1) (row := ⟨true, false, [.int .i64 ((c + x + y) % 256)]⟩) (xs := [.int .i64 ((c + x + y) % 256)]) (old := ints .i64 (Dg.addD a b i).1) (by simp only [e_upd, e_putS, e_putN, e_t, e_c, Nat.reduceEqDiff, ↓reduceIte, reduceCtorEq, Nat.reduceAdd, h5, Dg.addD_length]; rfl) (by simp only [e_upd, e_putS, e_putN, e_t, e_c, Nat.reduceEqDiff, ↓reduceIte, reduceCtorEq, Nat.reduceAdd]; rfl) rfl (by rw [ints_length, Dg.addD_length]) rfl rfl (by simp) (by omega) rfl, ints_snoc]
        simp (disch := omega) only [sN, ↓reduceIte, Nat.reduceEqDiff, Nat.reduceAdd, Nat.reduceMul, Nat.reduceSub, reduceCtorEq, e_none, e_some, e_bindS, h0, h1, h6, h7, k_len hk, k_len hk', b_rem, b_quo, ia, ga, ib, gb, h5]
        refine loop_gc (m := N + 1 - (i + 1)) [0, 1, 4] rfl ?_ (by omega) ⟨i + 1, rfl, by omega, ?_, ?_, ?_, ?_, .inr ⟨by rw [Dg.addD_length]; omega, ?_, ?_⟩⟩
        · simp [gcH, Vh.rowAt, ro, rw_, sl, ints_ren, ints_cell]
        · exact gc_at (v := mkS κ 0 0 a.length) (by simp only [e_upd, e_putS, e_putN, e_t, e_c, Nat.reduceEqDiff, ↓reduceIte, reduceCtorEq, Nat.reduceAdd, h0]) (n_mkS0 rfl)
        · exact gc_at (v := mkS κ' 1 0 b.length) (by simp only [e_upd, e_putS, e_putN, e_t, e_c, Nat.reduceEqDiff, ↓reduceIte, reduceCtorEq, Nat.reduceAdd, h1]) (n_mkS0 rfl)
        · rw [st2 (c + x + y) (by omega)]; exact gc_at (v := .int .i64 ((c + x + y) / 256)) (by simp only [e_upd, e_putS, e_putN, e_t, e_c, Nat.reduceEqDiff, ↓reduceIte, reduceCtorEq, Nat.reduceAdd]) rfl
        · exact gc_at (v := .int .i64 ((i + 1 : Nat) : Int)) (by simp only [e_upd, e_putS, e_putN, e_t, e_c, Nat.reduceEqDiff, ↓reduceIte, reduceCtorEq, Nat.reduceAdd]; rfl) rfl
        · rw [Dg.addD_length a b (i + 1)]; exact gc_at (v := .sliceU 4 0 (i + 1) 1) (by simp only [e_upd, e_putS, e_putN, e_t, e_c, Nat.reduceEqDiff, ↓reduceIte, reduceCtorEq, Nat.reduceAdd]; rfl) rfl
        · rw [st1 (c + x + y) (by omega)]
          simp [gcH, Vh.rowAt, ro, rw_, sl, ints_ren]
    · have hy0 : y = 0 := by rw [← hy, List.getD_eq_getElem?_getD, List.getElem?_eq_none (by omega)]; rfl
      rcases hg with ⟨hz, h5, rfl⟩ | ⟨hpos, h5, rfl⟩
      · simp (disch := omega) only [sN, ↓reduceIte, Nat.reduceEqDiff, Nat.reduceAdd, Nat.reduceMul, Nat.reduceSub, reduceCtorEq, e_none, e_some, e_bindS, h0, h1, h6, h7, k_len hk, k_len hk', b_rem, b_quo, ia, ga, h5]
        rw [x_bs1 (v := .int .i64 ((c + x) % 256)) (by simp only [e_upd, e_putS, e_putN, e_t, e_c, Nat.reduceEqDiff, ↓reduceIte, reduceCtorEq, Nat.reduceAdd]) rfl]
        simp (disch := omega) only [sN, ↓reduceIte, Nat.reduceEqDiff, Nat.reduceAdd, Nat.reduceMul, Nat.reduceSub, reduceCtorEq, e_none, e_some, e_bindS, h0, h1, h6, h7, k_len hk, k_len hk', b_rem, b_quo, ia, ga, h5]
        rw [x_appN (r := 2) (m := 1) (c := 1) (row := ⟨true, false, [.int .i64 ((c + x) % 256)]⟩) (xs := [.int .i64 ((c + x) % 256)]) (by simp only [e_upd, e_putS, e_putN, e_t, e_c, Nat.reduceEqDiff, ↓reduceIte, reduceCtorEq, Nat.reduceAdd, h5]) (by simp only [e_upd, e_putS, e_putN, e_t, e_c, Nat.reduceEqDiff, ↓reduceIte, reduceCtorEq, Nat.reduceAdd]; rfl) rfl rfl (by simp) (by omega) rfl]
        simp (disch := omega) only [sN, ↓reduceIte, Nat.reduceEqDiff, Nat.reduceAdd, Nat.reduceMul, Nat.reduceSub, reduceCtorEq, e_none, e_some, e_bindS, h0, h1, h6, h7, k_len hk, k_len hk', b_rem, b_quo, ia, ga, h5]
        refine loop_gc (m := N + 1 - (i + 1)) [0, 1, 3] rfl ?_ (by omega) ⟨i + 1, rfl, by omega, ?_, ?_, ?_, ?_, .inr ⟨by rw [Dg.addD_length]; omega, ?_, ?_⟩⟩
        · simp [gcH, Vh.rowAt, ro, rw_, sl, ints_ren, ints_cell, n_lcons, n_lnil, n_int, AV.cell]
        · exact gc_at (v := mkS κ 0 0 a.length) (by simp only [e_upd, e_putS, e_putN, e_t, e_c, Nat.reduceEqDiff, ↓reduceIte, reduceCtorEq, Nat.reduceAdd, h0]) (n_mkS0 rfl)
        · exact gc_at (v := mkS κ' 1 0 b.length) (by simp only [e_upd, e_putS, e_putN, e_t, e_c, Nat.reduceEqDiff, ↓reduceIte, reduceCtorEq, Nat.reduceAdd, h1]) (n_mkS0 rfl)
        · rw [st2 (c + x) (by omega)]; exact gc_at (v := .int .i64 ((c + x) / 256)) (by simp only [e_upd, e_putS, e_putN, e_t, e_c, Nat.reduceEqDiff, ↓reduceIte, reduceCtorEq, Nat.reduceAdd]) rfl
        · exact gc_at (v := .int .i64 ((i + 1 : Nat) : Int)) (by simp only [e_upd, e_putS, e_putN, e_t, e_c, Nat.reduceEqDiff, ↓reduceIte, reduceCtorEq, Nat.reduceAdd]; rfl) rfl
        · rw [Dg.addD_length a b (i + 1)]; have : i = 0 := by omega
          subst this; exact gc_at (v := .sliceU 3 0 1 1) (by simp only [e_upd, e_putS, e_putN, e_t, e_c, Nat.reduceEqDiff, ↓reduceIte, reduceCtorEq, Nat.reduceAdd]; rfl) rfl
        · rw [st1 (c + x) (by omega), show (Dg.addD a b i).1 = [] from List.eq_nil_of_length_eq_zero (by rw [Dg.addD_length]; omega)]
          simp [gcH, Vh.rowAt, ro, rw_, sl, ints_ren, n_lcons, n_lnil, n_int, ints1]
      · simp (disch := omega) only [sN, ↓reduceIte, Nat.reduceEqDiff, Nat.reduceAdd, Nat.reduceMul, Nat.reduceSub, reduceCtorEq, e_none, e_some, e_bindS, h0, h1, h6, h7, k_len hk, k_len hk', b_rem, b_quo, ia, ga, h5, List.cons_append, List.nil_append]
        rw [x_bs1 (v := .int .i64 ((c + x) % 256)) (by simp only [e_upd, e_putS, e_putN, e_t, e_c, Nat.reduceEqDiff, ↓reduceIte, reduceCtorEq, Nat.reduceAdd]) rfl]
        simp (disch := omega) only [sN, ↓reduceIte, Nat.reduceEqDiff, Nat.reduceAdd, Nat.reduceMul, Nat.reduceSub, reduceCtorEq, e_none, e_some, e_bindS, h0, h1, h6, h7, k_len hk, k_len hk', b_rem, b_quo, ia, ga, h5, List.cons_append, List.nil_append]
        rw [x_appU (q := 2) (n := i) (r := 3) (m := 1) (c := 1) (row := ⟨true, false, [.int .i64 ((c + x) % 256)]⟩) (xs := [.int .i64 ((c + x) % 256)]) (old := ints .i64 (Dg.addD a b i).1) (by simp only [e_upd, e_putS, e_putN, e_t, e_c, Nat.reduceEqDiff, ↓reduceIte, reduceCtorEq, Nat.reduceAdd, h5, Dg.addD_length]; rfl) (by simp only [e_upd, e_putS, e_putN, e_t, e_c, Nat.reduceEqDiff, ↓reduceIte, reduceCtorEq, Nat.reduceAdd]; rfl) rfl (by rw [ints_length, Dg.addD_length]) rfl rfl (by simp) (by omega) rfl, ints_snoc]
        simp (disch := omega) only [sN, ↓reduceIte, Nat.reduceEqDiff, Nat.reduceAdd, Nat.reduceMul, Nat.reduceSub, reduceCtorEq, e_none, e_some, e_bindS, h0, h1, h6, h7, k_len hk, k_len hk', b_rem, b_quo, ia, ga, h5]
        refine loop_gc (m := N + 1 - (i + 1)) [0, 1, 4] rfl ?_ (by omega) ⟨i + 1, rfl, by omega, ?_, ?_, ?_, ?_, .inr ⟨by rw [Dg.addD_length]; omega, ?_, ?_⟩⟩
        · simp [gcH, Vh.rowAt, ro, rw_, sl, ints_ren, ints_cell]
        · exact gc_at (v := mkS κ 0 0 a.length) (by simp only [e_upd, e_putS, e_putN, e_t, e_c, Nat.reduceEqDiff, ↓reduceIte, reduceCtorEq, Nat.reduceAdd, h0]) (n_mkS0 rfl)
        · exact gc_at (v := mkS κ' 1 0 b.length) (by simp only [e_upd, e_putS, e_putN, e_t, e_c, Nat.reduceEqDiff, ↓reduceIte, reduceCtorEq, Nat.reduceAdd, h1]) (n_mkS0 rfl)
        · rw [st2 (c + x) (by omega)]; exact gc_at (v := .int .i64 ((c + x) / 256)) (by simp only [e_upd, e_putS, e_putN, e_t, e_c, Nat.reduceEqDiff, ↓reduceIte, reduceCtorEq, Nat.reduceAdd]) rfl
        · exact gc_at (v := .int .i64 ((i + 1 : Nat) : Int)) (by simp only [e_upd, e_putS, e_putN, e_t, e_c, Nat.reduceEqDiff, ↓reduceIte, reduceCtorEq, Nat.reduceAdd]; rfl) rfl
        · rw [Dg.addD_length a b (i + 1)]; exact gc_at (v := .sliceU 4 0 (i + 1) 1) (by simp only [e_upd, e_putS, e_putN, e_t, e_c, Nat.reduceEqDiff, ↓reduceIte, reduceCtorEq, Nat.reduceAdd]; rfl) rfl
        · rw [st1 (c + x) (by omega)]
          simp [gcH, Vh.rowAt, ro, rw_, sl, ints_ren]
  · have hx0 : x = 0 := by rw [← hx, List.getD_eq_getElem?_getD, List.getElem?_eq_none (by omega)]; rfl
    by_cases lb : (i : Int) < (b.length : Int)
    · have ib : aindexAddr 1 (mkS κ' 1 0 b.length) (.int .i64 (i : Int)) = some (.ptr 1 i) := by
        rw [k_idx hk' (Nat.le_refl _) (by omega) lb]; simp
      have gb : (ints .i64 b)[i]? = some (.int .i64 y) := by rw [ints_get (by omega), hy]
      rcases hg with ⟨hz, h5, rfl⟩ | ⟨hpos, h5, rfl⟩
      · simp (disch := omega) only [sN, ↓reduceIte, Nat.reduceEqDiff, Nat.reduceAdd, Nat.reduceMul, Nat.reduceSub, reduceCtorEq, e_none, e_some, e_bindS, h0, h1, h6, h7, k_len hk, k_len hk', b_rem, b_quo, ib, gb, h5]
        rw [x_bs1 (v := .int .i64 ((c + y) % 256)) (by simp only [e_upd, e_putS, e_putN, e_t, e_c, Nat.reduceEqDiff, ↓reduceIte, reduceCtorEq, Nat.reduceAdd]) rfl]
        simp (disch := omega) only [sN, ↓reduceIte, Nat.reduceEqDiff, Nat.reduceAdd, Nat.reduceMul, Nat.reduceSub, reduceCtorEq, e_none, e_some, e_bindS, h0, h1, h6, h7, k_len hk, k_len hk', b_rem, b_quo, ib, gb, h5]
        rw [x_appN (r := 2) (m := 1) (c := 1) (row := ⟨true, false, [.int .i64 ((c + y) % 256)]⟩) (xs := [.int .i64 ((c + y) % 256)]) (by simp only [e_upd, e_putS, e_putN, e_t, e_c, Nat.reduceEqDiff, ↓reduceIte, reduceCtorEq, Nat.reduceAdd, h5]) (by simp only [e_upd, e_putS, e_putN, e_t, e_c, Nat.reduceEqDiff, ↓reduceIte, reduceCtorEq, Nat.reduceAdd]; rfl) rfl rfl (by simp) (by omega) rfl]
        simp (disch := omega) only [sN, ↓reduceIte, Nat.reduceEqDiff, Nat.reduceAdd, Nat.reduceMul, Nat.reduceSub, reduceCtorEq, e_none, e_some, e_bindS, h0, h1, h6, h7, k_len hk, k_len hk', b_rem, b_quo, ib, gb, h5]
        refine loop_gc (m := N + 1 - (i + 1)) [0, 1, 3] rfl ?_ (by omega) ⟨i + 1, rfl, by omega, ?_, ?_, ?_, ?_, .inr ⟨by rw [Dg.addD_length]; omega, ?_, ?_⟩⟩
        · simp [gcH, Vh.rowAt, ro, rw_, sl, ints_ren, ints_cell, n_lcons, n_lnil, n_int, AV.cell]
        · exact gc_at (v := mkS κ 0 0 a.length) (by simp only [e_upd, e_putS, e_putN, e_t, e_c, Nat.reduceEqDiff, ↓reduceIte, reduceCtorEq, Nat.reduceAdd, h0]) (n_mkS0 rfl)
        · exact gc_at (v := mkS κ' 1 0 b.length) (by simp only [e_upd, e_putS, e_putN, e_t, e_c, Nat.reduceEqDiff, ↓reduceIte, reduceCtorEq, Nat.reduceAdd, h1]) (n_mkS0 rfl)
        · rw [st2 (c + y) (by omega)]; exact gc_at (v := .int .i64 ((c + y) / 256)) (by simp only [e_upd, e_putS, e_putN, e_t, e_c, Nat.reduceEqDiff, ↓reduceIte, reduceCtorEq, Nat.reduceAdd]) rfl
        · exact gc_at (v := .int .i64 ((i + 1 : Nat) : Int)) (by simp only [e_upd, e_putS, e_putN, e_t, e_c, Nat.reduceEqDiff, ↓reduceIte, reduceCtorEq, Nat.reduceAdd]; rfl) rfl
        · rw [Dg.addD_length a b (i + 1)]; have : i = 0 := by omega
          subst this; exact gc_at (v := .sliceU 3 0 1 1) (by simp only [e_upd, e_putS, e_putN, e_t, e_c, Nat.reduceEqDiff, ↓reduceIte, reduceCtorEq, Nat.reduceAdd]; rfl) rfl
        · rw [st1 (c + y) (by omega), show (Dg.addD a b i).1 = [] from List.eq_nil_of_length_eq_zero (by rw [Dg.addD_length]; omega)]
          simp [gcH, Vh.rowAt, ro, rw_, sl, ints_ren, n_lcons, n_lnil, n_int, ints1]
      · simp (disch := omega) only [sN, ↓reduceIte, Nat.reduceEqDiff, Nat.reduceAdd, Nat.reduceMul, Nat.reduceSub, reduceCtorEq, e_none, e_some, e_bindS, h0, h1, h6, h7, k_len hk, k_len hk', b_rem, b_quo, ib, gb, h5, List.cons_append, List.nil_append]
        rw [x_bs1 (v := .int .i64 ((c + y) % 256)) (by simp only [e_upd, e_putS, e_putN, e_t, e_c, Nat.reduceEqDiff, ↓reduceIte, reduceCtorEq, Nat.reduceAdd]) rfl]
        simp (disch := omega) only [sN, ↓reduceIte, Nat.reduceEqDiff, Nat.reduceAdd, Nat.reduceMul, Nat.reduceSub, reduceCtorEq, e_none, e_some, e_bindS, h0, h1, h6, h7, k_len hk, k_len hk', b_rem, b_quo, ib, gb, h5, List.cons_append, List.nil_append]
        rw [x_appU (q := 2) (n := i) (r := 3) (m := 1) (c := 1) (row := ⟨true, false, [.int .i64 ((c + y) % 256)]⟩) (xs := [.int .i64 ((c + y) % 256)]) (old := ints .i64 (Dg.addD a b i).1) (by simp only [e_upd, e_putS, e_putN, e_t, e_c, Nat.reduceEqDiff, ↓reduceIte, reduceCtorEq, Nat.reduceAdd, h5, Dg.addD_length]; rfl) (by simp only [e_upd, e_putS, e_putN, e_t, e_c, Nat.reduceEqDiff, ↓reduceIte, reduceCtorEq, Nat.reduceAdd]; rfl) rfl (by rw [ints_length, Dg.addD_length]) rfl rfl (by simp) (by omega) rfl, ints_snoc]
        simp (disch := omega) only [sN, ↓reduceIte, Nat.reduceEqDiff, Nat.reduceAdd, Nat.reduceMul, Nat.reduceSub, reduceCtorEq, e_none, e_some, e_bindS, h0, h1, h6, h7, k_len hk, k_len hk', b_rem, b_quo, ib, gb, h5]
        refine loop_gc (m := N + 1 - (i + 1)) [0, 1, 4] rfl ?_ (by omega) ⟨i + 1, rfl, by omega, ?_, ?_, ?_, ?_, .inr ⟨by rw [Dg.addD_length]; omega, ?_, ?_⟩⟩
        · simp [gcH, Vh.rowAt, ro, rw_, sl, ints_ren, ints_cell]
        · exact gc_at (v := mkS κ 0 0 a.length) (by simp only [e_upd, e_putS, e_putN, e_t, e_c, Nat.reduceEqDiff, ↓reduceIte, reduceCtorEq, Nat.reduceAdd, h0]) (n_mkS0 rfl)
        · exact gc_at (v := mkS κ' 1 0 b.length) (by simp only [e_upd, e_putS, e_putN, e_t, e_c, Nat.reduceEqDiff, ↓reduceIte, reduceCtorEq, Nat.reduceAdd, h1]) (n_mkS0 rfl)
        · rw [st2 (c + y) (by omega)]; exact gc_at (v := .int .i64 ((c + y) / 256)) (by simp only [e_upd, e_putS, e_putN, e_t, e_c, Nat.reduceEqDiff, ↓reduceIte, reduceCtorEq, Nat.reduceAdd]) rfl
        · exact gc_at (v := .int .i64 ((i + 1 : Nat) : Int)) (by simp only [e_upd, e_putS, e_putN, e_t, e_c, Nat.reduceEqDiff, ↓reduceIte, reduceCtorEq, Nat.reduceAdd]; rfl) rfl
        · rw [Dg.addD_length a b (i + 1)]; exact gc_at (v := .sliceU 4 0 (i + 1) 1) (by simp only [e_upd, e_putS, e_putN, e_t, e_c, Nat.reduceEqDiff, ↓reduceIte, reduceCtorEq, Nat.reduceAdd]; rfl) rfl
        · rw [st1 (c + y) (by omega)]
          simp [gcH, Vh.rowAt, ro, rw_, sl, ints_ren]
    · have hy0 : y = 0 := by rw [← hy, List.getD_eq_getElem?_getD, List.getElem?_eq_none (by omega)]; rfl
      by_cases lc : 0 < c
      · have hiN : i ≤ N := by
          rcases Nat.lt_or_ge N i with h | h
          · have := hstop (by omega); omega
          · exact h
        rcases hg with ⟨hz, h5, rfl⟩ | ⟨hpos, h5, rfl⟩
        · simp (disch := omega) only [sN, ↓reduceIte, Nat.reduceEqDiff, Nat.reduceAdd, Nat.reduceMul, Nat.reduceSub, reduceCtorEq, e_none, e_some, e_bindS, h0, h1, h6, h7, k_len hk, k_len hk', b_rem, b_quo, h5]
          rw [x_bs1 (v := .int .i64 ((c) % 256)) (by simp only [e_upd, e_putS, e_putN, e_t, e_c, Nat.reduceEqDiff, ↓reduceIte, reduceCtorEq, Nat.reduceAdd]) rfl]
          simp (disch := omega) only [sN, ↓reduceIte, Nat.reduceEqDiff, Nat.reduceAdd, Nat.reduceMul, Nat.reduceSub, reduceCtorEq, e_none, e_some, e_bindS, h0, h1, h6, h7, k_len hk, k_len hk', b_rem, b_quo, h5]
          rw [x_appN (r := 2) (m := 1) (c := 1) (row := ⟨true, false, [.int .i64 ((c) % 256)]⟩) (xs := [.int .i64 ((c) % 256)]) (by simp only [e_upd, e_putS, e_putN, e_t, e_c, Nat.reduceEqDiff, ↓reduceIte, reduceCtorEq, Nat.reduceAdd, h5]) (by simp only [e_upd, e_putS, e_putN, e_t, e_c, Nat.reduceEqDiff, ↓reduceIte, reduceCtorEq, Nat.reduceAdd]; rfl) rfl rfl (by simp) (by omega) rfl]
          simp (disch := omega) only [sN, ↓reduceIte, Nat.reduceEqDiff, Nat.reduceAdd, Nat.reduceMul, Nat.reduceSub, reduceCtorEq, e_none, e_some, e_bindS, h0, h1, h6, h7, k_len hk, k_len hk', b_rem, b_quo, h5]
          refine loop_gc (m := N + 1 - (i + 1)) [0, 1, 3] rfl ?_ (by omega) ⟨i + 1, rfl, by omega, ?_, ?_, ?_, ?_, .inr ⟨by rw [Dg.addD_length]; omega, ?_, ?_⟩⟩
          · simp [gcH, Vh.rowAt, ro, rw_, sl, ints_ren, ints_cell, n_lcons, n_lnil, n_int, AV.cell]
          · exact gc_at (v := mkS κ 0 0 a.length) (by simp only [e_upd, e_putS, e_putN, e_t, e_c, Nat.reduceEqDiff, ↓reduceIte, reduceCtorEq, Nat.reduceAdd, h0]) (n_mkS0 rfl)
          · exact gc_at (v := mkS κ' 1 0 b.length) (by simp only [e_upd, e_putS, e_putN, e_t, e_c, Nat.reduceEqDiff, ↓reduceIte, reduceCtorEq, Nat.reduceAdd, h1]) (n_mkS0 rfl)
          · rw [st2 (c) (by omega)]; exact gc_at (v := .int .i64 ((c) / 256)) (by simp only [e_upd, e_putS, e_putN, e_t, e_c, Nat.reduceEqDiff, ↓reduceIte, reduceCtorEq, Nat.reduceAdd]) rfl
          · exact gc_at (v := .int .i64 ((i + 1 : Nat) : Int)) (by simp only [e_upd, e_putS, e_putN, e_t, e_c, Nat.reduceEqDiff, ↓reduceIte, reduceCtorEq, Nat.reduceAdd]; rfl) rfl
          · rw [Dg.addD_length a b (i + 1)]; have : i = 0 := by omega
            subst this; exact gc_at (v := .sliceU 3 0 1 1) (by simp only [e_upd, e_putS, e_putN, e_t, e_c, Nat.reduceEqDiff, ↓reduceIte, reduceCtorEq, Nat.reduceAdd]; rfl) rfl
          · rw [st1 (c) (by omega), show (Dg.addD a b i).1 = [] from List.eq_nil_of_length_eq_zero (by rw [Dg.addD_length]; omega)]
            simp [gcH, Vh.rowAt, ro, rw_, sl, ints_ren, n_lcons, n_lnil, n_int, ints1]
        · simp (disch := omega) only [sN, ↓reduceIte, Nat.reduceEqDiff, Nat.reduceAdd, Nat.reduceMul, Nat.reduceSub, reduceCtorEq, e_none, e_some, e_bindS, h0, h1, h6, h7, k_len hk, k_len hk', b_rem, b_quo, h5, List.cons_append, List.nil_append]
          rw [x_bs1 (v := .int .i64 ((c) % 256)) (by simp only [e_upd, e_putS, e_putN, e_t, e_c, Nat.reduceEqDiff, ↓reduceIte, reduceCtorEq, Nat.reduceAdd]) rfl]
          simp (disch := omega) only [sN, ↓reduceIte, Nat.reduceEqDiff, Nat.reduceAdd, Nat.reduceMul, Nat.reduceSub, reduceCtorEq, e_none, e_some, e_bindS, h0, h1, h6, h7, k_len hk, k_len hk', b_rem, b_quo, h5, List.cons_append, List.nil_append]
          rw [x_appU (q := 2) (n := i) (r := 3) (m := 1) (c := 1) (row := ⟨true, false, [.int .i64 ((c) % 256)]⟩) (xs := [.int .i64 ((c) % 256)]) (old := ints .i64 (Dg.addD a b i).1) (by simp only [e_upd, e_putS, e_putN, e_t, e_c, Nat.reduceEqDiff, ↓reduceIte, reduceCtorEq, Nat.reduceAdd, h5, Dg.addD_length]; rfl) (by simp only [e_upd, e_putS, e_putN, e_t, e_c, Nat.reduceEqDiff, ↓reduceIte, reduceCtorEq, Nat.reduceAdd]; rfl) rfl (by rw [ints_length, Dg.addD_length]) rfl rfl (by simp) (by omega) rfl, ints_snoc]
          simp (disch := omega) only [sN, ↓reduceIte, Nat.reduceEqDiff, Nat.reduceAdd, Nat.reduceMul, Nat.reduceSub, reduceCtorEq, e_none, e_some, e_bindS, h0, h1, h6, h7, k_len hk, k_len hk', b_rem, b_quo, h5]
          refine loop_gc (m := N + 1 - (i + 1)) [0, 1, 4] rfl ?_ (by omega) ⟨i + 1, rfl, by omega, ?_, ?_, ?_, ?_, .inr ⟨by rw [Dg.addD_length]; omega, ?_, ?_⟩⟩
          · simp [gcH, Vh.rowAt, ro, rw_, sl, ints_ren, ints_cell]
          · exact gc_at (v := mkS κ 0 0 a.length) (by simp only [e_upd, e_putS, e_putN, e_t, e_c, Nat.reduceEqDiff, ↓reduceIte, reduceCtorEq, Nat.reduceAdd, h0]) (n_mkS0 rfl)
          · exact gc_at (v := mkS κ' 1 0 b.length) (by simp only [e_upd, e_putS, e_putN, e_t, e_c, Nat.reduceEqDiff, ↓reduceIte, reduceCtorEq, Nat.reduceAdd, h1]) (n_mkS0 rfl)
          · rw [st2 (c) (by omega)]; exact gc_at (v := .int .i64 ((c) / 256)) (by simp only [e_upd, e_putS, e_putN, e_t, e_c, Nat.reduceEqDiff, ↓reduceIte, reduceCtorEq, Nat.reduceAdd]) rfl
          · exact gc_at (v := .int .i64 ((i + 1 : Nat) : Int)) (by simp only [e_upd, e_putS, e_putN, e_t, e_c, Nat.reduceEqDiff, ↓reduceIte, reduceCtorEq, Nat.reduceAdd]; rfl) rfl
          · rw [Dg.addD_length a b (i + 1)]; exact gc_at (v := .sliceU 4 0 (i + 1) 1) (by simp only [e_upd, e_putS, e_putN, e_t, e_c, Nat.reduceEqDiff, ↓reduceIte, reduceCtorEq, Nat.reduceAdd]; rfl) rfl
          · rw [st1 (c) (by omega)]
            simp [gcH, Vh.rowAt, ro, rw_, sl, ints_ren]
      · have hc0 : c = 0 := by omega
        have hnum := Dg.addD_num (a := a) (b := b) (i := i) (by omega) (by omega) (by rw [hc, hc0])
        have hdl := Dg.addD_dl ha hb i
        rw [hp, hq] at hnum
        have hnum' : Dg.num (Dg.addD a b i).1 = ((p + q : Nat) : Int) := by omega
        generalize (Dg.addD a b i).1 = O at *
        rcases hg with ⟨hz, h5, rfl⟩ | ⟨hpos, h5, rfl⟩
        · obtain rfl : O = [] := List.eq_nil_of_length_eq_zero hz
          have hpq : p + q = 0 := by
            have : Dg.num [] = 0 := rfl
            omega
          simp (disch := omega) only [sN, ↓reduceIte, Nat.reduceEqDiff, Nat.reduceAdd, Nat.reduceMul, Nat.reduceSub, reduceCtorEq, e_none, e_some, e_bindS, h0, h1, h5, h6, h7, k_len hk, k_len hk']
          refine call_ints (κ := .nil) (n := 0) (l := []) (r := 0) (row := ⟨false, false, ints .i64 a⟩) (rtrim_calls .nil [] rfl (by simp)) rfl rfl rfl rfl ?_
          rintro v0 H0' ⟨rfl, rfl⟩
          simp (disch := omega) only [sN, ↓reduceIte, Nat.reduceEqDiff, Nat.reduceAdd, Nat.reduceMul, Nat.reduceSub, reduceCtorEq, e_none, e_some, e_bindS]
          refine ⟨_, _, Weak.pad, by simp, ?_⟩
          unfold rs_radd; rw [q_tmp, q_then, hpq]
          simp only [e_upd, e_putS, e_putN, e_t, e_c, Nat.reduceEqDiff, ↓reduceIte, reduceCtorEq, Nat.reduceAdd]
          exact dnew_nil
        · simp (disch := omega) only [sN, ↓reduceIte, Nat.reduceEqDiff, Nat.reduceAdd, Nat.reduceMul, Nat.reduceSub, reduceCtorEq, e_none, e_some, e_bindS, h0, h1, h5, h6, h7, k_len hk, k_len hk', List.cons_append, List.nil_append]
          refine call_ints (κ := .u) (l := O) (r := 2) (row := ⟨true, true, ints .i64 O⟩) (rtrim_calls .u O okS_u (by omega)) rfl rfl (by rw [← ints_length (k := .i64) (l := O), List.take_length]) rfl ?_
          rintro v0 H0' ⟨rfl, rfl⟩
          rw [n_mkS0 (r' := 2) rfl]
          simp (disch := omega) only [sN, ↓reduceIte, Nat.reduceEqDiff, Nat.reduceAdd, Nat.reduceMul, Nat.reduceSub, reduceCtorEq, e_none, e_some, e_bindS]
          refine ret_keep (by simp) ?_
          unfold rs_radd; rw [q_tmp, q_then]
          simp only [e_upd, e_putS, e_putN, e_t, e_c, Nat.reduceEqDiff, ↓reduceIte, reduceCtorEq, Nat.reduceAdd]
          exact dnew_of hdl hnum' trivial
end Go.Proofs.Ythbhljolpnbdlaa.S1


