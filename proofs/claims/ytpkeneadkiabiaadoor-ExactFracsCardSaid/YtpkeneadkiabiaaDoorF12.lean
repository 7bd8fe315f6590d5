/- Contracts: exact's divide. -/
import Derived.Test.YtpkeneadkiabiaaDoorVX
import Derived.Test.YtpkeneadkiabiaaDoorFD
import Derived.Test.YtpkeneadkiabiaaDoorCC
set_option linter.unusedSimpArgs false
set_option linter.unusedVariables false
-- NEWSET
namespace Go.Proofs.YtpkeneadkiabiaaDoor
open Go Go.Vh

/-- Two new numbers as the answer. -/
def Fresh2 (H0 : AHeap) (q r : Int) (v : AV) (H : AHeap) : Prop := ∃ κ l row κ' l' row', v = .tuple [mkS κ H0.length 0 l.length, mkS κ' (H0.length + 1) 0 l'.length] ∧ H = H0 ++ [some row, some row'] ∧ NewNum q κ l row ∧ NewNum r κ' l' row'

theorem NewNum.back {q : Int} {κ : SK} {l : List Int} {row : ARow} (h : NewNum q κ l row) (σ : Sig) : ({ row with cells := renL σ row.cells } : ARow) = row := by
  rw [flatL_ren h.flat]

theorem ret_fresh2 {κ1 κ2 : SK} {l1 l2 a b : List Int} {row1 row2 : ARow} {q r : Int} {i j : Nat} {s : St} {H : AHeap} (hi : 2 ≤ i) (hj : 2 ≤ j) (hij : i ≠ j)
    (h0 : Vh.rowAt H 0 = some ⟨false, false, ints .u32 a⟩) (h1 : Vh.rowAt H 1 = some ⟨false, false, ints .u32 b⟩) (r1 : Vh.rowAt H i = some row1) (r2 : Vh.rowAt H j = some row2)
    (h4 : s 4 = mkS κ1 i 0 l1.length) (h5 : s 5 = mkS κ2 j 0 l2.length) (n1 : NewNum q κ1 l1 row1) (n2 : NewNum r κ2 l2 row2) : retPost 2 [.tmp 4, .tmp 5] (Fresh2 [ro (ints .u32 a), ro (ints .u32 b)] q r) .ret s H := by
  have li := rowAt_lt r1
  have lj := rowAt_lt r2
  have l1' := rowAt_lt h1
  have hH : gcH [0, 1, i, j] H = [ro (ints .u32 a), ro (ints .u32 b), some row1, some row2] := by
    simp only [gcH, List.map_cons, List.map_nil, h0, h1, r1, r2, n1.back, n2.back, ints_ren]
    rfl
  have e0 : (0 : Nat) ≠ i := by omega
  have e1 : (0 : Nat) ≠ j := by omega
  have e2 : (1 : Nat) ≠ i := by omega
  have e3 : (1 : Nat) ≠ j := by omega
  have si : gcSig [0, 1, i, j] i = some (2, 0) := by
    simp [gcSig, List.idxOf?, List.findIdx?_cons, e0, e2]
  have sj : gcSig [0, 1, i, j] j = some (3, 0) := by
    simp [gcSig, List.idxOf?, List.findIdx?_cons, e1, e3, hij]
  refine ret_gc [0, 1, i, j] ?_ ?_ (by simp) ?_
  · simp [gcOK, List.range, List.range.loop, e0, e1, e2, e3, hij]; omega
  · rw [hH]
    simp [ro, ints_cell, n1.cell, n2.cell]
  · show Fresh2 _ _ _ (.tuple [gcS [0, 1, i, j] s 4, gcS [0, 1, i, j] s 5]) _
    refine ⟨κ1, l1, row1, κ2, l2, row2, ?_, hH, n1, n2⟩
    simp only [gcS, h4, h5, n_mkS0 si, n_mkS0 sj]
    rfl
theorem ret_fresh2_nil {κ2 : SK} {l2 a b : List Int} {row2 : ARow} {r : Int} {s : St}
    (h4 : s 4 = .nilslice) (h5 : s 5 = mkS κ2 2 0 l2.length) (n2 : NewNum r κ2 l2 row2) : retPost 2 [.tmp 4, .tmp 5] (Fresh2 [ro (ints .u32 a), ro (ints .u32 b)] 0 r) .ret s [ro (ints .u32 a), ro (ints .u32 b), some row2] := by
  have n1 : NewNum 0 .nil [] ⟨true, false, []⟩ := ⟨rfl, fun j => by simp, rfl, rfl, rfl, rfl, rfl⟩
  obtain ⟨s', H', hw, hl, ht⟩ := ret_fresh2 (κ1 := .nil) (l1 := []) (row1 := ⟨true, false, []⟩) (i := 3) (j := 2) (a := a) (b := b) (s := s) (H := [ro (ints .u32 a), ro (ints .u32 b), some row2, empty]) (by omega) (by omega) (by omega) rfl rfl rfl rfl (by rw [h4]; rfl) h5 n1 n2
  exact ⟨s', H', Weak.pad.trans hw, hl, ht⟩

/-- A number cut to its limbs that count. -/
theorem cut_take {a : List Int} (ha : Limbs a) : ∃ A : List Int, A.length = tz a a.length ∧ (ints .u32 a).take A.length = ints .u32 A ∧ Limbs A ∧ num A = num a ∧ tz A A.length = A.length ∧ (0 < A.length → A.getD (A.length - 1) 0 ≠ 0) := by
  have ht := tz_le a a.length
  have hl : (a.take (tz a a.length)).length = tz a a.length := by rw [List.length_take]; omega
  have hn := new_of_trim (S := a) (x := num a) (c := tz a a.length) (row := ⟨true, false, ints .u32 a⟩) ha rfl (Nat.le_refl _) rfl rfl
  refine ⟨a.take (tz a a.length), hl, by rw [hl, ints_take], hn.limbs, hn.num, hn.norm, fun h => ?_⟩
  have := tz_last (a.take (tz a a.length)) _ (by rw [hn.norm]; omega)
  rw [hn.norm] at this
  exact this
theorem num_single (x : Int) : num [x] = x := by simp [num, nv]

theorem own_fresh (κ : SK) (l : List Int) (hk : okS κ l.length) (hm : l.length ≤ 1000000) (hl : Limbs l) : ACalls Tryd.prog 105 [mkS κ 0 0 l.length] [ro (ints .u32 l)] [0] (Fresh [ro (ints .u32 l)] (num l)) :=
  (own_calls κ l hk hm).mono fun v H ⟨h1, h2⟩ => by
    have hn := new_of_trim (S := l) (x := num l) (c := tz l l.length) (row := ⟨true, false, ints .u32 l⟩) hl rfl (Nat.le_refl _) rfl rfl
    refine ⟨.cap (tz l l.length), l.take (tz l l.length), ⟨true, false, ints .u32 (l.take (tz l l.length))⟩, ?_, h2, ⟨hn.ok, hn.limbs, hn.norm, hn.num, rfl, ?_, ints_flat⟩⟩
    · rw [h1, List.length_take, Nat.min_eq_left (tz_le _ _)]; rfl
    · show (ints .u32 (l.take (tz l l.length))).take (l.take (tz l l.length)).length = _
      rw [← ints_length (k := .u32) (l := l.take (tz l l.length)), List.take_length]

set_option maxHeartbeats 1000000 in
theorem xdivide_fresh (κ κ' : SK) (a b : List Int) (hk : okS κ a.length) (hk' : okS κ' b.length) (hm : a.length ≤ 100000) (hm' : b.length ≤ 100000) (ha : Limbs a) (hb : Limbs b) (hb0 : num b ≠ 0) :
    ACalls Tryd.prog 107 [mkS κ 0 0 a.length, mkS κ' 1 0 b.length] [ro (ints .u32 a), ro (ints .u32 b)] (List.range 2) (Fresh2 [ro (ints .u32 a), ro (ints .u32 b)] (num a / num b) (num a % num b)) := by
  refine ACalls.body Tryd.func107 ent_xdivide ir_xdivide_ok rs_xdivide_ok Tryd.ntmps107 (by simp) rfl ?_
  unfold ir_xdivide
  have e0 : s0 [mkS κ 0 0 a.length, mkS κ' 1 0 b.length] 0 = mkS κ 0 0 a.length := rfl
  have e1 : s0 [mkS κ 0 0 a.length, mkS κ' 1 0 b.length] 1 = mkS κ' 1 0 b.length := rfl
  have hrs : rs_xdivide = [.tmp 4, .tmp 5] := rfl
  rw [hrs]
  simp -implicitDefEqProofs (disch := omega) only [sN, ↓reduceIte, Nat.reduceEqDiff, Nat.reduceAdd, Nat.reduceMul, Nat.reduceSub, reduceCtorEq, e_none, e_some, e_bindS, e0, e1]
  refine call_rdS (r := 0) (row := ⟨false, false, ints .u32 a⟩) (xtrim_calls κ a hk (by omega)) rfl rfl take_all rfl ?_
  simp -implicitDefEqProofs (disch := omega) only [sN, ↓reduceIte, Nat.reduceEqDiff, Nat.reduceAdd, Nat.reduceMul, Nat.reduceSub, reduceCtorEq, e_none, e_some, e_bindS, e0, e1]
  refine call_rdS (r := 1) (row := ⟨false, false, ints .u32 b⟩) (xtrim_calls κ' b hk' (by omega)) rfl rfl take_all rfl ?_
  obtain ⟨A, lA, cA, LA, nA, zA, tA⟩ := cut_take ha
  obtain ⟨B, lB, cB, LB, nB, zB, tB⟩ := cut_take hb
  have hta := tz_le a a.length
  have htb := tz_le b b.length
  rw [← lA, ← lB, ← nA, ← nB]
  rw [← nB] at hb0
  have hkA : okS κ A.length := hk.le (by omega)
  have hkB : okS κ' B.length := hk'.le (by omega)
  have hB1 : 0 < B.length := by
    rcases Nat.eq_zero_or_pos B.length with h | h
    · exfalso; apply hb0
      rw [List.length_eq_zero_iff.1 h]; rfl
    · exact h
  have hbp := num_nonneg LB
  have hap := num_nonneg LA
  by_cases c1 : A.length < B.length
  · simp -implicitDefEqProofs (disch := omega) only [sN, ↓reduceIte, Nat.reduceEqDiff, Nat.reduceAdd, Nat.reduceMul, Nat.reduceSub, reduceCtorEq, e_none, e_some, e_bindS, k_len hkA, k_len hkB]
    refine call_fresh (own_fresh κ A hkA (by omega) LA) [(0, 0)] rfl rfl ?_ ?_ ⟨seen_ro (row := ⟨false, false, ints .u32 a⟩) rfl ?_ ?_ (flatL_under ints_flat), trivial⟩ ?_
    · simp [underL, mkS_under]
    · rw [n_lcons, n_lnil, n_mkS0 (r' := 0) rfl]; rfl
    · simp only [ints_length]; omega
    · rw [ints_ren, ints_length, List.drop_zero, cA]
    intro κ2 l2 row2 hn
    have hlt : num A < num B := nv_len_lt LA LB c1 (tB hB1)
    rw [Int.ediv_eq_zero_of_lt hap hlt, Int.emod_eq_of_lt hap hlt]
    simp -implicitDefEqProofs (disch := omega) only [sN, ↓reduceIte, Nat.reduceEqDiff, Nat.reduceAdd, Nat.reduceMul, Nat.reduceSub, reduceCtorEq, e_none, e_some, e_bindS]
    refine ret_fresh2_nil (κ2 := κ2) ?_ ?_ hn
    · simp only [e_upd, e_putS, e_putN, e_t, e_c, Nat.reduceEqDiff, ↓reduceIte, reduceCtorEq, Nat.reduceAdd]
    · simp only [e_upd, e_putS, e_putN, e_t, e_c, Nat.reduceEqDiff, ↓reduceIte, reduceCtorEq, Nat.reduceAdd]; rfl
  · by_cases c2 : B.length = 1
    · obtain ⟨y, hy⟩ : ∃ y, B.getD 0 0 = y := ⟨_, rfl⟩
      have hBy : B = [y] := by
        obtain ⟨z, rfl⟩ := List.length_eq_one_iff.1 c2
        simp at hy; subst hy; rfl
      have hy1 := LB 0
      rw [hy] at hy1
      have hnB : num B = y := by rw [hBy]; exact num_single y
      have ib : aindexAddr 1 (mkS κ' 1 0 B.length) (.int .i64 0) = some (.ptr 1 0) := by
        rw [k_idx hkB (Nat.le_refl _) (by omega) (by omega)]; rfl
      have gb : (ints .u32 b)[0]? = some (.int .u32 y) := by
        have h : ((ints .u32 b).take B.length)[0]? = (ints .u32 B)[0]? := by rw [cB]
        rw [List.getElem?_take_of_lt (by omega), ints_get (l := B) (by omega), hy] at h
        exact h
      rw [hnB]
      rw [hnB] at hb0 hbp
      obtain ⟨q1, q2⟩ := dsS_num LA (y := y) (by omega)
      obtain ⟨hL, hc⟩ := dsS_range LA (y := y) (by omega) A.length A.length
      have hdl := dsS_length A y A.length A.length
      have htz := tz_le (dsS A y A.length A.length).1 A.length
      simp -implicitDefEqProofs (disch := omega) only [sN, ↓reduceIte, Nat.reduceEqDiff, Nat.reduceAdd, Nat.reduceMul, Nat.reduceSub, reduceCtorEq, e_none, e_some, e_bindS, k_len hkA, k_len hkB, ib, gb]
      refine call_ints (r := 0) (row := ⟨false, false, ints .u32 a⟩) (divideSmall_calls κ A hkA (by omega) LA (by omega)) rfl rfl cA rfl ?_
      rintro v0 H0' ⟨rfl, rfl⟩
      rw [n_tuple, n_lcons, n_lcons, n_lnil, n_int, n_mkS0 (r' := 2) rfl]
      simp -implicitDefEqProofs (disch := omega) only [sN, ↓reduceIte, Nat.reduceEqDiff, Nat.reduceAdd, Nat.reduceMul, Nat.reduceSub, reduceCtorEq, e_none, e_some, e_bindS, List.getElem?_cons_zero, List.getElem?_cons_succ]
      rw [x_bs1 (v := .int .u32 (dsS A y A.length A.length).2) (by simp only [e_upd, e_putS, e_putN, e_t, e_c, Nat.reduceEqDiff, ↓reduceIte, reduceCtorEq, Nat.reduceAdd]) rfl]
      simp -implicitDefEqProofs (disch := omega) only [sN, ↓reduceIte, Nat.reduceEqDiff, Nat.reduceAdd, Nat.reduceMul, Nat.reduceSub, reduceCtorEq, e_none, e_some, e_bindS]
      have n1 : NewNum (num A / y) (.cap A.length) ((dsS A y A.length A.length).1.take (tz (dsS A y A.length A.length).1 (dsS A y A.length A.length).1.length)) ⟨true, false, ints .u32 (dsS A y A.length A.length).1⟩ := new_of_trim hL q1 (by rw [hdl]; exact htz) rfl rfl
      have LR : Limbs [(dsS A y A.length A.length).2] := fun j => by
        cases j with
        | zero => simp; omega
        | succ j => simp
      have n2 : NewNum (num A % y) (.cap 1) ([(dsS A y A.length A.length).2].take (tz [(dsS A y A.length A.length).2] [(dsS A y A.length A.length).2].length)) ⟨true, false, ints .u32 [(dsS A y A.length A.length).2]⟩ :=
        new_of_trim LR (by rw [num_single]; exact q2) (by have := tz_le [(dsS A y A.length A.length).2] [(dsS A y A.length A.length).2].length; exact this) rfl rfl
      refine call_rdS (r := 3) (κ := .cap 1) (row := ⟨true, false, ints .u32 [(dsS A y A.length A.length).2]⟩) (xtrim_calls (.cap 1) [(dsS A y A.length A.length).2] (by simp [okS]) (by simp)) rfl rfl take_all rfl ?_
      simp -implicitDefEqProofs (disch := omega) only [sN, ↓reduceIte, Nat.reduceEqDiff, Nat.reduceAdd, Nat.reduceMul, Nat.reduceSub, reduceCtorEq, e_none, e_some, e_bindS]
      refine ret_fresh2 (i := 2) (j := 3) (by omega) (by omega) (by omega) rfl rfl ?_ rfl ?_ ?_ n1 n2
      · show some (ARow.mk true false (renL _ (ints .u32 _))) = _
        rw [ints_ren]
      · simp only [e_upd, e_putS, e_putN, e_t, e_c, Nat.reduceEqDiff, ↓reduceIte, reduceCtorEq, Nat.reduceAdd]
        rw [List.length_take, hdl, Nat.min_eq_left htz]
      · simp only [e_upd, e_putS, e_putN, e_t, e_c, Nat.reduceEqDiff, ↓reduceIte, reduceCtorEq, Nat.reduceAdd]
        rw [List.length_take, Nat.min_eq_left (tz_le _ _)]
    · obtain ⟨n, hn⟩ : ∃ n, B.length = n := ⟨_, rfl⟩
      have hn2 : 2 ≤ n := by omega
      have hTop := tB hB1
      have hTl := LB (B.length - 1)
      obtain ⟨x, hx⟩ : ∃ x : Nat, (B.getD (B.length - 1) 0).toNat = x := ⟨_, rfl⟩
      have hxI : B.getD (B.length - 1) 0 = (x : Int) := by omega
      obtain ⟨sh, hs31, hs1, hs2, hlz⟩ := xlz32_calls x (by omega) (by omega)
      have ib : aindexAddr 1 (mkS κ' 1 0 B.length) (.int .i64 (((B.length - 1 : Nat) : Int))) = some (.ptr 1 (B.length - 1)) := by
        rw [k_idx hkB (Nat.le_refl _) (by omega) (by omega)]; simp
      have gb : (ints .u32 b)[B.length - 1]? = some (.int .u32 (x : Int)) := by
        have h : ((ints .u32 b).take B.length)[B.length - 1]? = (ints .u32 B)[B.length - 1]? := by rw [cB]
        rw [List.getElem?_take_of_lt (by omega), ints_get (l := B) (by omega), hxI] at h
        exact h
      have hl1 : (B.length : Int) - 1 = ((B.length - 1 : Nat) : Int) := by omega
      simp -implicitDefEqProofs (disch := omega) only [sN, ↓reduceIte, Nat.reduceEqDiff, Nat.reduceAdd, Nat.reduceMul, Nat.reduceSub, reduceCtorEq, e_none, e_some, e_bindS, k_len hkA, k_len hkB, hl1, ib, gb]
      refine call_sc hlz rfl rfl (fun _ => rfl) ?_
      simp -implicitDefEqProofs (disch := omega) only [sN, ↓reduceIte, Nat.reduceEqDiff, Nat.reduceAdd, Nat.reduceMul, Nat.reduceSub, reduceCtorEq, e_none, e_some, e_bindS, k_len hkA, k_len hkB]
      refine call_ints (r := 1) (row := ⟨false, false, ints .u32 b⟩) (xshiftUp_calls κ' B sh hkB (by omega) LB hs31) rfl rfl cB rfl ?_
      rintro v0 H0' ⟨rfl, rfl⟩
      have lD0 := upL_length B sh
      have LD0 := upL_limbs LB hs31
      have nD0 := upL_num LB sh
      rw [n_slice (r' := 2) (d := 0) rfl]
      have hsl : aslice 1 (.slice 2 (0 + 0) (B.length + 1) (B.length + 1)) none (some (.int .i64 (B.length : Int))) = some (.slice 2 0 B.length (B.length + 1)) := by
        have q1 : (B.length : Int) ≤ ((B.length + 1 : Nat) : Int) := by omega
        have q0 : (0 : Int) ≤ (B.length : Int) := by omega
        simp only [aslice, ahi, abound]
        rw [if_pos ⟨q0, q1⟩]
        simp only [Option.bind_some, Int.toNat_natCast]
        congr 2
      simp -implicitDefEqProofs (disch := omega) only [sN, ↓reduceIte, Nat.reduceEqDiff, Nat.reduceAdd, Nat.reduceMul, Nat.reduceSub, reduceCtorEq, e_none, e_some, e_bindS, k_len hkA, k_len hkB, hsl]
      refine call_ints (r := 0) (row := ⟨false, false, ints .u32 a⟩) (xshiftUp_calls κ A sh hkA (by omega) LA hs31) rfl rfl cA rfl ?_
      rintro v0 H0' ⟨rfl, rfl⟩
      have lW0 := upL_length A sh
      have LW0 := upL_limbs LA hs31
      have nW0 := upL_num LA sh
      rw [n_slice (r' := 3) (d := 0) rfl]
      obtain ⟨M, hM⟩ : ∃ M, A.length - B.length + 1 = M := ⟨_, rfl⟩
      have hMI : (A.length : Int) - (B.length : Int) + 1 = (M : Int) := by omega
      have hM1 : (A.length : Int) - (B.length : Int) = ((A.length - B.length : Nat) : Int) := by omega
      have hM2 : ((A.length - B.length : Nat) : Int) + 1 = (M : Int) := by omega
      simp -implicitDefEqProofs (disch := omega) only [sN, ↓reduceIte, Nat.reduceEqDiff, Nat.reduceAdd, Nat.reduceMul, Nat.reduceSub, reduceCtorEq, e_none, e_some, e_bindS, k_len hkA, k_len hkB, hM1, hM2]
      rw [x_make (n := (M : Int)) (by simp only [e_upd, e_putS, e_putN, e_t, e_c, Nat.reduceEqDiff, ↓reduceIte, reduceCtorEq, Nat.reduceAdd]) (by omega) (by omega) (by omega)]
      simp -implicitDefEqProofs (disch := omega) only [sN, ↓reduceIte, Nat.reduceEqDiff, Nat.reduceAdd, Nat.reduceMul, Nat.reduceSub, reduceCtorEq, e_none, e_some, e_bindS, k_len hkA, k_len hkB]
      -- the numbers
      have hpow : 4294967296 = 2 ^ (32 - sh) * 2 ^ sh := by rw [← Nat.pow_add, show 32 - sh + sh = 32 by omega]
      have hE0 : 0 < 2 ^ sh := Nat.pow_pos (by omega)
      obtain ⟨E, hE⟩ : ∃ E : Nat, 2 ^ sh = E := ⟨_, rfl⟩
      rw [hE] at hs1 hs2 nD0 nW0 hpow hE0
      obtain ⟨V, hV⟩ : ∃ V : Nat, num B * (E : Int) = V := by
        refine ⟨(num B * (E : Int)).toNat, ?_⟩
        have := Int.mul_nonneg hbp (show (0 : Int) ≤ (E : Int) by omega)
        omega
      have hBb := nv_bound LB (B.length - 1)
      have hBs : num B = nv B (B.length - 1) + (x : Int) * BB ^ (B.length - 1) := by
        rw [← hxI]
        show nv B B.length = _
        obtain ⟨m, hm0⟩ : ∃ m, B.length = m + 1 := ⟨B.length - 1, by omega⟩
        rw [hm0]; rfl
      have hPn : BB ^ B.length = BB ^ (B.length - 1) * 4294967296 := by
        rw [show BB ^ B.length = BB ^ (B.length - 1 + 1) by rw [show B.length - 1 + 1 = B.length by omega], Int.pow_succ]; rfl
      have hPp := BB_pos (B.length - 1)
      have hx2 : (x + 1) * E ≤ 4294967296 := by
        rw [hpow] at hs2 ⊢
        exact Nat.mul_le_mul_right _ (Nat.lt_of_mul_lt_mul_right hs2)
      have hVlo : 2147483648 * BB ^ (B.length - 1) ≤ (V : Int) := by
        rw [← hV, hBs, Int.add_mul]
        have h1 : 2147483648 * BB ^ (B.length - 1) ≤ ((x * E : Nat) : Int) * BB ^ (B.length - 1) := Int.mul_le_mul_of_nonneg_right (by omega) (by omega)
        have h2 : ((x * E : Nat) : Int) * BB ^ (B.length - 1) = (x : Int) * BB ^ (B.length - 1) * (E : Int) := by
          rw [Int.natCast_mul, Int.mul_right_comm]
        have h3 := Int.mul_nonneg hBb.1 (show (0 : Int) ≤ (E : Int) by omega)
        omega
      have hVhi : (V : Int) < BB ^ B.length := by
        rw [← hV, hPn]
        have h1 : num B + 1 ≤ ((x : Int) + 1) * BB ^ (B.length - 1) := by rw [hBs, Int.add_mul]; omega
        have h2 := Int.mul_le_mul_of_nonneg_right h1 (show (0 : Int) ≤ (E : Int) by omega)
        have h3 : ((x : Int) + 1) * BB ^ (B.length - 1) * (E : Int) = (((x + 1) * E : Nat) : Int) * BB ^ (B.length - 1) := by
          rw [Int.mul_right_comm]; simp
        have h4 : (((x + 1) * E : Nat) : Int) * BB ^ (B.length - 1) ≤ 4294967296 * BB ^ (B.length - 1) := Int.mul_le_mul_of_nonneg_right (by omega) (by omega)
        rw [Int.add_mul] at h2
        have h5 : (1 : Int) ≤ (E : Int) := by omega
        rw [Int.one_mul] at h2
        rw [Int.mul_comm (BB ^ (B.length - 1))]
        omega
      have hVp : 0 < V := by
        have : 0 < 2147483648 * BB ^ (B.length - 1) := Int.mul_pos (by decide) hPp
        omega
      -- the divisor's limbs
      have hD : (upL B sh).take B.length = (upL B sh).take n := by rw [hn]
      have lD : ((upL B sh).take n).length = n := by rw [List.length_take, lD0]; omega
      have LD : Limbs ((upL B sh).take n) := fun j => by
        simp only [List.getD_eq_getElem?_getD, List.getElem?_take]
        split
        · have := LD0 j
          rwa [List.getD_eq_getElem?_getD] at this
        · simp
      have hDV : nv ((upL B sh).take n) n = (V : Int) := by
        rw [nv_take _ _ _ (Nat.le_refl _), ← hV, ← nD0]
        have h1 : num (upL B sh) = nv (upL B sh) n + (upL B sh).getD n 0 * BB ^ n := by
          show nv (upL B sh) (upL B sh).length = _
          rw [lD0, hn]; rfl
        have h2 : (upL B sh).getD n 0 = 0 := by
          have h3 := LD0 n
          have h4 := (nv_bound LD0 n).1
          rw [nD0, hV] at h1
          rw [hn] at hVhi
          rcases Decidable.em ((upL B sh).getD n 0 = 0) with h5 | h5
          · exact h5
          · exfalso
            have : 1 * BB ^ n ≤ (upL B sh).getD n 0 * BB ^ n := Int.mul_le_mul_of_nonneg_right (by omega) (by have := BB_pos n; omega)
            omega
        rw [h1, h2]; omega
      have hDtop : 2147483648 ≤ ((upL B sh).take n).getD (n - 1) 0 := by
        have h1 := (nv_bound LD (n - 1)).2
        have h2 : nv ((upL B sh).take n) n = nv ((upL B sh).take n) (n - 1) + ((upL B sh).take n).getD (n - 1) 0 * BB ^ (n - 1) := by
          obtain ⟨m, rfl⟩ : ∃ m, n = m + 1 := ⟨n - 1, by omega⟩
          rfl
        rw [hDV] at h2
        rw [hn] at hVlo
        have hP := BB_pos (n - 1)
        generalize ((upL B sh).take n).getD (n - 1) 0 = d at *
        rcases Int.lt_or_le d 2147483648 with h | h
        · exfalso
          have : d * BB ^ (n - 1) ≤ 2147483647 * BB ^ (n - 1) := Int.mul_le_mul_of_nonneg_right (by omega) (by omega)
          omega
        · exact h
      have hbig : upB (upL A sh) M < V := by
        have h1 := nv_drop (upL A sh) M (n)
        have h2 : nv ((upL A sh).drop M) n = (upB (upL A sh) M : Int) := upB_nv LW0 (by omega)
        have h3 : nv (upL A sh) (M + n) = num (upL A sh) := by
          rw [num, nv_long _ (by omega)]
        have h4 := (nv_bound LW0 M).1
        rw [h2, h3, nW0] at h1
        have h5 := (nv_bound LA A.length).2
        have h6 : num A = nv A A.length := rfl
        have h7 : BB ^ A.length = BB ^ M * BB ^ (n - 1) := by rw [← Int.pow_add]; congr 1; omega
        have h8 : BB ^ (n - 1) ≤ num B := by
          rw [hBs, hn]
          have hx0 : 1 * BB ^ (n - 1) ≤ (x : Int) * BB ^ (n - 1) := Int.mul_le_mul_of_nonneg_right (by omega) (by have := BB_pos (n - 1); omega)
          have := (nv_bound LB (n - 1)).1
          omega
        have h9 : BB ^ M * (upB (upL A sh) M : Int) < BB ^ M * (V : Int) := by
          have g1 : BB ^ M * (upB (upL A sh) M : Int) ≤ num A * (E : Int) := by omega
          have g2 : num A * (E : Int) < BB ^ M * BB ^ (n - 1) * (E : Int) := Int.mul_lt_mul_of_pos_right (by omega) (by omega)
          have g3 : BB ^ M * BB ^ (n - 1) * (E : Int) ≤ BB ^ M * num B * (E : Int) := Int.mul_le_mul_of_nonneg_right (Int.mul_le_mul_of_nonneg_left h8 (Int.le_of_lt (BB_pos M))) (by omega)
          rw [Int.mul_assoc, Int.mul_assoc, hV] at g3
          rw [Int.mul_assoc] at g2
          omega
        have := Int.lt_of_mul_lt_mul_left h9 (Int.le_of_lt (BB_pos M))
        omega
      generalize hD0 : (upL B sh).take n = D at *
      generalize hW0 : upL A sh = W0 at *
      have cD : (ints .u32 (upL B sh)).take n = ints .u32 D := by rw [ints_take, hD0]
      refine ⟨fun m s H => ∃ (k : Nat) (W : List Int), m = M - k ∧ k ≤ M ∧ Cut W0 W V n (M - k) ∧ s 1 = mkS κ' 1 0 n ∧ s 8 = .int .i64 (sh : Int) ∧ s 9 = .slice 2 0 n (n + 1) ∧ s 10 = .slice 3 0 (A.length + 1) (A.length + 1) ∧ s 11 = .slice 4 0 M M ∧ s 64 = .int .i64 M ∧ s 65 = .int .i64 (k : Int) ∧
        H = [ro (ints .u32 a), ro (ints .u32 b), rw_ (ints .u32 (upL B sh)), rw_ (ints .u32 W), rw_ (ints .u32 (qL W0 V M (M - k)))], M, ⟨0, W0, rfl, by omega, Cut.start LW0 (by omega) hbig, ?_, ?_, ?_, ?_, ?_, ?_, ?_, ?_⟩, ?_⟩
      · simp only [e_upd, e_putS, e_putN, e_t, e_c, Nat.reduceEqDiff, ↓reduceIte, reduceCtorEq, Nat.reduceAdd, hn]
      · simp only [e_upd, e_putS, e_putN, e_t, e_c, Nat.reduceEqDiff, ↓reduceIte, reduceCtorEq, Nat.reduceAdd]
      · simp only [e_upd, e_putS, e_putN, e_t, e_c, Nat.reduceEqDiff, ↓reduceIte, reduceCtorEq, Nat.reduceAdd, hn]
      · simp only [e_upd, e_putS, e_putN, e_t, e_c, Nat.reduceEqDiff, ↓reduceIte, reduceCtorEq, Nat.reduceAdd]
      · simp only [e_upd, e_putS, e_putN, e_t, e_c, Nat.reduceEqDiff, ↓reduceIte, reduceCtorEq, Nat.reduceAdd, nat_toNat]; rfl
      · simp only [e_upd, e_putS, e_putN, e_t, e_c, Nat.reduceEqDiff, ↓reduceIte, reduceCtorEq, Nat.reduceAdd, nat_toNat]
      · simp only [e_upd, e_putS, e_putN, e_t, e_c, Nat.reduceEqDiff, ↓reduceIte, reduceCtorEq, Nat.reduceAdd]; rfl
      · rw [Nat.sub_zero, qL_top, ← hW0]
        simp [m_renSomeRw, ro, rw_, renRow, ints_ren, hW0]
      rintro m s H ⟨k, W, rfl, hkM, hcut, h1, h8, h9, h10, h11, h64, h65, rfl⟩
      have lWW := hcut.len
      by_cases hlt : k < M
      · obtain ⟨i, hi⟩ : ∃ i, M - 1 - k = i := ⟨_, rfl⟩
        have hMk : M - k = i + 1 := by omega
        rw [hMk] at hcut ⊢
        have hiI : (M : Int) - 1 - (k : Int) = (i : Int) := by omega
        have hi1 : (M : Int) - 1 = ((M - 1 : Nat) : Int) := by omega
        have hi2 : ((M - 1 : Nat) : Int) - (k : Int) = (i : Int) := by omega
        have hi3 : (i : Int) + (n : Int) + 1 = ((i + n + 1 : Nat) : Int) := by omega
        have hi4 : (i : Int) + (n : Int) = ((i + n : Nat) : Int) := by omega
        have hi5 : ((i + n : Nat) : Int) + 1 = ((i + n + 1 : Nat) : Int) := by omega
        have hwin : aslice 1 (.slice 3 0 (A.length + 1) (A.length + 1)) (some (.int .i64 (i : Int))) (some (.int .i64 ((i + n + 1 : Nat) : Int))) = some (.slice 3 i (n + 1) (A.length + 1 - i)) := by
          have q1 : ((i + n + 1 : Nat) : Int) ≤ ((A.length + 1 : Nat) : Int) := by omega
          have q2 : (i : Int) ≤ ((i + n + 1 : Nat) : Int) := by omega
          have q0 : (0 : Int) ≤ ((i + n + 1 : Nat) : Int) := by omega
          simp only [aslice, ahi, abound]
          rw [if_pos ⟨q0, q1⟩]
          simp only [Option.bind_some, Int.toNat_natCast]
          rw [if_pos ⟨by omega, q2⟩]
          simp only [Option.bind_some, Int.toNat_natCast]
          congr 2 <;> omega
        have iq : aindexAddr 1 (.slice 4 0 M M) (.int .i64 (i : Int)) = some (.ptr 4 i) := by
          rw [a_idx (by omega) (by omega)]; simp
        simp -implicitDefEqProofs (disch := omega) only [sN, ↓reduceIte, Nat.reduceEqDiff, Nat.reduceAdd, Nat.reduceMul, Nat.reduceSub, reduceCtorEq, e_none, e_some, e_bindS, h1, h8, h9, h10, h11, h64, h65, k_len (hkB.le (show n ≤ B.length by omega)), hi1, hi2, hi4, hi5, hwin]
        obtain ⟨u0, u1, u2, v1, v2, g0, g1, g2, g3, g4, gg⟩ := hcut.guess LW0 hn2 LD hDV hDtop (by omega)
        have hR := hcut.window LW0 (by omega)
        have hlq : (W.take i).length = i := by rw [List.length_take]; omega
        have hcall := xtakeDigit_calls (.cap (n + 1)) (W.take i) (W.drop i) D n (A.length + 1 - i) u0 u1 u2 v1 v2 _ V lD hn2 (by rw [List.length_drop]; omega) (by omega) (show n ≤ n + 1 by omega) (by rw [List.length_drop]; omega) (limbs_drop hcut.limbs i) LD g0 g1 g2 g3 g4 gg hR hDV
        rw [List.take_append_drop, hlq] at hcall
        refine call_do hcall [(3, 0), (2, 0)] rfl rfl ?_ ?_ ⟨seen_rw rfl rfl rfl (by rw [ints_ren]) (flatL_under ints_flat), seen_ro (row := ⟨true, false, ints .u32 (upL B sh)⟩) rfl (by simp only [ints_length]; rw [lD, lD0]; omega) (by rw [ints_ren, List.drop_zero, ints_length, lD, cD]) (flatL_under ints_flat), trivial⟩ ?_
        · simp [onceOK, ownAt, Vh.rowAt, ro, rw_, List.range, List.range.loop]
        · rw [n_lcons, n_lcons, n_lnil, n_slice (r' := 3) (d := 0) rfl, n_mkS0 (r' := 2) rfl]
          simp only [List.map_cons, List.map_nil, e_upd, e_putS, e_putN, e_t, e_c, Nat.reduceEqDiff, ↓reduceIte, reduceCtorEq, Nat.reduceAdd]
          simp [mkS]
        rintro v0 H0' ⟨rfl, W', rfl, j1, j2, j3, j4⟩
        have hnew := hcut.step LW0 hVp (by rw [hn] at hVhi; omega) j1 j2 j3 j4 (by omega)
        have hqB : (4294967296 * (upB W0 (i + 1) % V) + (W0.getD i 0).toNat) / V = qB W0 V i := rfl
        rw [hqB, m_merge, m_rw, m_ro, m_nil]
        simp -implicitDefEqProofs (disch := omega) only [sN, ↓reduceIte, Nat.reduceEqDiff, Nat.reduceAdd, Nat.reduceMul, Nat.reduceSub, reduceCtorEq, e_none, e_some, e_bindS, h1, h8, h9, h10, h11, h64, h65, n_int, iq]
        rw [x_store (r := 4) (off := i) (k := .u32) (b := ((qB W0 V i : Nat) : Int)) (l := qL W0 V M (i + 1)) (by simp only [e_upd, e_putS, e_putN, e_t, e_c, Nat.reduceEqDiff, ↓reduceIte, reduceCtorEq, Nat.reduceAdd]) (by simp only [e_upd, e_putS, e_putN, e_t, e_c, Nat.reduceEqDiff, ↓reduceIte, reduceCtorEq, Nat.reduceAdd]) rfl (by rw [qL_length]; omega), qL_set]
        simp -implicitDefEqProofs (disch := omega) only [sN, ↓reduceIte, Nat.reduceEqDiff, Nat.reduceAdd, Nat.reduceMul, Nat.reduceSub, reduceCtorEq, e_none, e_some, e_bindS, h1, h8, h9, h10, h11, h64, h65]
        refine loop_keep (m := M - (k + 1)) (by omega) ⟨k + 1, W.take i ++ W', rfl, by omega, ?_, ?_, ?_, ?_, ?_, ?_, ?_, ?_, ?_⟩
        · rw [show M - (k + 1) = i by omega]; exact hnew
        · simp only [e_upd, e_putS, e_putN, e_t, e_c, Nat.reduceEqDiff, ↓reduceIte, reduceCtorEq, Nat.reduceAdd, h1]
        · simp only [e_upd, e_putS, e_putN, e_t, e_c, Nat.reduceEqDiff, ↓reduceIte, reduceCtorEq, Nat.reduceAdd, h8]
        · simp only [e_upd, e_putS, e_putN, e_t, e_c, Nat.reduceEqDiff, ↓reduceIte, reduceCtorEq, Nat.reduceAdd, h9]
        · simp only [e_upd, e_putS, e_putN, e_t, e_c, Nat.reduceEqDiff, ↓reduceIte, reduceCtorEq, Nat.reduceAdd, h10]
        · simp only [e_upd, e_putS, e_putN, e_t, e_c, Nat.reduceEqDiff, ↓reduceIte, reduceCtorEq, Nat.reduceAdd, h11]
        · simp only [e_upd, e_putS, e_putN, e_t, e_c, Nat.reduceEqDiff, ↓reduceIte, reduceCtorEq, Nat.reduceAdd, h64]
        · simp only [e_upd, e_putS, e_putN, e_t, e_c, Nat.reduceEqDiff, ↓reduceIte, reduceCtorEq, Nat.reduceAdd]; first | done | rfl
        · rw [show M - (k + 1) = i by omega]
          simp [ro, rw_, renRow, Vh.rowAt, ints_ren]
      · obtain rfl : k = M := by omega
        rw [Nat.sub_self] at hcut ⊢
        have hdone := hcut.done
        have hlq := qL_length (a := W0) (b := V) (M := k) (i := 0)
        have ht := xtrim_calls (.cap k) (qL W0 V k 0) (okS_cap (by omega)) (by omega)
        rw [hlq] at ht
        have hd := xshiftDown_calls (.cap (A.length + 1)) W sh (show W.length ≤ A.length + 1 by omega) (by omega) hcut.limbs hs31
        have hWl : W.length = A.length + 1 := by omega
        rw [hWl] at hd
        have hld := dnL_length (a := W) (n := sh) (i := A.length + 1)
        simp -implicitDefEqProofs (disch := omega) only [sN, ↓reduceIte, Nat.reduceEqDiff, Nat.reduceAdd, Nat.reduceMul, Nat.reduceSub, reduceCtorEq, e_none, e_some, e_bindS, h1, h8, h9, h10, h11, h64, h65]
        refine call_rdS (κ := .cap k) (r := 4) (row := ⟨true, false, ints .u32 (qL W0 V k 0)⟩) ht rfl rfl take_all rfl ?_
        simp -implicitDefEqProofs (disch := omega) only [sN, ↓reduceIte, Nat.reduceEqDiff, Nat.reduceAdd, Nat.reduceMul, Nat.reduceSub, reduceCtorEq, e_none, e_some, e_bindS, h8, h10]
        refine call_ints (r := 3) (κ := .cap (A.length + 1)) (row := ⟨true, false, ints .u32 W⟩) hd rfl rfl take_all rfl ?_
        rintro v0 H0' ⟨rfl, rfl⟩
        have q1 : NewNum (num A / num B) (.cap k) ((qL W0 V k 0).take (tz (qL W0 V k 0) (qL W0 V k 0).length)) ⟨true, false, ints .u32 (qL W0 V k 0)⟩ := by
          refine new_of_trim (qL_limbs LW0 hVp) ?_ (by rw [hlq]; exact tz_le _ _) rfl rfl
          rw [qL_num LW0 hVp hbig, Int.natCast_ediv, ← upB_zero LW0, nW0, ← hV, Int.mul_ediv_mul_of_pos_left _ _ (by omega)]
        have q2 : NewNum (num A % num B) (.cap (A.length + 1)) ((dnL W sh (A.length + 1)).take (tz (dnL W sh (A.length + 1)) (dnL W sh (A.length + 1)).length)) ⟨true, false, ints .u32 (dnL W sh (A.length + 1))⟩ := by
          refine new_of_trim dnL_limbs ?_ (by rw [hld, hWl]; exact tz_le _ _) rfl rfl
          have h := dnL_num hcut.limbs hs31
          rw [hWl, hE, hdone] at h
          rw [h, Int.natCast_ediv, Int.natCast_emod, ← upB_zero LW0, nW0, ← hV, Int.mul_comm (num A), Int.mul_comm (num B), Int.mul_emod_mul_of_pos _ _ (by omega), Int.mul_ediv_cancel_left _ (by omega)]
        rw [n_mkS0 (r' := 5) rfl]
        simp -implicitDefEqProofs (disch := omega) only [sN, ↓reduceIte, Nat.reduceEqDiff, Nat.reduceAdd, Nat.reduceMul, Nat.reduceSub, reduceCtorEq, e_none, e_some, e_bindS]
        refine ret_fresh2 (i := 4) (j := 5) (by omega) (by omega) (by omega) rfl rfl rfl ?_ ?_ ?_ q1 q2
        · show some (ARow.mk true false (renL _ (ints .u32 _))) = _
          rw [ints_ren]
        · simp only [e_upd, e_putS, e_putN, e_t, e_c, Nat.reduceEqDiff, ↓reduceIte, reduceCtorEq, Nat.reduceAdd]
          rw [List.length_take, hlq, Nat.min_eq_left (tz_le _ _)]
        · simp only [e_upd, e_putS, e_putN, e_t, e_c, Nat.reduceEqDiff, ↓reduceIte, reduceCtorEq, Nat.reduceAdd]
          rw [List.length_take, hld, hWl, Nat.min_eq_left (tz_le _ _)]
end Go.Proofs.YtpkeneadkiabiaaDoor

