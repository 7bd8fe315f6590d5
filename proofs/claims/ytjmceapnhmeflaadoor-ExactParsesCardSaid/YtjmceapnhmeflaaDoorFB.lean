/- Contracts: takeTimes, giveBack. -/
import Derived.Test.YtjmceapnhmeflaaDoorVX
import Derived.Test.YtjmceapnhmeflaaDoorFA
set_option linter.unusedSimpArgs false
set_option linter.unusedVariables false
-- NEWSET
namespace Go.Proofs.YtjmceapnhmeflaaDoor
open Go Go.Vh

section
variable {s : St} {H : AHeap}
/-- A store of one cell behind the first ones of an own row. -/
theorem x_storeA {x v : Opd} {r off p : Nat} {k : IntKind} {b : Int} {pre l : List Int} {sk : Bool} (hx : evo s x = .ptr r off) (hv : evo s v = .int k b) (hr : Vh.rowAt H r = some ⟨true, sk, ints k (pre ++ l)⟩) (hp : off = pre.length + p) (ho : p < l.length) :
    ieff (.store 1 x v) s H = some (.any, H.set r (some ⟨true, sk, ints k (pre ++ l.set p b)⟩)) := by
  have e : (pre ++ l).set off b = pre ++ l.set p b := by
    rw [hp, List.set_append_right _ _ (by omega)]
    congr 2; omega
  have := x_storeS (s := s) (H := H) (x := x) (v := v) (r := r) (off := off) (k := k) (b := b) (l := pre ++ l) (sk := sk) hx hv hr (by rw [List.length_append]; omega)
  rwa [e] at this
end
theorem getA {pre l : List Int} {p : Nat} {k : IntKind} (h : p < l.length) : (ints k (pre ++ l))[pre.length + p]? = some (.int k (l.getD p 0)) := by
  rw [ints_get (by rw [List.length_append]; omega)]
  congr 2
  simp [List.getD_eq_getElem?_getD, List.getElem?_append_right]

set_option maxHeartbeats 1000000 in
theorem xtakeTimes_calls (κ' : SK) (pre W D : List Int) (d : Int) (n c : Nat) (hn : D.length = n) (hW : n < W.length) (hc : n + 1 ≤ c) (hk' : okS κ' n) (hm : W.length ≤ 1000000) (lW : Limbs W) (lD : Limbs D) (hd : 0 ≤ d ∧ d ≤ 4294967295) :
    ACalls Tryd.prog 139 [.slice 0 pre.length (n + 1) c, mkS κ' 1 0 n, .int .u32 d] [rw_ (ints .u32 (pre ++ W)), ro (ints .u32 D)] (List.range 2) fun v H => v = .bool (decide (ttB W D d n ≠ 0)) ∧ H = [rw_ (ints .u32 (pre ++ ttF W D d n)), ro (ints .u32 D)] := by
  refine ACalls.body Tryd.func139 ent_takeTimes ir_takeTimes_ok rs_takeTimes_ok Tryd.ntmps139 (by simp) rfl ?_
  unfold ir_takeTimes
  obtain ⟨off, hoff⟩ : ∃ off, pre.length = off := ⟨_, rfl⟩
  rw [hoff]
  have e0 : s0 [.slice 0 off (n + 1) c, mkS κ' 1 0 n, .int .u32 d] 0 = .slice 0 off (n + 1) c := rfl
  have e1 : s0 [.slice 0 off (n + 1) c, mkS κ' 1 0 n, .int .u32 d] 1 = mkS κ' 1 0 n := rfl
  have e2 : s0 [.slice 0 off (n + 1) c, mkS κ' 1 0 n, .int .u32 d] 2 = .int .u32 d := rfl
  simp -implicitDefEqProofs (disch := omega) only [sN, ↓reduceIte, Nat.reduceEqDiff, Nat.reduceAdd, Nat.reduceMul, Nat.reduceSub, reduceCtorEq, e_none, e_some, e_bindS, e0, e1, e2, k_len hk']
  refine ⟨fun m s H => ∃ i : Nat, m = n - i ∧ i ≤ n ∧ s 0 = .slice 0 off (n + 1) c ∧ s 1 = mkS κ' 1 0 n ∧ s 2 = .int .u32 d ∧ s 7 = .int .u64 (ttW W D d i).2.1 ∧ s 8 = .int .u32 (ttW W D d i).2.2 ∧ s 12 = .int .i64 n ∧ s 13 = .int .i64 (i : Int) ∧ H = [rw_ (ints .u32 (pre ++ (ttW W D d i).1)), ro (ints .u32 D)], n, ⟨0, rfl, by omega, ?_, ?_, ?_, ?_, ?_, ?_, ?_, rfl⟩, ?_⟩
  · simp only [e_upd, e_putS, e_putN, e_t, e_c, Nat.reduceEqDiff, ↓reduceIte, reduceCtorEq, Nat.reduceAdd, e0]
  · simp only [e_upd, e_putS, e_putN, e_t, e_c, Nat.reduceEqDiff, ↓reduceIte, reduceCtorEq, Nat.reduceAdd, e1]
  · simp only [e_upd, e_putS, e_putN, e_t, e_c, Nat.reduceEqDiff, ↓reduceIte, reduceCtorEq, Nat.reduceAdd, e2]
  · simp only [e_upd, e_putS, e_putN, e_t, e_c, Nat.reduceEqDiff, ↓reduceIte, reduceCtorEq, Nat.reduceAdd]; rfl
  · simp only [e_upd, e_putS, e_putN, e_t, e_c, Nat.reduceEqDiff, ↓reduceIte, reduceCtorEq, Nat.reduceAdd]; rfl
  · simp only [e_upd, e_putS, e_putN, e_t, e_c, Nat.reduceEqDiff, ↓reduceIte, reduceCtorEq, Nat.reduceAdd]
  · simp only [e_upd, e_putS, e_putN, e_t, e_c, Nat.reduceEqDiff, ↓reduceIte, reduceCtorEq, Nat.reduceAdd]; rfl
  rintro m s H ⟨i, rfl, hi, h0, h1, h2, h7, h8, h12, h13, rfl⟩
  have hl := ttW_length W D d i
  obtain ⟨g1, g2, g3, g4⟩ := ttW_range (W := W) lD hd i
  have hrest := ttW_rest W D d i
  by_cases hlt : i < n
  · have hDi := lD i
    have hWi := lW i
    obtain ⟨p1, p2⟩ := prod_range hDi hd
    have ib : aindexAddr 1 (mkS κ' 1 0 n) (.int .i64 (i : Int)) = some (.ptr 1 i) := by
      rw [k_idx hk' (Nat.le_refl _) (by omega) (by omega)]; simp
    have gb : (ints .u32 D)[i]? = some (.int .u32 (D.getD i 0)) := ints_get (by omega)
    have ia : aindexAddr 1 (.slice 0 off (n + 1) c) (.int .i64 (i : Int)) = some (.ptr 0 (off + i)) := by
      rw [a_idx (by omega) (by omega)]; simp
    have ga : (ints .u32 (pre ++ (ttW W D d i).1))[off + i]? = some (.int .u32 (W.getD i 0)) := by
      rw [← hoff, getA (by omega), hrest i (Nat.le_refl _)]
    have hnx : ttW W D d (i + 1) = ((ttW W D d i).1.set i ((W.getD i 0 - ((ttW W D d i).2.1 + D.getD i 0 * d) % 4294967296 - (ttW W D d i).2.2) % 4294967296), ((ttW W D d i).2.1 + D.getD i 0 * d) / 4294967296,
      if W.getD i 0 < ((ttW W D d i).2.1 + D.getD i 0 * d) % 4294967296 + (ttW W D d i).2.2 then 1 else 0) := rfl
    have hmul : abin .mul (.int .u64 (D.getD i 0)) (.int .u64 d) = some (.int .u64 (D.getD i 0 * d)) := by
      rw [b_mul, wu64 (by omega) (by omega)]
    generalize D.getD i 0 * d = p at *
    generalize (ttW W D d i).1 = L at *
    generalize (ttW W D d i).2.1 = cc at *
    generalize (ttW W D d i).2.2 = bb at *
    generalize W.getD i 0 = x at *
    generalize D.getD i 0 = y at *
    obtain ⟨t, ht⟩ : ∃ t : Nat, cc + p = t := ⟨(cc + p).toNat, by omega⟩
    rw [ht] at hnx
    have hw : IntKind.u32.wrap (t : Int) = (t : Int) % 4294967296 := by rw [IntKind.wrap_u32]
    have hshr : abin .shr (.int .u64 (t : Int)) (.int .u64 32) = some (.int .u64 ((t : Int) / 4294967296)) := by
      have := b_shrN (k' := .u64) (x := t) (n := 32) (by omega)
      exact this.trans (by rw [Int.natCast_ediv]; rfl)
    simp -implicitDefEqProofs (disch := omega) only [sN, ↓reduceIte, Nat.reduceEqDiff, Nat.reduceAdd, Nat.reduceMul, Nat.reduceSub, reduceCtorEq, e_none, e_some, e_bindS, h0, h1, h2, h7, h8, h12, h13, ib, gb, hmul, ht, ia, ga, hw]
    refine call_sc (sub32_calls (x := x) (y := (t : Int) % 4294967296) (b := bb) hWi (by omega) ⟨g3, g4⟩) rfl rfl (fun _ => rfl) ?_
    simp -implicitDefEqProofs (disch := omega) only [sN, ↓reduceIte, Nat.reduceEqDiff, Nat.reduceAdd, Nat.reduceMul, Nat.reduceSub, reduceCtorEq, e_none, e_some, e_bindS, h0, h1, h2, h7, h8, h12, h13, List.getElem?_cons_zero, List.getElem?_cons_succ, ia]
    rw [x_storeA (r := 0) (off := off + i) (p := i) (k := .u32) (b := (x - (t : Int) % 4294967296 - bb) % 4294967296) (pre := pre) (l := L) (sk := false) (by simp only [e_upd, e_putS, e_putN, e_t, e_c, Nat.reduceEqDiff, ↓reduceIte, reduceCtorEq, Nat.reduceAdd]) (by simp only [e_upd, e_putS, e_putN, e_t, e_c, Nat.reduceEqDiff, ↓reduceIte, reduceCtorEq, Nat.reduceAdd]) rfl (by omega) (by omega)]
    simp -implicitDefEqProofs (disch := omega) only [sN, ↓reduceIte, Nat.reduceEqDiff, Nat.reduceAdd, Nat.reduceMul, Nat.reduceSub, reduceCtorEq, e_none, e_some, e_bindS, h0, h1, h2, h7, h8, h12, h13, hshr, List.set_cons_zero]
    refine loop_keep (m := n - (i + 1)) (by omega) ⟨i + 1, rfl, by omega, ?_, ?_, ?_, ?_, ?_, ?_, ?_, ?_⟩
    · simp only [e_upd, e_putS, e_putN, e_t, e_c, Nat.reduceEqDiff, ↓reduceIte, reduceCtorEq, Nat.reduceAdd, h0]
    · simp only [e_upd, e_putS, e_putN, e_t, e_c, Nat.reduceEqDiff, ↓reduceIte, reduceCtorEq, Nat.reduceAdd, h1]
    · simp only [e_upd, e_putS, e_putN, e_t, e_c, Nat.reduceEqDiff, ↓reduceIte, reduceCtorEq, Nat.reduceAdd, h2]
    · simp only [e_upd, e_putS, e_putN, e_t, e_c, Nat.reduceEqDiff, ↓reduceIte, reduceCtorEq, Nat.reduceAdd, hnx]
    · simp only [e_upd, e_putS, e_putN, e_t, e_c, Nat.reduceEqDiff, ↓reduceIte, reduceCtorEq, Nat.reduceAdd, hnx]
    · simp only [e_upd, e_putS, e_putN, e_t, e_c, Nat.reduceEqDiff, ↓reduceIte, reduceCtorEq, Nat.reduceAdd, h12]
    · simp only [e_upd, e_putS, e_putN, e_t, e_c, Nat.reduceEqDiff, ↓reduceIte, reduceCtorEq, Nat.reduceAdd]; first | done | rfl
    · rw [hnx]; rfl
  · obtain rfl : i = n := by omega
    have hWi := lW i
    have ia : aindexAddr 1 (.slice 0 off (i + 1) c) (.int .i64 (i : Int)) = some (.ptr 0 (off + i)) := by
      rw [a_idx (by omega) (by omega)]; simp
    have ga : (ints .u32 (pre ++ (ttW W D d i).1))[off + i]? = some (.int .u32 (W.getD i 0)) := by
      rw [← hoff, getA (by omega), hrest i (Nat.le_refl _)]
    have hF : ttF W D d i = (ttW W D d i).1.set i ((W.getD i 0 - (ttW W D d i).2.1 - (ttW W D d i).2.2) % 4294967296) := rfl
    have hB : ttB W D d i = if W.getD i 0 < (ttW W D d i).2.1 + (ttW W D d i).2.2 then 1 else 0 := rfl
    generalize (ttW W D d i).1 = L at *
    generalize (ttW W D d i).2.1 = cc at *
    generalize (ttW W D d i).2.2 = bb at *
    generalize W.getD i 0 = x at *
    simp -implicitDefEqProofs (disch := omega) only [sN, ↓reduceIte, Nat.reduceEqDiff, Nat.reduceAdd, Nat.reduceMul, Nat.reduceSub, reduceCtorEq, e_none, e_some, e_bindS, h0, h1, h2, h7, h8, h12, h13, k_len hk', ia, ga]
    refine call_sc (sub32_calls (x := x) (y := cc) (b := bb) hWi (by omega) ⟨g3, g4⟩) rfl rfl (fun _ => rfl) ?_
    simp -implicitDefEqProofs (disch := omega) only [sN, ↓reduceIte, Nat.reduceEqDiff, Nat.reduceAdd, Nat.reduceMul, Nat.reduceSub, reduceCtorEq, e_none, e_some, e_bindS, h0, h1, h2, h7, h8, h12, h13, List.getElem?_cons_zero, List.getElem?_cons_succ, ia]
    rw [x_storeA (r := 0) (off := off + i) (p := i) (k := .u32) (b := (x - cc - bb) % 4294967296) (pre := pre) (l := L) (sk := false) (by simp only [e_upd, e_putS, e_putN, e_t, e_c, Nat.reduceEqDiff, ↓reduceIte, reduceCtorEq, Nat.reduceAdd]) (by simp only [e_upd, e_putS, e_putN, e_t, e_c, Nat.reduceEqDiff, ↓reduceIte, reduceCtorEq, Nat.reduceAdd]) rfl (by omega) (by omega)]
    rw [← hB]
    simp -implicitDefEqProofs (disch := omega) only [sN, ↓reduceIte, Nat.reduceEqDiff, Nat.reduceAdd, Nat.reduceMul, Nat.reduceSub, reduceCtorEq, e_none, e_some, e_bindS, h0, h1, h2, h7, h8, h12, h13, List.set_cons_zero]
    refine ret_keep (by simp) ⟨?_, ?_⟩
    · simp only [e_upd, e_putS, e_putN, e_t, e_c, Nat.reduceEqDiff, ↓reduceIte, reduceCtorEq, Nat.reduceAdd]
      congr 1
      by_cases h : ttB W D d i = 0
      · simp [h]
      · simp [h, bne]
    · rw [hF]; rfl
end Go.Proofs.YtjmceapnhmeflaaDoor


/- Contracts: giveBack. -/
-- NEWSET
namespace Go.Proofs.YtjmceapnhmeflaaDoor
open Go Go.Vh

set_option maxHeartbeats 1000000 in
theorem xgiveBack_calls (κ' : SK) (pre W D : List Int) (n c : Nat) (hn : D.length = n) (hW : n < W.length) (hc : n + 1 ≤ c) (hk' : okS κ' n) (hm : W.length ≤ 1000000) (lW : Limbs W) (lD : Limbs D) :
    ACalls Tryd.prog 140 [.slice 0 pre.length (n + 1) c, mkS κ' 1 0 n] [rw_ (ints .u32 (pre ++ W)), ro (ints .u32 D)] (List.range 2) fun v H => v = .tuple [] ∧ H = [rw_ (ints .u32 (pre ++ gbF W D n)), ro (ints .u32 D)] := by
  refine ACalls.body Tryd.func140 ent_giveBack ir_giveBack_ok rs_giveBack_ok Tryd.ntmps140 (by simp) rfl ?_
  unfold ir_giveBack
  obtain ⟨off, hoff⟩ : ∃ off, pre.length = off := ⟨_, rfl⟩
  rw [hoff]
  have e0 : s0 [.slice 0 off (n + 1) c, mkS κ' 1 0 n] 0 = .slice 0 off (n + 1) c := rfl
  have e1 : s0 [.slice 0 off (n + 1) c, mkS κ' 1 0 n] 1 = mkS κ' 1 0 n := rfl
  simp -implicitDefEqProofs (disch := omega) only [sN, ↓reduceIte, Nat.reduceEqDiff, Nat.reduceAdd, Nat.reduceMul, Nat.reduceSub, reduceCtorEq, e_none, e_some, e_bindS, e0, e1, k_len hk']
  refine ⟨fun m s H => ∃ i : Nat, m = n - i ∧ i ≤ n ∧ s 0 = .slice 0 off (n + 1) c ∧ s 1 = mkS κ' 1 0 n ∧ s 4 = .int .u32 (gbW W D i).2 ∧ s 7 = .int .i64 n ∧ s 8 = .int .i64 (i : Int) ∧ H = [rw_ (ints .u32 (pre ++ (gbW W D i).1)), ro (ints .u32 D)], n, ⟨0, rfl, by omega, ?_, ?_, ?_, ?_, ?_, rfl⟩, ?_⟩
  · simp only [e_upd, e_putS, e_putN, e_t, e_c, Nat.reduceEqDiff, ↓reduceIte, reduceCtorEq, Nat.reduceAdd, e0]
  · simp only [e_upd, e_putS, e_putN, e_t, e_c, Nat.reduceEqDiff, ↓reduceIte, reduceCtorEq, Nat.reduceAdd, e1]
  · simp only [e_upd, e_putS, e_putN, e_t, e_c, Nat.reduceEqDiff, ↓reduceIte, reduceCtorEq, Nat.reduceAdd]; rfl
  · simp only [e_upd, e_putS, e_putN, e_t, e_c, Nat.reduceEqDiff, ↓reduceIte, reduceCtorEq, Nat.reduceAdd]
  · simp only [e_upd, e_putS, e_putN, e_t, e_c, Nat.reduceEqDiff, ↓reduceIte, reduceCtorEq, Nat.reduceAdd]; rfl
  rintro m s H ⟨i, rfl, hi, h0, h1, h4, h7, h8, rfl⟩
  have hl := gbW_length W D i
  obtain ⟨g1, g2⟩ := gbW_range lW lD i
  have hrest := gbW_rest W D i
  by_cases hlt : i < n
  · have hDi := lD i
    have hWi := lW i
    have ib : aindexAddr 1 (mkS κ' 1 0 n) (.int .i64 (i : Int)) = some (.ptr 1 i) := by
      rw [k_idx hk' (Nat.le_refl _) (by omega) (by omega)]; simp
    have gb : (ints .u32 D)[i]? = some (.int .u32 (D.getD i 0)) := ints_get (by omega)
    have ia : aindexAddr 1 (.slice 0 off (n + 1) c) (.int .i64 (i : Int)) = some (.ptr 0 (off + i)) := by
      rw [a_idx (by omega) (by omega)]; simp
    have ga : (ints .u32 (pre ++ (gbW W D i).1))[off + i]? = some (.int .u32 (W.getD i 0)) := by
      rw [← hoff, getA (by omega), hrest i (Nat.le_refl _)]
    have hnx : gbW W D (i + 1) = ((gbW W D i).1.set i ((W.getD i 0 + D.getD i 0 + (gbW W D i).2) % 4294967296), (W.getD i 0 + D.getD i 0 + (gbW W D i).2) / 4294967296) := rfl
    generalize (gbW W D i).1 = L at *
    generalize (gbW W D i).2 = cc at *
    generalize W.getD i 0 = x at *
    generalize D.getD i 0 = y at *
    simp -implicitDefEqProofs (disch := omega) only [sN, ↓reduceIte, Nat.reduceEqDiff, Nat.reduceAdd, Nat.reduceMul, Nat.reduceSub, reduceCtorEq, e_none, e_some, e_bindS, h0, h1, h4, h7, h8, ib, gb, ia, ga]
    refine call_sc (add32_calls (x := x) (y := y) (c := cc) hWi hDi ⟨g1, g2⟩) rfl rfl (fun _ => rfl) ?_
    simp -implicitDefEqProofs (disch := omega) only [sN, ↓reduceIte, Nat.reduceEqDiff, Nat.reduceAdd, Nat.reduceMul, Nat.reduceSub, reduceCtorEq, e_none, e_some, e_bindS, h0, h1, h4, h7, h8, List.getElem?_cons_zero, List.getElem?_cons_succ, ia]
    rw [x_storeA (r := 0) (off := off + i) (p := i) (k := .u32) (b := (x + y + cc) % 4294967296) (pre := pre) (l := L) (sk := false) (by simp only [e_upd, e_putS, e_putN, e_t, e_c, Nat.reduceEqDiff, ↓reduceIte, reduceCtorEq, Nat.reduceAdd]) (by simp only [e_upd, e_putS, e_putN, e_t, e_c, Nat.reduceEqDiff, ↓reduceIte, reduceCtorEq, Nat.reduceAdd]) rfl (by omega) (by omega)]
    simp -implicitDefEqProofs (disch := omega) only [sN, ↓reduceIte, Nat.reduceEqDiff, Nat.reduceAdd, Nat.reduceMul, Nat.reduceSub, reduceCtorEq, e_none, e_some, e_bindS, h0, h1, h4, h7, h8, List.set_cons_zero]
    refine loop_keep (m := n - (i + 1)) (by omega) ⟨i + 1, rfl, by omega, ?_, ?_, ?_, ?_, ?_, ?_⟩
    · simp only [e_upd, e_putS, e_putN, e_t, e_c, Nat.reduceEqDiff, ↓reduceIte, reduceCtorEq, Nat.reduceAdd, h0]
    · simp only [e_upd, e_putS, e_putN, e_t, e_c, Nat.reduceEqDiff, ↓reduceIte, reduceCtorEq, Nat.reduceAdd, h1]
    · simp only [e_upd, e_putS, e_putN, e_t, e_c, Nat.reduceEqDiff, ↓reduceIte, reduceCtorEq, Nat.reduceAdd, hnx]
    · simp only [e_upd, e_putS, e_putN, e_t, e_c, Nat.reduceEqDiff, ↓reduceIte, reduceCtorEq, Nat.reduceAdd, h7]
    · simp only [e_upd, e_putS, e_putN, e_t, e_c, Nat.reduceEqDiff, ↓reduceIte, reduceCtorEq, Nat.reduceAdd]; first | done | rfl
    · rw [hnx]; rfl
  · obtain rfl : i = n := by omega
    have hWi := lW i
    have ia : aindexAddr 1 (.slice 0 off (i + 1) c) (.int .i64 (i : Int)) = some (.ptr 0 (off + i)) := by
      rw [a_idx (by omega) (by omega)]; simp
    have ga : (ints .u32 (pre ++ (gbW W D i).1))[off + i]? = some (.int .u32 (W.getD i 0)) := by
      rw [← hoff, getA (by omega), hrest i (Nat.le_refl _)]
    have hF : gbF W D i = (gbW W D i).1.set i ((W.getD i 0 + (gbW W D i).2) % 4294967296) := rfl
    generalize (gbW W D i).1 = L at *
    generalize (gbW W D i).2 = cc at *
    generalize W.getD i 0 = x at *
    have hw : abin .add (.int .u32 x) (.int .u32 cc) = some (.int .u32 ((x + cc) % 4294967296)) := by rw [b_add, IntKind.wrap_u32]
    simp -implicitDefEqProofs (disch := omega) only [sN, ↓reduceIte, Nat.reduceEqDiff, Nat.reduceAdd, Nat.reduceMul, Nat.reduceSub, reduceCtorEq, e_none, e_some, e_bindS, h0, h1, h4, h7, h8, k_len hk', ia, ga, hw]
    rw [x_storeA (r := 0) (off := off + i) (p := i) (k := .u32) (b := (x + cc) % 4294967296) (pre := pre) (l := L) (sk := false) (by simp only [e_upd, e_putS, e_putN, e_t, e_c, Nat.reduceEqDiff, ↓reduceIte, reduceCtorEq, Nat.reduceAdd]) (by simp only [e_upd, e_putS, e_putN, e_t, e_c, Nat.reduceEqDiff, ↓reduceIte, reduceCtorEq, Nat.reduceAdd, IntKind.wrap_u32]) rfl (by omega) (by omega)]
    simp -implicitDefEqProofs (disch := omega) only [sN, ↓reduceIte, Nat.reduceEqDiff, Nat.reduceAdd, Nat.reduceMul, Nat.reduceSub, reduceCtorEq, e_none, e_some, e_bindS, h0, h1, h4, h7, h8, List.set_cons_zero]
    refine ret_keep (by simp) ?_
    show _ ∧ _
    exact ⟨rfl, by rw [hF]; rfl⟩
end Go.Proofs.YtjmceapnhmeflaaDoor

