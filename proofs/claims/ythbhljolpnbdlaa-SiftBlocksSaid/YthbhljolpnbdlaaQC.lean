/- Contracts: the reference's draws, kinds and sizes. -/
import Derived.Test.YthbhljolpnbdlaaVX
import Derived.Test.YthbhljolpnbdlaaQO5
import Derived.Test.YthbhljolpnbdlaaQIrO2
import Derived.Test.YthbhljolpnbdlaaVY
set_option linter.unusedSimpArgs false
set_option linter.unusedVariables false
-- NEWSET
namespace Go.Proofs.Ythbhljolpnbdlaa.S2
open Go Go.Vh

theorem hq32 {x : Nat} (hx : x < 2 ^ 64) : abin .quo (.int .u64 (x : Int)) (.int .u64 4294967296) = some (.int .u64 ((x / 2 ^ 32 : Nat) : Int)) := by
  rw [b_quo (by omega) (by omega), wu64 (by omega) (by omega), Int.natCast_ediv]
  rfl
theorem hq29 {x : Nat} (hx : x < 2 ^ 64) : abin .quo (.int .u64 (x : Int)) (.int .u64 536870912) = some (.int .u64 ((x / 2 ^ 29 : Nat) : Int)) := by
  rw [b_quo (by omega) (by omega), wu64 (by omega) (by omega), Int.natCast_ediv]
  rfl
theorem rNext_calls (st : Nat) : ACalls Try.prog 154 [.int .u64 (st : Int)] [] [] fun v H => v = .tuple [.int .u64 ((Gf.nextS st : Nat) : Int), .int .u64 ((Gf.draw st : Nat) : Int)] ∧ H = [] := by
  refine ACalls.trim1 (W := List.range 0) ?_ rfl
  refine ACalls.body Try.func154 ent_rNext ir_rNext_ok rs_rNext_ok Try.ntmps154 (by simp) rfl ?_
  unfold ir_rNext
  have e0 : s0 [.int .u64 (st : Int)] 0 = .int .u64 st := rfl
  have hx := Gf.nextX_lt (Gf.nextS_lt st)
  have hy := Gf.nextY_lt (Gf.nextX (Gf.nextS st))
  have hs := Gf.nextS_lt st
  have w1 : IntKind.u64.wrap (IntKind.u64.wrap (4906513781625342421 * (st : Int)) + 1181783497276652981) = ((Gf.nextS st : Nat) : Int) := by
    rw [IntKind.wrap_u64, IntKind.wrap_u64, Gf.nextS]; omega
  have w2 : IntKind.u64.wrap (7809847782465536323 * ((Gf.nextX (Gf.nextS st) : Nat) : Int)) = ((Gf.nextY (Gf.nextX (Gf.nextS st)) : Nat) : Int) := by
    rw [IntKind.wrap_u64, Gf.nextY]; omega
  have h1 : abin .quo (.int .u64 ((Gf.nextS st : Nat) : Int)) (.int .u64 4294967296) = some (.int .u64 ((Gf.nextS st / 2 ^ 32 : Nat) : Int)) := hq32 hs
  have h2 : abin .xor (.int .u64 ((Gf.nextS st : Nat) : Int)) (.int .u64 ((Gf.nextS st / 2 ^ 32 : Nat) : Int)) = some (.int .u64 ((Gf.nextX (Gf.nextS st) : Nat) : Int)) := b_xor (Gf.nextS_lt st) (Nat.lt_of_le_of_lt (Nat.div_le_self _ _) (Gf.nextS_lt st))
  have h3 : abin .quo (.int .u64 ((Gf.nextY (Gf.nextX (Gf.nextS st)) : Nat) : Int)) (.int .u64 536870912) = some (.int .u64 ((Gf.nextY (Gf.nextX (Gf.nextS st)) / 2 ^ 29 : Nat) : Int)) := hq29 hy
  have h4 : abin .xor (.int .u64 ((Gf.nextY (Gf.nextX (Gf.nextS st)) : Nat) : Int)) (.int .u64 ((Gf.nextY (Gf.nextX (Gf.nextS st)) / 2 ^ 29 : Nat) : Int)) = some (.int .u64 ((Gf.draw st : Nat) : Int)) := b_xor hy (Nat.lt_of_le_of_lt (Nat.div_le_self _ _) hy)
  simp -implicitDefEqProofs (disch := omega) only [sN, ↓reduceIte, Nat.reduceEqDiff, Nat.reduceAdd, Nat.reduceMul, Nat.reduceSub, reduceCtorEq, e_none, e_some, e_bindS, e0, w1, w2, h1, h2, h3, h4]
  exact ret_keep (by simp) (by simp only [rs_rNext, q_tmp, q_tmp2, q_then, e_upd, e_putS, e_putN, e_t, e_c, Nat.reduceEqDiff, ↓reduceIte, reduceCtorEq, Nat.reduceAdd])

theorem rBelow_calls (st : Nat) (n : Int) (hn : 0 < n) (hn' : n ≤ 9223372036854775807) : ACalls Try.prog 133 [.int .u64 (st : Int), .int .i64 n] [] [] fun v H => v = .tuple [.int .u64 ((Gf.nextS st : Nat) : Int), .int .i64 (((Gf.draw st : Nat) : Int) % n)] ∧ H = [] := by
  refine ACalls.trim1 (W := List.range 0) ?_ rfl
  refine ACalls.body Try.func133 ent_rBelow ir_rBelow_ok rs_rBelow_ok Try.ntmps133 (by simp) rfl ?_
  unfold ir_rBelow
  have e0 : s0 [.int .u64 (st : Int), .int .i64 n] 0 = .int .u64 st := rfl
  have e1 : s0 [.int .u64 (st : Int), .int .i64 n] 1 = .int .i64 n := rfl
  have hb : abin .rem (.int .u64 ((Gf.draw st : Nat) : Int)) (.int .u64 n) = some (.int .u64 (((Gf.draw st : Nat) : Int) % n)) := b_rem (by omega) (by omega)
  have m0 := Int.emod_nonneg ((Gf.draw st : Nat) : Int) (show n ≠ 0 by omega)
  have m1 := Int.emod_lt_of_pos ((Gf.draw st : Nat) : Int) hn
  simp -implicitDefEqProofs (disch := omega) only [sN, ↓reduceIte, Nat.reduceEqDiff, Nat.reduceAdd, Nat.reduceMul, Nat.reduceSub, reduceCtorEq, e_none, e_some, e_bindS, p_makeFunc, p_makeBound, p_field, p_fieldAddr, p_nilCheck, p_build, p_eqPtr, p_binB, p_lenStr, x_alloc, x_box, x_loadN, x_put, anew, aput, cellsAt, Vh.rowAt, afill, aparts, AV.cell, splice, aptr, List.all_cons, List.all_nil, Bool.and_self, Bool.and_true, Bool.true_and, List.length_cons, List.length_nil, List.nil_append, List.cons_append, List.map_cons, List.map_nil, List.take_succ_cons, List.take_zero, List.drop_succ_cons, List.drop_zero, List.take_nil, List.drop_nil, List.getElem?_cons_zero, List.getElem?_cons_succ, List.getElem?_nil, Option.getD_some, Option.getD_none, Option.bind_some, Option.map_some, List.set_cons_zero, List.set_cons_succ, List.set_nil, List.append_nil, Nat.le_refl, Nat.reduceLeDiff, and_self, and_true, true_and, Bool.false_eq_true, Bool.not_true, Bool.not_false, e0, e1]
  refine call_sc (rNext_calls st) rfl rfl (fun _ => rfl) ?_
  simp -implicitDefEqProofs (disch := omega) only [sN, ↓reduceIte, Nat.reduceEqDiff, Nat.reduceAdd, Nat.reduceMul, Nat.reduceSub, reduceCtorEq, e_none, e_some, e_bindS, p_makeFunc, p_makeBound, p_field, p_fieldAddr, p_nilCheck, p_build, p_eqPtr, p_binB, p_lenStr, x_alloc, x_box, x_loadN, x_put, anew, aput, cellsAt, Vh.rowAt, afill, aparts, AV.cell, splice, aptr, List.all_cons, List.all_nil, Bool.and_self, Bool.and_true, Bool.true_and, List.length_cons, List.length_nil, List.nil_append, List.cons_append, List.map_cons, List.map_nil, List.take_succ_cons, List.take_zero, List.drop_succ_cons, List.drop_zero, List.take_nil, List.drop_nil, List.getElem?_cons_zero, List.getElem?_cons_succ, List.getElem?_nil, Option.getD_some, Option.getD_none, Option.bind_some, Option.map_some, List.set_cons_zero, List.set_cons_succ, List.set_nil, List.append_nil, Nat.le_refl, Nat.reduceLeDiff, and_self, and_true, true_and, Bool.false_eq_true, Bool.not_true, Bool.not_false, e0, e1, hb]
  exact ret_keep (by simp) (by simp only [rs_rBelow, q_tmp, q_tmp2, q_then, e_upd, e_putS, e_putN, e_t, e_c, Nat.reduceEqDiff, ↓reduceIte, reduceCtorEq, Nat.reduceAdd])

end Go.Proofs.Ythbhljolpnbdlaa.S2



/- Contracts: bits that are drawn. -/
-- NEWSET
namespace Go.Proofs.Ythbhljolpnbdlaa.S2
open Go Go.Vh

end Go.Proofs.Ythbhljolpnbdlaa.S2



/- Contracts: the reference's order. -/
-- NEWSET
namespace Go.Proofs.Ythbhljolpnbdlaa.S2
open Go Go.Vh

section
variable {s : St} {H : AHeap}
/-- A store of one cell of an own row of integers, behind which its block may go on. -/
theorem x_storeS {x v : Opd} {r off : Nat} {k : IntKind} {b : Int} {l : List Int} {sk : Bool} (hx : evo s x = .ptr r off) (hv : evo s v = .int k b) (hr : Vh.rowAt H r = some ⟨true, sk, ints k l⟩) (ho : off < l.length) :
    ieff (.store 1 x v) s H = some (.any, H.set r (some ⟨true, sk, ints k (l.set off b)⟩)) := by
  have e : splice (ints k l) off [AV.int k b] = ints k (l.set off b) := by
    have : [AV.int k b] = ints k [b] := rfl
    rw [this, ints_splice]
    congr 1
    apply List.ext_getElem?
    intro i
    simp only [List.length_cons, List.length_nil, Nat.zero_add, List.append_assoc, List.getElem?_append, List.length_take, List.getElem?_take, List.getElem?_drop, List.getElem?_set]
    rcases Nat.lt_trichotomy i off with h | h | h
    · simp [show i < min off l.length by omega, h, show off ≠ i by omega]
    · subst h; simp [show ¬ i < min i l.length by omega, show i - min i l.length = 0 by omega, ho]
    · simp [show ¬ i < min off l.length by omega, show ¬ (i - min off l.length < 1) by omega, show off ≠ i by omega]
      congr 1; omega
  simp only [ieff, hx, hv]
  rw [aparts_cell c_int]
  simp only [List.length_cons, List.length_nil, Nat.zero_add, if_true, aput, hr, Option.bind_some]
  rw [if_pos ⟨trivial, by simp only [List.length_cons, List.length_nil, ints_length]; omega, rfl⟩, e]
  rfl
end

/-- numbers that were appended one by one, on top of a heap -/
def grownI (base : AHeap) (l : List Int) (v : AV) (H : AHeap) : Prop := (l.length = 0 ∧ v = .nilslice ∧ H = base) ∨ (0 < l.length ∧ v = .sliceU base.length 0 l.length 1 ∧ H = base ++ [sl (ints .i64 l)])
/-- the first numbers -/
def upto (n : Nat) : List Int := (List.range n).map fun (j : Nat) => (j : Int)
theorem upto_length {n : Nat} : (upto n).length = n := by simp [upto]
theorem upto_succ {n : Nat} : upto (n + 1) = upto n ++ [(n : Int)] := by simp [upto, List.range_succ]
theorem ints_snoc {l : List Int} {x : Int} : ints .i64 l ++ [.int .i64 x] = ints .i64 (l ++ [x]) := by simp [ints]

theorem rPerm_calls (st n : Nat) (hn : n ≤ 65536) : ACalls Try.prog 107 [.int .u64 (st : Int), .int .i64 (n : Int)] [] (List.range 0) fun v H => ∃ κ b, okS κ n ∧ v = .tuple [.int .u64 ((pst n st : Nat) : Int), mkS κ 0 0 n] ∧ H = [some ⟨true, b, ints .i64 (pml n st)⟩] := by
  refine ACalls.body Try.func107 ent_rPerm ir_rPerm_ok rs_rPerm_ok Try.ntmps107 (by simp) rfl ?_
  unfold ir_rPerm
  have e0 : s0 [.int .u64 (st : Int), .int .i64 (n : Int)] 0 = .int .u64 st := rfl
  have e1 : s0 [.int .u64 (st : Int), .int .i64 (n : Int)] 1 = .int .i64 n := rfl
  simp -implicitDefEqProofs (disch := omega) only [sN, ↓reduceIte, Nat.reduceEqDiff, Nat.reduceAdd, Nat.reduceMul, Nat.reduceSub, reduceCtorEq, e_none, e_some, e_bindS]
  refine ⟨fun m s H => ∃ j : Nat, m = n - j ∧ j ≤ n ∧ s 0 = .int .u64 st ∧ s 1 = .int .i64 n ∧ s 7 = .int .i64 (j : Int) ∧ grownI [] (upto j) (s 6) H, n, ⟨0, rfl, by omega, ?_, ?_, ?_, .inl ⟨rfl, ?_, rfl⟩⟩, ?_⟩
  · simp only [e_upd, e_putS, e_putN, e_t, e_c, Nat.reduceEqDiff, ↓reduceIte, reduceCtorEq, Nat.reduceAdd, e0]
  · simp only [e_upd, e_putS, e_putN, e_t, e_c, Nat.reduceEqDiff, ↓reduceIte, reduceCtorEq, Nat.reduceAdd, e1]
  · simp only [e_upd, e_putS, e_putN, e_t, e_c, Nat.reduceEqDiff, ↓reduceIte, reduceCtorEq, Nat.reduceAdd]; rfl
  · simp only [e_upd, e_putS, e_putN, e_t, e_c, Nat.reduceEqDiff, ↓reduceIte, reduceCtorEq, Nat.reduceAdd]
  rintro m s H ⟨j, hm, hj, h0, h1, h7, hg⟩
  by_cases hlt : (j : Int) < (n : Int)
  · have hjn : j < n := by omega
    rcases hg with ⟨hj0, h6, rfl⟩ | ⟨hpos, h6, rfl⟩
    · obtain rfl : j = 0 := by rw [upto_length] at hj0; exact hj0
      simp -implicitDefEqProofs (disch := omega) only [sN, ↓reduceIte, Nat.reduceEqDiff, Nat.reduceAdd, Nat.reduceMul, Nat.reduceSub, reduceCtorEq, e_none, e_some, e_bindS, h0, h1, h6, h7]
      rw [x_bs1 (v := .int .i64 ((0 : Nat) : Int)) (by simp only [e_upd, e_putS, e_putN, e_t, e_c, Nat.reduceEqDiff, ↓reduceIte, reduceCtorEq, Nat.reduceAdd, h7]) rfl]
      simp -implicitDefEqProofs (disch := omega) only [sN, ↓reduceIte, Nat.reduceEqDiff, Nat.reduceAdd, Nat.reduceMul, Nat.reduceSub, reduceCtorEq, e_none, e_some, e_bindS, h0, h1, h6, h7]
      rw [x_appN (r := 0) (m := 1) (c := 1) (row := ⟨true, false, [.int .i64 ((0 : Nat) : Int)]⟩) (xs := [.int .i64 ((0 : Nat) : Int)]) (by simp only [e_upd, e_putS, e_putN, e_t, e_c, Nat.reduceEqDiff, ↓reduceIte, reduceCtorEq, Nat.reduceAdd, h6]) (by simp only [e_upd, e_putS, e_putN, e_t, e_c, Nat.reduceEqDiff, ↓reduceIte, reduceCtorEq, Nat.reduceAdd]; rfl) rfl rfl (by simp) (by omega) rfl]
      simp -implicitDefEqProofs (disch := omega) only [sN, ↓reduceIte, Nat.reduceEqDiff, Nat.reduceAdd, Nat.reduceMul, Nat.reduceSub, reduceCtorEq, e_none, e_some, e_bindS, h0, h1, h7]
      refine loop_gc (m := n - (0 + 1)) [1] rfl ?_ (by omega) ⟨0 + 1, rfl, by omega, ?_, ?_, ?_, .inr ⟨by rw [upto_length]; omega, ?_, ?_⟩⟩
      · simp [gcH, Vh.rowAt, rw_, sl, n_lcons, n_lnil, n_int, AV.cell]
      · exact gc_at (v := .int .u64 (st : Int)) (by simp only [e_upd, e_putS, e_putN, e_t, e_c, Nat.reduceEqDiff, ↓reduceIte, reduceCtorEq, Nat.reduceAdd, h0]) rfl
      · exact gc_at (v := .int .i64 (n : Int)) (by simp only [e_upd, e_putS, e_putN, e_t, e_c, Nat.reduceEqDiff, ↓reduceIte, reduceCtorEq, Nat.reduceAdd, h1]) rfl
      · exact gc_at (v := .int .i64 (((0 + 1 : Nat)) : Int)) (by simp only [e_upd, e_putS, e_putN, e_t, e_c, Nat.reduceEqDiff, ↓reduceIte, reduceCtorEq, Nat.reduceAdd]; rfl) rfl
      · exact gc_at (v := .sliceU 1 0 1 1) (by simp only [e_upd, e_putS, e_putN, e_t, e_c, Nat.reduceEqDiff, ↓reduceIte, reduceCtorEq, Nat.reduceAdd]; rfl) rfl
      · simp [gcH, Vh.rowAt, rw_, sl, n_lcons, n_lnil, n_int, upto, ints]
    · rw [upto_length] at hpos h6
      simp -implicitDefEqProofs (disch := omega) only [sN, ↓reduceIte, Nat.reduceEqDiff, Nat.reduceAdd, Nat.reduceMul, Nat.reduceSub, reduceCtorEq, e_none, e_some, e_bindS, h0, h1, h6, h7, List.cons_append, List.nil_append]
      rw [x_bs1 (v := .int .i64 (j : Int)) (by simp only [e_upd, e_putS, e_putN, e_t, e_c, Nat.reduceEqDiff, ↓reduceIte, reduceCtorEq, Nat.reduceAdd, h7]) rfl]
      simp -implicitDefEqProofs (disch := omega) only [sN, ↓reduceIte, Nat.reduceEqDiff, Nat.reduceAdd, Nat.reduceMul, Nat.reduceSub, reduceCtorEq, e_none, e_some, e_bindS, h0, h1, h6, h7, List.cons_append, List.nil_append]
      rw [x_appU (q := 0) (n := j) (r := 1) (m := 1) (c := 1) (row := ⟨true, false, [.int .i64 (j : Int)]⟩) (xs := [.int .i64 (j : Int)]) (old := ints .i64 (upto j)) (by simp only [e_upd, e_putS, e_putN, e_t, e_c, Nat.reduceEqDiff, ↓reduceIte, reduceCtorEq, Nat.reduceAdd, h6]; rfl) (by simp only [e_upd, e_putS, e_putN, e_t, e_c, Nat.reduceEqDiff, ↓reduceIte, reduceCtorEq, Nat.reduceAdd]; rfl) rfl (by rw [ints_length, upto_length]) rfl rfl (by simp) (by omega) rfl, ints_snoc, ← upto_succ]
      simp -implicitDefEqProofs (disch := omega) only [sN, ↓reduceIte, Nat.reduceEqDiff, Nat.reduceAdd, Nat.reduceMul, Nat.reduceSub, reduceCtorEq, e_none, e_some, e_bindS, h0, h1, h7]
      refine loop_gc (m := n - (j + 1)) [2] rfl ?_ (by omega) ⟨j + 1, rfl, by omega, ?_, ?_, ?_, .inr ⟨by rw [upto_length]; omega, ?_, ?_⟩⟩
      · simp [gcH, Vh.rowAt, rw_, sl, ints_ren, ints_cell]
      · exact gc_at (v := .int .u64 (st : Int)) (by simp only [e_upd, e_putS, e_putN, e_t, e_c, Nat.reduceEqDiff, ↓reduceIte, reduceCtorEq, Nat.reduceAdd, h0]) rfl
      · exact gc_at (v := .int .i64 (n : Int)) (by simp only [e_upd, e_putS, e_putN, e_t, e_c, Nat.reduceEqDiff, ↓reduceIte, reduceCtorEq, Nat.reduceAdd, h1]) rfl
      · exact gc_at (v := .int .i64 (((j + 1 : Nat)) : Int)) (by simp only [e_upd, e_putS, e_putN, e_t, e_c, Nat.reduceEqDiff, ↓reduceIte, reduceCtorEq, Nat.reduceAdd]; rfl) rfl
      · rw [upto_length]; exact gc_at (v := .sliceU 2 0 (j + 1) 1) (by simp only [e_upd, e_putS, e_putN, e_t, e_c, Nat.reduceEqDiff, ↓reduceIte, reduceCtorEq, Nat.reduceAdd]; rfl) rfl
      · simp [gcH, Vh.rowAt, rw_, sl, ints_ren]
  have hjn : j = n := by omega
  subst hjn
  simp -implicitDefEqProofs (disch := omega) only [sN, ↓reduceIte, Nat.reduceEqDiff, Nat.reduceAdd, Nat.reduceMul, Nat.reduceSub, reduceCtorEq, e_none, e_some, e_bindS, h0, h1, h7]
  rcases hg with ⟨hj0, h6, rfl⟩ | ⟨hpos, h6, rfl⟩
  · obtain rfl : j = 0 := by rw [upto_length] at hj0; exact hj0
    refine ⟨fun t s H => s 0 = .int .u64 st ∧ s 6 = .nilslice ∧ s 8 = .int .i64 (-1) ∧ H = [], 0, ⟨?_, ?_, ?_, rfl⟩, ?_⟩
    · simp only [e_upd, e_putS, e_putN, e_t, e_c, Nat.reduceEqDiff, ↓reduceIte, reduceCtorEq, Nat.reduceAdd, h0]
    · simp only [e_upd, e_putS, e_putN, e_t, e_c, Nat.reduceEqDiff, ↓reduceIte, reduceCtorEq, Nat.reduceAdd, h6]
    · simp only [e_upd, e_putS, e_putN, e_t, e_c, Nat.reduceEqDiff, ↓reduceIte, reduceCtorEq, Nat.reduceAdd]; rfl
    rintro t s H ⟨h0, h6, h8, rfl⟩
    simp -implicitDefEqProofs (disch := omega) only [sN, ↓reduceIte, Nat.reduceEqDiff, Nat.reduceAdd, Nat.reduceMul, Nat.reduceSub, reduceCtorEq, e_none, e_some, e_bindS, h0, h6, h8]
    refine ⟨_, _, Weak.pad, by simp, ?_⟩
    unfold rs_rPerm; rw [q_tmp2, q_then]
    exact ⟨.nil, false, rfl, by simp only [e_upd, e_putS, e_putN, e_t, e_c, Nat.reduceEqDiff, ↓reduceIte, reduceCtorEq, Nat.reduceAdd, h0, h6]; rfl, rfl⟩
  rw [upto_length] at hpos h6
  refine ⟨fun t s H => ∃ (k : Nat) (st' : Nat) (l : List Int), t = k ∧ k ≤ j - 1 ∧ l.length = j ∧ fy k st' l = fy (j - 1) st (io j j) ∧ s 0 = .int .u64 st' ∧ s 6 = .sliceU 0 0 j 1 ∧ s 8 = .int .i64 (k : Int) ∧ H = [sl (ints .i64 l)], j - 1, ⟨j - 1, st, io j j, rfl, by omega, io_length _ _, rfl, ?_, ?_, ?_, ?_⟩, ?_⟩
  · simp only [e_upd, e_putS, e_putN, e_t, e_c, Nat.reduceEqDiff, ↓reduceIte, reduceCtorEq, Nat.reduceAdd, h0]
  · simp only [e_upd, e_putS, e_putN, e_t, e_c, Nat.reduceEqDiff, ↓reduceIte, reduceCtorEq, Nat.reduceAdd, h6]; rfl
  · simp only [e_upd, e_putS, e_putN, e_t, e_c, Nat.reduceEqDiff, ↓reduceIte, reduceCtorEq, Nat.reduceAdd]
    congr 1; omega
  · rw [io_map]; rfl
  rintro t s H ⟨k, st', l, rfl, hk, hl, hfy, h0, h6, h8, rfl⟩
  cases t with
  | succ k =>
    have hcast : (((k + 1 : Nat) : Int)) = (k : Int) + 1 := by omega
    rw [hcast] at h8
    simp -implicitDefEqProofs (disch := omega) only [sN, ↓reduceIte, Nat.reduceEqDiff, Nat.reduceAdd, Nat.reduceMul, Nat.reduceSub, reduceCtorEq, e_none, e_some, e_bindS, h0, h6, h8]
    have hb := rBelow_calls st' ((k : Int) + 1 + 1) (by omega) (by omega)
    obtain ⟨jj, hjj⟩ : ∃ j, Gf.draw st' % (k + 2) = j := ⟨_, rfl⟩
    have hjlt : jj < k + 2 := by rw [← hjj]; exact Nat.mod_lt _ (by omega)
    have hmod : ((Gf.draw st' : Nat) : Int) % ((k : Int) + 1 + 1) = (jj : Int) := by
      rw [← hjj, Int.natCast_emod]; rfl
    rw [hmod] at hb
    refine call_sc hb rfl rfl (fun _ => rfl) ?_
    have hk1 : ((k : Int) + 1).toNat = k + 1 := by omega
    simp -implicitDefEqProofs (disch := omega) only [sN, ↓reduceIte, Nat.reduceEqDiff, Nat.reduceAdd, Nat.reduceMul, Nat.reduceSub, reduceCtorEq, e_none, e_some, e_bindS, h0, h6, h8, ints_get, hl, hk1, List.getElem?_cons_zero, List.getElem?_cons_succ]
    rw [x_storeS (r := 0) (off := k + 1) (k := .i64) (b := l.getD jj 0) (l := l) (by simp only [e_upd, e_putS, e_putN, e_t, e_c, Nat.reduceEqDiff, ↓reduceIte, reduceCtorEq, Nat.reduceAdd]) (by simp only [e_upd, e_putS, e_putN, e_t, e_c, Nat.reduceEqDiff, ↓reduceIte, reduceCtorEq, Nat.reduceAdd]) rfl (by omega)]
    simp -implicitDefEqProofs (disch := omega) only [sN, ↓reduceIte, Nat.reduceEqDiff, Nat.reduceAdd, Nat.reduceMul, Nat.reduceSub, reduceCtorEq, e_none, e_some, e_bindS, h0, h6, h8, hl, hk1, List.set_cons_zero]
    rw [x_storeS (r := 0) (off := jj) (k := .i64) (b := l.getD (k + 1) 0) (l := l.set (k + 1) (l.getD jj 0)) (by simp only [e_upd, e_putS, e_putN, e_t, e_c, Nat.reduceEqDiff, ↓reduceIte, reduceCtorEq, Nat.reduceAdd]) (by simp only [e_upd, e_putS, e_putN, e_t, e_c, Nat.reduceEqDiff, ↓reduceIte, reduceCtorEq, Nat.reduceAdd]) rfl (by rw [List.length_set]; omega)]
    simp -implicitDefEqProofs (disch := omega) only [sN, ↓reduceIte, Nat.reduceEqDiff, Nat.reduceAdd, Nat.reduceMul, Nat.reduceSub, reduceCtorEq, e_none, e_some, e_bindS, h0, h6, h8, hl, hk1, List.set_cons_zero]
    refine loop_keep (m := k) (by omega) ⟨k, Gf.nextS st', swapL l (k + 1) jj, rfl, by omega, by rw [swapL_length, hl], ?_, ?_, ?_, ?_, rfl⟩
    · rw [← hfy, fy, hjj]
    · simp only [e_upd, e_putS, e_putN, e_t, e_c, Nat.reduceEqDiff, ↓reduceIte, reduceCtorEq, Nat.reduceAdd, h0]
    · simp only [e_upd, e_putS, e_putN, e_t, e_c, Nat.reduceEqDiff, ↓reduceIte, reduceCtorEq, Nat.reduceAdd, h6]
    · simp only [e_upd, e_putS, e_putN, e_t, e_c, Nat.reduceEqDiff, ↓reduceIte, reduceCtorEq, Nat.reduceAdd]
      congr 1; omega
  | zero =>
    simp only [fy] at hfy
    have h8' : s 8 = .int .i64 0 := h8
    simp -implicitDefEqProofs (disch := omega) only [sN, ↓reduceIte, Nat.reduceEqDiff, Nat.reduceAdd, Nat.reduceMul, Nat.reduceSub, reduceCtorEq, e_none, e_some, e_bindS, h0, h6, h8']
    refine ret_keep (by simp) ?_
    unfold rs_rPerm; rw [q_tmp2, q_then]
    refine ⟨.u, true, trivial, ?_, ?_⟩
    · simp only [e_upd, e_putS, e_putN, e_t, e_c, Nat.reduceEqDiff, ↓reduceIte, reduceCtorEq, Nat.reduceAdd, h0, h6, pst, ← hfy]; rfl
    · rw [pml, ← hfy]; rfl
end Go.Proofs.Ythbhljolpnbdlaa.S2



/- Sorting by insertion: what is put in its place; regions with all orders, by what holds behind them. -/
-- NEWSET
namespace Go.Vh
open Go
end Go.Vh
namespace Go.Proofs.Ythbhljolpnbdlaa.S2
open Go Go.Vh

theorem srt_sorted (l : List Int) : List.Pairwise (fun a b : Int => a ≤ b) (srt l) := by
  have hs : List.Pairwise (fun a b : Int => decide (a ≤ b) = true) (srt l) := List.pairwise_mergeSort (fun a b c h1 h2 => by simp only [decide_eq_true_eq] at *; omega) (fun a b => by simp only [Bool.or_eq_true, decide_eq_true_eq]; omega) _
  exact hs.imp fun h => of_decide_eq_true h
theorem srt_perm (l : List Int) : (srt l).Perm l := List.mergeSort_perm _ _
theorem srt_length (l : List Int) : (srt l).length = l.length := List.length_mergeSort _
theorem srt_unique {m l : List Int} (hs : List.Pairwise (fun a b : Int => a ≤ b) m) (hp : m.Perm l) : m = srt l :=
  List.Perm.eq_of_pairwise (le := fun a b => a ≤ b) (fun a b _ _ h1 h2 => Int.le_antisymm h1 h2) hs (srt_sorted l) (hp.trans (srt_perm l).symm)
theorem ins_srt {l : List Int} {x : Int} {a : Nat} (ha : a ≤ l.length) (hb : ∀ b, b < a → (srt l).getD b 0 < x) (hc : a = l.length ∨ x ≤ (srt l).getD a 0) :
    (srt l).take a ++ [x] ++ (srt l).drop a = srt (l ++ [x]) := by
  have hl := srt_length l
  have hs := srt_sorted l
  apply srt_unique
  · have h1 : ∀ y ∈ (srt l).take a, y < x := by
      intro y hy
      obtain ⟨b, hb', rfl⟩ := List.getElem_of_mem hy
      have hba : b < a := by rw [List.length_take] at hb'; omega
      have := hb b hba
      rw [List.getD_eq_getElem?_getD, List.getElem?_eq_getElem (by omega)] at this
      simpa using this
    have h2 : ∀ y ∈ (srt l).drop a, x ≤ y := by
      intro y hy
      rcases hc with rfl | hc
      · rw [List.drop_eq_nil_of_le (by omega)] at hy; cases hy
      · obtain ⟨b, hb', rfl⟩ := List.getElem_of_mem hy
        rw [List.length_drop] at hb'
        rw [List.getD_eq_getElem?_getD, List.getElem?_eq_getElem (by omega)] at hc
        simp only [Option.getD_some] at hc
        rw [List.getElem_drop]
        by_cases h0 : b = 0
        · subst h0; exact hc
        · exact Int.le_trans hc (List.pairwise_iff_getElem.1 hs a (a + b) (by omega) (by omega) (by omega))
    rw [List.append_assoc, List.pairwise_append]
    refine ⟨hs.sublist (List.take_sublist _ _), ?_, ?_⟩
    · rw [List.singleton_append, List.pairwise_cons]
      exact ⟨h2, hs.sublist (List.drop_sublist _ _)⟩
    · intro y hy z hz
      have := h1 y hy
      rw [List.singleton_append, List.mem_cons] at hz
      rcases hz with rfl | hz
      · omega
      · have := h2 z hz; omega
  · rw [List.append_assoc, List.singleton_append]
    refine List.perm_middle.trans ?_
    rw [List.take_append_drop]
    refine ((srt_perm l).cons x).trans ?_
    exact (List.perm_append_singleton x l).symm
end Go.Proofs.Ythbhljolpnbdlaa.S2



