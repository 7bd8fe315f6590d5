/- Contracts: the fields, whether a number is an element, how many words. -/
import Derived.Test.YthbhljolpnbdlaaV7
import Derived.Test.YthbhljolpnbdlaaVX
import Derived.Test.YthbhljolpnbdlaaQIrA1
import Derived.Test.YthbhljolpnbdlaaV8
import Derived.Test.YthbhljolpnbdlaaProg
import Derived.KernelRfl
set_option linter.unusedSimpArgs false
set_option linter.unusedVariables false
namespace Go.Proofs.Ythbhljolpnbdlaa.S2
open Go Go.Vh

theorem isLength_calls (n : Int) : ACalls Try.prog 103 [.int .i64 n] [] [] fun v H => v = .bool (decide (0 ≤ n ∧ n ≤ 65536)) ∧ H = [] := by
  refine ACalls.body Try.func103 ent_isLength ir_isLength_ok rs_isLength_ok Try.ntmps103 (by simp) rfl ?_
  unfold ir_isLength
  have e0 : s0 [.int .i64 n] 0 = .int .i64 n := rfl
  by_cases h : 0 ≤ n
  · simp -implicitDefEqProofs (disch := omega) only [sS, ↓reduceIte, Nat.reduceEqDiff, Nat.reduceAdd, Nat.reduceMul, Nat.reduceSub, reduceCtorEq, e_none, e_some, e_bindS, e0]
    exact ret_keep (by simp) ⟨by simp [e_upd, h], rfl⟩
  · simp -implicitDefEqProofs (disch := omega) only [sS, ↓reduceIte, Nat.reduceEqDiff, Nat.reduceAdd, Nat.reduceMul, Nat.reduceSub, reduceCtorEq, e_none, e_some, e_bindS, e0]
    exact ret_keep (by simp) ⟨by simp [e_upd, h], rfl⟩
end Go.Proofs.Ythbhljolpnbdlaa.S2



/- Contracts: Words, and the law of it. -/
namespace Go.Proofs.Ythbhljolpnbdlaa.S2
open Go Go.Vh

def isW (w : Int) : Prop := w = 8 ∨ w = 16 ∨ w = 32
instance (w : Int) : Decidable (isW w) := inferInstanceAs (Decidable (w = 8 ∨ w = 16 ∨ w = 32))

end Go.Proofs.Ythbhljolpnbdlaa.S2



/- The first number of draws is another one with each seed. -/
namespace Go.Gf
def nextS (s : Nat) : Nat := (4906513781625342421 * s + 1181783497276652981) % 2 ^ 64
def nextX (s : Nat) : Nat := s ^^^ (s / 2 ^ 32)
def nextY (x : Nat) : Nat := (7809847782465536323 * x) % 2 ^ 64
def nextZ (y : Nat) : Nat := y ^^^ (y / 2 ^ 29)
def draw (s : Nat) : Nat := nextZ (nextY (nextX (nextS s)))

theorem nextS_lt (s : Nat) : nextS s < 2 ^ 64 := Nat.mod_lt _ (by decide)
theorem nextX_lt {s : Nat} (h : s < 2 ^ 64) : nextX s < 2 ^ 64 := Nat.xor_lt_two_pow h (Nat.lt_of_le_of_lt (Nat.div_le_self _ _) h)
theorem nextY_lt (s : Nat) : nextY s < 2 ^ 64 := Nat.mod_lt _ (by decide)
end Go.Gf



/- Contracts: New, valid, Next; the law of the seeds. -/
namespace Go.Proofs.Ythbhljolpnbdlaa.S2
open Go Go.Vh

/-- Draws, as they lie. -/
def dr (r : Nat) (st : Nat) : Option ARow := some ⟨true, false, [.ptr r 0, .int .u64 st]⟩

theorem dNew_calls (n : Nat) : ACalls Try.prog 72 [.int .u64 n] [] [] fun v H => v = .ptr 0 0 ∧ H = [dr 0 n] := by
  refine ACalls.body Try.func72 ent_dNew ir_dNew_ok rs_dNew_ok Try.ntmps72 (by simp) rfl ?_
  unfold ir_dNew
  have e0 : s0 [.int .u64 n] 0 = .int .u64 n := rfl
  simp -implicitDefEqProofs (disch := omega) only [sS, ↓reduceIte, Nat.reduceEqDiff, Nat.reduceAdd, Nat.reduceMul, Nat.reduceSub, reduceCtorEq, e_none, e_some, e_bindS, p_makeFunc, p_makeBound, p_field, p_fieldAddr, p_nilCheck, p_build, p_eqPtr, p_binB, p_lenStr, x_alloc, x_box, x_loadN, x_put, anew, aput, cellsAt, Vh.rowAt, afill, aparts, AV.cell, splice, aptr, List.all_cons, List.all_nil, Bool.and_self, Bool.and_true, Bool.true_and, List.length_cons, List.length_nil, List.nil_append, List.cons_append, List.map_cons, List.map_nil, List.take_succ_cons, List.take_zero, List.drop_succ_cons, List.drop_zero, List.take_nil, List.drop_nil, List.getElem?_cons_zero, List.getElem?_cons_succ, List.getElem?_nil, Option.getD_some, Option.getD_none, Option.bind_some, Option.map_some, List.set_cons_zero, List.set_cons_succ, List.set_nil, List.append_nil, Nat.le_refl, Nat.reduceLeDiff, and_self, and_true, true_and, Bool.false_eq_true, Bool.not_true, Bool.not_false, e0]
  exact ret_keep (by simp) ⟨by simp only [e_upd, e_putS, e_putN, e_t, e_c, Nat.reduceEqDiff, ↓reduceIte, reduceCtorEq, Nat.reduceAdd], rfl⟩

theorem dValid_calls (st : Nat) : ACalls Try.prog 102 [.ptr 0 0] [dr 0 st] [0] fun v H => v = .bool true ∧ H = [dr 0 st] := by
  refine ACalls.body Try.func102 ent_dValid ir_dValid_ok rs_dValid_ok Try.ntmps102 (by simp) rfl ?_
  unfold ir_dValid dr
  have e0 : s0 [.ptr 0 0] 0 = .ptr 0 0 := rfl
  simp -implicitDefEqProofs (disch := omega) only [sS, ↓reduceIte, Nat.reduceEqDiff, Nat.reduceAdd, Nat.reduceMul, Nat.reduceSub, reduceCtorEq, e_none, e_some, e_bindS, p_makeFunc, p_makeBound, p_field, p_fieldAddr, p_nilCheck, p_build, p_eqPtr, p_binB, p_lenStr, x_alloc, x_box, x_loadN, x_put, anew, aput, cellsAt, Vh.rowAt, afill, aparts, AV.cell, splice, aptr, List.all_cons, List.all_nil, Bool.and_self, Bool.and_true, Bool.true_and, List.length_cons, List.length_nil, List.nil_append, List.cons_append, List.map_cons, List.map_nil, List.take_succ_cons, List.take_zero, List.drop_succ_cons, List.drop_zero, List.take_nil, List.drop_nil, List.getElem?_cons_zero, List.getElem?_cons_succ, List.getElem?_nil, Option.getD_some, Option.getD_none, Option.bind_some, Option.map_some, List.set_cons_zero, List.set_cons_succ, List.set_nil, List.append_nil, Nat.le_refl, Nat.reduceLeDiff, and_self, and_true, true_and, Bool.false_eq_true, Bool.not_true, Bool.not_false, e0]
  exact ret_keep (by simp) ⟨by simp only [e_upd, e_putS, e_putN, e_t, e_c, Nat.reduceEqDiff, ↓reduceIte, reduceCtorEq, Nat.reduceAdd], rfl⟩

/-- A call that has the draws alone, which lie in the row r. -/
theorem call_dr {P : Program} {f : FuncId} {W0 : List Nat} {K : St → AHeap → Prop} {d : Option Nat} {s : St} {H : AHeap} {args caps : List AV} {c : AV} {st st' r : Nat} {rest : List AV}
    (h : ACalls P f (.ptr 0 0 :: rest) [dr 0 st] W0 fun v H => v = c ∧ H = [dr 0 st']) (hrest : rest.all AV.flat = true) (hc : c.under 0 = true) (hr : Vh.rowAt H r = dr r st)
    (hargs : args ++ caps = .ptr r 0 :: rest) (hK : K (putI d s c) (H.set r (dr r st'))) : thenC P K d s H args (.func f caps) := by
  have hs : sig [(r, 0)] H.length 0 = some (r, 0) := rfl
  refine call_do h [(r, 0)] rfl ?_ rfl ?_ ⟨⟨⟨true, false, [.ptr r 0, .int .u64 st]⟩, hr, ?_, ?_, rfl, ?_⟩, trivial⟩ fun v0 H0' ⟨e1, e2⟩ => ?_
  · simp [underL, AV.under, flatL_under hrest]
  · rw [hargs, n_lcons, n_ptr hs, flatL_ren hrest]
  · simp
  · simp [n_lcons, n_lnil, n_ptr hs, n_int]
  · intro _; exact ⟨rfl, rfl, rfl, rfl⟩
  · subst e1; subst e2
    rw [AV.ren_under0 hc]
    simpa [merge, mergeGo, dr, renRow, Vh.rowAt, n_lcons, n_lnil, n_ptr hs, n_int] using hK

theorem dNext_calls (st : Nat) : ACalls Try.prog 105 [.ptr 0 0] [dr 0 st] [0] fun v H => v = .int .u64 (Gf.draw st : Nat) ∧ H = [dr 0 (Gf.nextS st)] := by
  refine ACalls.body Try.func105 ent_dNext ir_dNext_ok rs_dNext_ok Try.ntmps105 (by simp) rfl ?_
  unfold ir_dNext
  have e0 : s0 [.ptr 0 0] 0 = .ptr 0 0 := rfl
  have hx := Gf.nextX_lt (Gf.nextS_lt st)
  have hy := Gf.nextY_lt (Gf.nextX (Gf.nextS st))
  have w1 : IntKind.u64.wrap (IntKind.u64.wrap (4906513781625342421 * (st : Int)) + 1181783497276652981) = ((Gf.nextS st : Nat) : Int) := by
    rw [IntKind.wrap_u64, IntKind.wrap_u64, Gf.nextS]; omega
  have w2 : IntKind.u64.wrap (7809847782465536323 * ((Gf.nextX (Gf.nextS st) : Nat) : Int)) = ((Gf.nextY (Gf.nextX (Gf.nextS st)) : Nat) : Int) := by
    rw [IntKind.wrap_u64, Gf.nextY]; omega
  have h1 : abin .shr (.int .u64 ((Gf.nextS st : Nat) : Int)) (.int .u64 32) = some (.int .u64 ((Gf.nextS st / 2 ^ 32 : Nat) : Int)) := b_shrN (n := 32) (Gf.nextS_lt st)
  have h2 : abin .xor (.int .u64 ((Gf.nextS st : Nat) : Int)) (.int .u64 ((Gf.nextS st / 2 ^ 32 : Nat) : Int)) = some (.int .u64 ((Gf.nextX (Gf.nextS st) : Nat) : Int)) := b_xor (Gf.nextS_lt st) (Nat.lt_of_le_of_lt (Nat.div_le_self _ _) (Gf.nextS_lt st))
  have h3 : abin .shr (.int .u64 ((Gf.nextY (Gf.nextX (Gf.nextS st)) : Nat) : Int)) (.int .u64 29) = some (.int .u64 ((Gf.nextY (Gf.nextX (Gf.nextS st)) / 2 ^ 29 : Nat) : Int)) := b_shrN (n := 29) hy
  have h4 : abin .xor (.int .u64 ((Gf.nextY (Gf.nextX (Gf.nextS st)) : Nat) : Int)) (.int .u64 ((Gf.nextY (Gf.nextX (Gf.nextS st)) / 2 ^ 29 : Nat) : Int)) = some (.int .u64 ((Gf.draw st : Nat) : Int)) := b_xor hy (Nat.lt_of_le_of_lt (Nat.div_le_self _ _) hy)
  simp -implicitDefEqProofs (disch := omega) only [sS, ↓reduceIte, Nat.reduceEqDiff, Nat.reduceAdd, Nat.reduceMul, Nat.reduceSub, reduceCtorEq, e_none, e_some, e_bindS, e0]
  refine call_dr (st := st) (st' := st) (r := 0) (rest := []) (dValid_calls st) rfl rfl rfl rfl ?_
  unfold dr
  simp -implicitDefEqProofs (disch := omega) only [sS, ↓reduceIte, Nat.reduceEqDiff, Nat.reduceAdd, Nat.reduceMul, Nat.reduceSub, reduceCtorEq, e_none, e_some, e_bindS, p_makeFunc, p_makeBound, p_field, p_fieldAddr, p_nilCheck, p_build, p_eqPtr, p_binB, p_lenStr, x_alloc, x_box, x_loadN, x_put, anew, aput, cellsAt, Vh.rowAt, afill, aparts, AV.cell, splice, aptr, List.all_cons, List.all_nil, Bool.and_self, Bool.and_true, Bool.true_and, List.length_cons, List.length_nil, List.nil_append, List.cons_append, List.map_cons, List.map_nil, List.take_succ_cons, List.take_zero, List.drop_succ_cons, List.drop_zero, List.take_nil, List.drop_nil, List.getElem?_cons_zero, List.getElem?_cons_succ, List.getElem?_nil, Option.getD_some, Option.getD_none, Option.bind_some, Option.map_some, List.set_cons_zero, List.set_cons_succ, List.set_nil, List.append_nil, Nat.le_refl, Nat.reduceLeDiff, and_self, and_true, true_and, Bool.false_eq_true, Bool.not_true, Bool.not_false, e0, w1, w2, h1, h2, h3, h4]
  exact ret_keep (by simp) ⟨by simp only [e_upd, e_putS, e_putN, e_t, e_c, Nat.reduceEqDiff, ↓reduceIte, reduceCtorEq, Nat.reduceAdd], rfl⟩

end Go.Proofs.Ythbhljolpnbdlaa.S2


