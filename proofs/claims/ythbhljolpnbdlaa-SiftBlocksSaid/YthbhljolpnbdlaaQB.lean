/- Contracts: below, permutation. -/
import Derived.Test.YthbhljolpnbdlaaVX
import Derived.Test.YthbhljolpnbdlaaQO1
set_option linter.unusedSimpArgs false
set_option linter.unusedVariables false
-- NEWSET
namespace Go.Proofs.Ythbhljolpnbdlaa.S2
open Go Go.Vh

section
variable {P : Program} {f : FuncId} {W0 : List Nat} {K : St → AHeap → Prop} {d : Option Nat} {s : St} {H : AHeap} {args caps args0 : List AV} {st st' r : Nat}
theorem seen_dr (hr : Vh.rowAt H r = dr r st) : seenAll H (sig [(r, 0)] H.length) 1 [dr 0 st] [(r, 0)] := by
  have hs : sig [(r, 0)] H.length 0 = some (r, 0) := rfl
  refine ⟨⟨⟨true, false, [.ptr r 0, .int .u64 st]⟩, hr, ?_, ?_, rfl, ?_⟩, trivial⟩
  · simp
  · simp [n_lcons, n_lnil, n_ptr hs, n_int]
  · intro _; exact ⟨rfl, rfl, rfl, rfl⟩
theorem ren_dr {m : Nat} : renRow (sig [(r, 0)] m) (dr 0 st) = dr r st := by
  have hs : sig [(r, 0)] m 0 = some (r, 0) := rfl
  simp [renRow, dr, n_lcons, n_lnil, n_ptr hs, n_int]
/-- A call that reaches the draws in the row r. -/
theorem call_drG {R0 : AV → AHeap → Prop} (h : ACalls P f args0 [dr 0 st] W0 R0) (hu : underL 1 args0 = true) (hr : Vh.rowAt H r = dr r st)
    (hargs : args ++ caps = renL (sig [(r, 0)] H.length) args0) (hK : ∀ v st' new, R0 v (dr 0 st' :: new) → K (putI d s (v.ren (sig [(r, 0)] H.length))) (H.set r (dr r st') ++ new.map (renRow (sig [(r, 0)] H.length)))) (hR : ∀ v H', R0 v H' → ∃ st' new, H' = dr 0 st' :: new) : thenC P K d s H args (.func f caps) := by
  refine call_do h [(r, 0)] rfl hu rfl hargs (seen_dr hr) fun v0 H0' h0 => ?_
  obtain ⟨st', new, rfl⟩ := hR _ _ h0
  have := hK _ _ _ h0
  rw [m_merge]
  have e : mergeGo (sig [(r, 0)] H.length) (dr 0 st' :: new) [dr 0 st] [(r, 0)] 0 H = H.set r (dr r st') := by
    show H.set r (renRow (sig [(r, 0)] H.length) (Vh.rowAt (dr 0 st' :: new) 0)) = _
    rw [show Vh.rowAt (dr 0 st' :: new) 0 = dr 0 st' from rfl, ren_dr]
  rw [e]
  exact this
end

theorem below_calls (st n : Nat) (hn : 0 < n) (hn' : n ≤ 65536) : ACalls Try.prog 130 [.int .i64 n, .bound 105 [.ptr 0 0] []] [dr 0 st] [0] fun v H => v = .int .i64 ((Gf.draw st % n : Nat) : Int) ∧ H = [dr 0 (Gf.nextS st)] := by
  refine ACalls.body Try.func130 ent_below ir_below_ok rs_below_ok Try.ntmps130 (by simp) rfl ?_
  unfold ir_below
  have e0 : s0 [.int .i64 (n : Int), .bound 105 [.ptr 0 0] []] 0 = .int .i64 n := rfl
  have e1 : s0 [.int .i64 (n : Int), .bound 105 [.ptr 0 0] []] 1 = .bound 105 [.ptr 0 0] [] := rfl
  have hm := Nat.mod_lt (Gf.draw st) hn
  have hb : abin .rem (.int .u64 ((Gf.draw st : Nat) : Int)) (.int .u64 (n : Int)) = some (.int .u64 ((Gf.draw st % n : Nat) : Int)) := by
    rw [b_rem (by omega) (by omega), Int.natCast_emod]
  simp -implicitDefEqProofs (disch := omega) only [sN, ↓reduceIte, Nat.reduceEqDiff, Nat.reduceAdd, Nat.reduceMul, Nat.reduceSub, reduceCtorEq, e_none, e_some, e_bindS, p_makeFunc, p_makeBound, p_field, p_fieldAddr, p_nilCheck, p_build, p_eqPtr, p_binB, p_lenStr, x_alloc, x_box, x_loadN, x_put, anew, aput, cellsAt, Vh.rowAt, afill, aparts, AV.cell, splice, aptr, List.all_cons, List.all_nil, Bool.and_self, Bool.and_true, Bool.true_and, List.length_cons, List.length_nil, List.nil_append, List.cons_append, List.map_cons, List.map_nil, List.take_succ_cons, List.take_zero, List.drop_succ_cons, List.drop_zero, List.take_nil, List.drop_nil, List.getElem?_cons_zero, List.getElem?_cons_succ, List.getElem?_nil, Option.getD_some, Option.getD_none, Option.bind_some, Option.map_some, List.set_cons_zero, List.set_cons_succ, List.set_nil, List.append_nil, Nat.le_refl, Nat.reduceLeDiff, and_self, and_true, true_and, Bool.false_eq_true, Bool.not_true, Bool.not_false, e0, e1]
  refine call_bound ?_
  refine call_dr (st := st) (st' := Gf.nextS st) (r := 0) (rest := []) (dNext_calls st) rfl rfl rfl rfl ?_
  simp -implicitDefEqProofs (disch := omega) only [sN, ↓reduceIte, Nat.reduceEqDiff, Nat.reduceAdd, Nat.reduceMul, Nat.reduceSub, reduceCtorEq, e_none, e_some, e_bindS, p_makeFunc, p_makeBound, p_field, p_fieldAddr, p_nilCheck, p_build, p_eqPtr, p_binB, p_lenStr, x_alloc, x_box, x_loadN, x_put, anew, aput, cellsAt, Vh.rowAt, afill, aparts, AV.cell, splice, aptr, List.all_cons, List.all_nil, Bool.and_self, Bool.and_true, Bool.true_and, List.length_cons, List.length_nil, List.nil_append, List.cons_append, List.map_cons, List.map_nil, List.take_succ_cons, List.take_zero, List.drop_succ_cons, List.drop_zero, List.take_nil, List.drop_nil, List.getElem?_cons_zero, List.getElem?_cons_succ, List.getElem?_nil, Option.getD_some, Option.getD_none, Option.bind_some, Option.map_some, List.set_cons_zero, List.set_cons_succ, List.set_nil, List.append_nil, Nat.le_refl, Nat.reduceLeDiff, and_self, and_true, true_and, Bool.false_eq_true, Bool.not_true, Bool.not_false, e0, hb]
  exact ret_keep (by simp) ⟨by simp only [e_upd, e_putS, e_putN, e_t, e_c, Nat.reduceEqDiff, ↓reduceIte, reduceCtorEq, Nat.reduceAdd], rfl⟩

/-- two elements exchanged -/
def swapL (l : List Int) (i j : Nat) : List Int := (l.set i (l.getD j 0)).set j (l.getD i 0)
/-- the exchanges from i down to 1 -/
def fy : Nat → Nat → List Int → Nat × List Int
  | 0, st, l => (st, l)
  | i + 1, st, l => fy i (Gf.nextS st) (swapL l (i + 1) (Gf.draw st % (i + 2)))
def io (n i : Nat) : List Int := (List.range n).map fun j => if j < i then (j : Int) else 0
theorem io_length (n i : Nat) : (io n i).length = n := by simp [io]
theorem io_zero (n : Nat) : io n 0 = List.replicate n 0 := by
  apply List.ext_getElem <;> simp [io]
theorem io_step {n i : Nat} (h : i < n) : (io n i).set i (i : Int) = io n (i + 1) := by
  apply List.ext_getElem
  · simp [io]
  · intro j h1 h2
    simp only [io, List.length_map, List.length_range] at h2
    rw [List.getElem_set]
    simp only [io, List.getElem_map, List.getElem_range]
    by_cases hj : i = j
    · subst hj; simp
    · rw [if_neg hj]
      by_cases h3 : j < i
      · rw [if_pos h3, if_pos (by omega)]
      · rw [if_neg h3, if_neg (by omega)]
theorem swapL_length (l : List Int) (i j : Nat) : (swapL l i j).length = l.length := by simp [swapL]
theorem fy_length : ∀ (i st : Nat) (l : List Int), (fy i st l).2.length = l.length
  | 0, _, _ => rfl
  | i + 1, st, l => by rw [fy, fy_length i, swapL_length]

/-- the state, and the order -/
def pst (n st : Nat) : Nat := (fy (n - 1) st (io n n)).1
def pml (n st : Nat) : List Int := (fy (n - 1) st (io n n)).2
theorem pml_length (n st : Nat) : (pml n st).length = n := by rw [pml, fy_length, io_length]

theorem perm_calls (st n : Nat) (hn : n ≤ 65536) : ACalls Try.prog 104 [.int .i64 n, .bound 105 [.ptr 0 0] []] [dr 0 st] [0] fun v H => v = .slice 1 0 n n ∧ H = [dr 0 (pst n st), rw_ (ints .i64 (pml n st))] := by
  refine ACalls.body Try.func104 ent_perm ir_perm_ok rs_perm_ok Try.ntmps104 (by simp) rfl ?_
  unfold ir_perm
  have e0 : s0 [.int .i64 (n : Int), .bound 105 [.ptr 0 0] []] 0 = .int .i64 n := rfl
  have e1 : s0 [.int .i64 (n : Int), .bound 105 [.ptr 0 0] []] 1 = .bound 105 [.ptr 0 0] [] := rfl
  simp -implicitDefEqProofs (disch := omega) only [sN, ↓reduceIte, Nat.reduceEqDiff, Nat.reduceAdd, Nat.reduceMul, Nat.reduceSub, reduceCtorEq, e_none, e_some, e_bindS, e0, e1]
  rw [x_make (n := (n : Int)) (by simp only [e_upd, e_putS, e_putN, e_t, e_c, Nat.reduceEqDiff, ↓reduceIte, reduceCtorEq, Nat.reduceAdd, e0]) (by omega) (by omega) (by omega)]
  simp -implicitDefEqProofs (disch := omega) only [sN, ↓reduceIte, Nat.reduceEqDiff, Nat.reduceAdd, Nat.reduceMul, Nat.reduceSub, reduceCtorEq, e_none, e_some, e_bindS, e0, e1]
  refine ⟨fun t s H => ∃ i : Nat, i ≤ n ∧ t = n - i ∧ s 0 = .int .i64 n ∧ s 1 = .bound 105 [.ptr 0 0] [] ∧ s 5 = .slice 1 0 n n ∧ s 12 = .int .i64 n ∧ s 13 = .int .i64 i ∧ H = [dr 0 st, rw_ (ints .i64 (io n i))], n, ⟨0, by omega, rfl, ?_, ?_, ?_, ?_, ?_, ?_⟩, ?_⟩
  · simp only [e_upd, e_putS, e_putN, e_t, e_c, Nat.reduceEqDiff, ↓reduceIte, reduceCtorEq, Nat.reduceAdd, e0]
  · simp only [e_upd, e_putS, e_putN, e_t, e_c, Nat.reduceEqDiff, ↓reduceIte, reduceCtorEq, Nat.reduceAdd, e1]
  · simp only [e_upd, e_putS, e_putN, e_t, e_c, Nat.reduceEqDiff, ↓reduceIte, reduceCtorEq, Nat.reduceAdd]; rfl
  · simp only [e_upd, e_putS, e_putN, e_t, e_c, Nat.reduceEqDiff, ↓reduceIte, reduceCtorEq, Nat.reduceAdd, nat_toNat]
  · simp only [e_upd, e_putS, e_putN, e_t, e_c, Nat.reduceEqDiff, ↓reduceIte, reduceCtorEq, Nat.reduceAdd]; rfl
  · rw [io_zero]; rfl
  rintro t s H ⟨i, hi, rfl, h0, h1, h5, h12, h13, rfl⟩
  by_cases hlt : i < n
  · simp -implicitDefEqProofs (disch := omega) only [sN, ↓reduceIte, Nat.reduceEqDiff, Nat.reduceAdd, Nat.reduceMul, Nat.reduceSub, reduceCtorEq, e_none, e_some, e_bindS, h0, h1, h5, h12, h13]
    rw [x_store (r := 1) (off := i) (k := .i64) (b := (i : Int)) (l := io n i) (by simp only [e_upd, e_putS, e_putN, e_t, e_c, Nat.reduceEqDiff, ↓reduceIte, reduceCtorEq, Nat.reduceAdd]) (by simp only [e_upd, e_putS, e_putN, e_t, e_c, Nat.reduceEqDiff, ↓reduceIte, reduceCtorEq, Nat.reduceAdd]) rfl (by rw [io_length]; exact hlt), io_step hlt]
    simp -implicitDefEqProofs (disch := omega) only [sN, ↓reduceIte, Nat.reduceEqDiff, Nat.reduceAdd, Nat.reduceMul, Nat.reduceSub, reduceCtorEq, e_none, e_some, e_bindS, h0, h1, h5, h12, h13]
    refine loop_keep (m := n - (i + 1)) (by omega) ⟨i + 1, by omega, rfl, ?_, ?_, ?_, ?_, ?_, rfl⟩
    · simp only [e_upd, e_putS, e_putN, e_t, e_c, Nat.reduceEqDiff, ↓reduceIte, reduceCtorEq, Nat.reduceAdd, h0]
    · simp only [e_upd, e_putS, e_putN, e_t, e_c, Nat.reduceEqDiff, ↓reduceIte, reduceCtorEq, Nat.reduceAdd, h1]
    · simp only [e_upd, e_putS, e_putN, e_t, e_c, Nat.reduceEqDiff, ↓reduceIte, reduceCtorEq, Nat.reduceAdd, h5]
    · simp only [e_upd, e_putS, e_putN, e_t, e_c, Nat.reduceEqDiff, ↓reduceIte, reduceCtorEq, Nat.reduceAdd, h12]
    · simp only [e_upd, e_putS, e_putN, e_t, e_c, Nat.reduceEqDiff, ↓reduceIte, reduceCtorEq, Nat.reduceAdd]; rfl
  obtain rfl : i = n := by omega
  simp -implicitDefEqProofs (disch := omega) only [sN, ↓reduceIte, Nat.reduceEqDiff, Nat.reduceAdd, Nat.reduceMul, Nat.reduceSub, reduceCtorEq, e_none, e_some, e_bindS, h0, h1, h5, h12, h13]
  refine ⟨fun t s H => ∃ (k : Nat) (st' : Nat) (l : List Int), t = k ∧ k ≤ i - 1 ∧ l.length = i ∧ fy k st' l = fy (i - 1) st (io i i) ∧ s 1 = .bound 105 [.ptr 0 0] [] ∧ s 5 = .slice 1 0 i i ∧ s 7 = .int .i64 (if i = 0 then -1 else (k : Int)) ∧ H = [dr 0 st', rw_ (ints .i64 l)], i - 1, ⟨i - 1, st, io i i, rfl, by omega, io_length _ _, rfl, ?_, ?_, ?_, rfl⟩, ?_⟩
  · simp only [e_upd, e_putS, e_putN, e_t, e_c, Nat.reduceEqDiff, ↓reduceIte, reduceCtorEq, Nat.reduceAdd, h1]
  · simp only [e_upd, e_putS, e_putN, e_t, e_c, Nat.reduceEqDiff, ↓reduceIte, reduceCtorEq, Nat.reduceAdd, h5]
  · simp only [e_upd, e_putS, e_putN, e_t, e_c, Nat.reduceEqDiff, ↓reduceIte, reduceCtorEq, Nat.reduceAdd]
    congr 1
    split <;> omega
  rintro t s H ⟨k, st', l, rfl, hk, hl, hfy, h1, h5, h7, rfl⟩
  cases t with
  | succ k =>
    have hi0 : i ≠ 0 := by omega
    rw [if_neg hi0] at h7
    have hcast : (((k + 1 : Nat) : Int)) = (k : Int) + 1 := by omega
    rw [hcast] at h7
    simp -implicitDefEqProofs (disch := omega) only [sN, ↓reduceIte, Nat.reduceEqDiff, Nat.reduceAdd, Nat.reduceMul, Nat.reduceSub, reduceCtorEq, e_none, e_some, e_bindS, h1, h5, h7]
    have hb := below_calls st' (k + 2) (by omega) (by omega)
    rw [show (((k + 2 : Nat)) : Int) = (k : Int) + 1 + 1 by omega] at hb
    refine call_drG (r := 0) (st := st') hb rfl rfl rfl ?_ (fun v H' h => ⟨_, _, h.2⟩)
    rintro v0 st2 new ⟨rfl, h2⟩
    obtain ⟨rfl, rfl⟩ : Gf.nextS st' = st2 ∧ new = [] := by
      simp only [dr, List.cons.injEq, Option.some.injEq, ARow.mk.injEq, AV.int.injEq, true_and, and_true] at h2
      exact ⟨by omega, h2.2⟩
    rw [n_int]
    rw [show [dr 0 st', rw_ (ints .i64 l)].set 0 (dr 0 (Gf.nextS st')) ++ List.map (renRow (sig [(0, 0)] [dr 0 st', rw_ (ints .i64 l)].length)) [] = [dr 0 (Gf.nextS st'), rw_ (ints .i64 l)] from rfl]
    obtain ⟨j, hj⟩ : ∃ j, Gf.draw st' % (k + 2) = j := ⟨_, rfl⟩
    have hjlt : j < k + 2 := by rw [← hj]; exact Nat.mod_lt _ (by omega)
    rw [hj]
    have hk1 : ((k : Int) + 1).toNat = k + 1 := by omega
    simp -implicitDefEqProofs (disch := omega) only [sN, ↓reduceIte, Nat.reduceEqDiff, Nat.reduceAdd, Nat.reduceMul, Nat.reduceSub, reduceCtorEq, e_none, e_some, e_bindS, h1, h5, h7, ints_get, hl, hk1]
    rw [x_store (r := 1) (off := k + 1) (k := .i64) (b := l.getD j 0) (l := l) (by simp only [e_upd, e_putS, e_putN, e_t, e_c, Nat.reduceEqDiff, ↓reduceIte, reduceCtorEq, Nat.reduceAdd]) (by simp only [e_upd, e_putS, e_putN, e_t, e_c, Nat.reduceEqDiff, ↓reduceIte, reduceCtorEq, Nat.reduceAdd]) rfl (by omega)]
    simp -implicitDefEqProofs (disch := omega) only [sN, ↓reduceIte, Nat.reduceEqDiff, Nat.reduceAdd, Nat.reduceMul, Nat.reduceSub, reduceCtorEq, e_none, e_some, e_bindS, h1, h5, h7, hl, hk1]
    rw [x_store (r := 1) (off := j) (k := .i64) (b := l.getD (k + 1) 0) (l := l.set (k + 1) (l.getD j 0)) (by simp only [e_upd, e_putS, e_putN, e_t, e_c, Nat.reduceEqDiff, ↓reduceIte, reduceCtorEq, Nat.reduceAdd]) (by simp only [e_upd, e_putS, e_putN, e_t, e_c, Nat.reduceEqDiff, ↓reduceIte, reduceCtorEq, Nat.reduceAdd]) rfl (by rw [List.length_set]; omega)]
    simp -implicitDefEqProofs (disch := omega) only [sN, ↓reduceIte, Nat.reduceEqDiff, Nat.reduceAdd, Nat.reduceMul, Nat.reduceSub, reduceCtorEq, e_none, e_some, e_bindS, h1, h5, h7, hl, hk1]
    refine loop_keep (m := k) (by omega) ⟨k, Gf.nextS st', swapL l (k + 1) j, rfl, by omega, by rw [swapL_length, hl], ?_, ?_, ?_, ?_, rfl⟩
    · rw [← hfy, fy, hj]
    · simp only [e_upd, e_putS, e_putN, e_t, e_c, Nat.reduceEqDiff, ↓reduceIte, reduceCtorEq, Nat.reduceAdd, h1]
    · simp only [e_upd, e_putS, e_putN, e_t, e_c, Nat.reduceEqDiff, ↓reduceIte, reduceCtorEq, Nat.reduceAdd, h5]
    · simp only [e_upd, e_putS, e_putN, e_t, e_c, Nat.reduceEqDiff, ↓reduceIte, reduceCtorEq, Nat.reduceAdd, if_neg hi0]
      congr 1; omega
  | zero =>
    simp only [fy] at hfy
    have h7' : s 7 = .int .i64 (if i = 0 then -1 else 0) := h7
    have hd : decide ((1 : Int) ≤ (if i = 0 then -1 else 0)) = false := by
      rw [decide_eq_false_iff_not]; split <;> omega
    simp -implicitDefEqProofs (disch := omega) only [sN, ↓reduceIte, Nat.reduceEqDiff, Nat.reduceAdd, Nat.reduceMul, Nat.reduceSub, reduceCtorEq, e_none, e_some, e_bindS, h1, h5, h7', hd]
    refine ret_keep (by simp) ⟨?_, ?_⟩
    · simp only [e_upd, e_putS, e_putN, e_t, e_c, Nat.reduceEqDiff, ↓reduceIte, reduceCtorEq, Nat.reduceAdd]
    · rw [pst, pml, ← hfy]
end Go.Proofs.Ythbhljolpnbdlaa.S2



/- Contracts: Copy, Perm, Clone, Sample. -/
-- NEWSET
namespace Go.Proofs.Ythbhljolpnbdlaa.S2
open Go Go.Vh

/-- A slice of nothing: nil, or not. -/
theorem ACallsG.split0 {P : Program} {γ : Nat → AV} {f : FuncId} {rest : List AV} {H : AHeap} {W : List Nat} {R : AV → AHeap → Prop} {r o : Nat} (h1 : ACallsG P γ f (.nilslice :: rest) H W R)
    (h2 : ∀ a, ACallsG P γ f (.lit (.slice (some a) 0 0) :: rest) H W R) : ACallsG P γ f (.slice r o 0 0 :: rest) H W R := by
  refine ⟨h1.ent, fun ρ w vs hs hv hg => ?_⟩
  cases hv with
  | cons _ v _ vs hx ht =>
    rcases hx.slice_inv with ⟨x, hx, _, rfl⟩ | ⟨_, _, a, rfl⟩
    · exact (h2 _).calls ρ w _ hs (.cons _ _ _ _ (.lit _) ht) hg
    · cases a with
      | none => exact h1.calls ρ w _ hs (.cons _ _ _ _ .nilslice ht) hg
      | some a => exact (h2 a).calls ρ w _ hs (.cons _ _ _ _ (.lit _) ht) hg

/-- numbers that lie in a new row, their own -/
def NewI (base : AHeap) (l : List Int) (v : AV) (H : AHeap) : Prop := ∃ κ b, okS κ l.length ∧ v = mkS κ base.length 0 l.length ∧ H = base ++ [some ⟨true, b, ints .i64 l⟩]

theorem clone_calls (k c : Nat) (l : List Int) (hk : k ≤ c) (hl : k ≤ l.length) (hn : l.length ≤ 1000000) : ACalls Try.prog 71 [.slice 0 0 k c] [ro (ints .i64 l)] [0] (NewI [ro (ints .i64 l)] (l.take k)) := by
  have hb0 : ∀ (s : St) (H : AHeap), ieff (.buildSlice 0 [] []) s H = some (.slice H.length 0 0 0, H ++ [rw_ []]) := fun s H => by
    simp [ieff, afill, anew, rw_]
  have hlt : (l.take k).length = k := by rw [List.length_take]; omega
  have main : ∀ x : AV, alen x = some k → asrc 1 x [ro (ints .i64 l), rw_ []] = some (ints .i64 (l.take k)) → anil x = some false → ACalls Try.prog 71 [x] [ro (ints .i64 l)] [0] (NewI [ro (ints .i64 l)] (l.take k)) := by
    intro x h1 h2 h3
    refine ACalls.body Try.func71 ent_clone ir_clone_ok rs_clone_ok Try.ntmps71 (by simp) rfl ?_
    unfold ir_clone
    have e0 : s0 [x] 0 = x := rfl
    have hnil : ∀ s : St, s 3 = x → ipure (.isNil false (.t 3) (.c .nilslice)) s = some (.bool false) := fun s h => by
      simp only [ipure, e_t, e_c, h, h3, show anil .nilslice = some true from rfl]
      rfl
    have happ : ∀ (s : St), s 5 = .slice 1 0 0 0 → s 6 = x → ieff (.append 1 8 (.t 5) (.t 6)) s [ro (ints .i64 l), rw_ []] = some (.sliceU 2 0 k 1, [ro (ints .i64 l), rw_ [], sl (ints .i64 (l.take k))]) := fun s h5 h6 => by
      simp only [ieff, e_t, h5, h6, h1, h2, Option.bind_some, aappend, Nat.zero_add]
      rw [if_pos (by omega)]
      simp [anew, ints_cell, sl]
    simp -implicitDefEqProofs (disch := omega) only [sN, ↓reduceIte, Nat.reduceEqDiff, Nat.reduceAdd, Nat.reduceMul, Nat.reduceSub, reduceCtorEq, e_none, e_some, e_bindS, e0]
    rw [hnil _ (by simp only [e_upd, e_putS, e_putN, e_t, e_c, Nat.reduceEqDiff, ↓reduceIte, reduceCtorEq, Nat.reduceAdd])]
    simp -implicitDefEqProofs (disch := omega) only [sN, ↓reduceIte, Nat.reduceEqDiff, Nat.reduceAdd, Nat.reduceMul, Nat.reduceSub, reduceCtorEq, e_none, e_some, e_bindS, e0, hb0, List.cons_append, List.nil_append]
    rw [happ _ (by simp only [e_upd, e_putS, e_putN, e_t, e_c, Nat.reduceEqDiff, ↓reduceIte, reduceCtorEq, Nat.reduceAdd]; rfl) (by simp only [e_upd, e_putS, e_putN, e_t, e_c, Nat.reduceEqDiff, ↓reduceIte, reduceCtorEq, Nat.reduceAdd])]
    simp -implicitDefEqProofs (disch := omega) only [sN, ↓reduceIte, Nat.reduceEqDiff, Nat.reduceAdd, Nat.reduceMul, Nat.reduceSub, reduceCtorEq, e_none, e_some, e_bindS]
    refine ret_gc [0, 2] rfl ?_ (by simp) ?_
    · simp [gcH, Vh.rowAt, ro, sl, ints_ren, ints_cell]
    · unfold rs_clone; rw [q_tmp, q_then]
      refine ⟨.u, true, trivial, ?_, ?_⟩
      · rw [hlt]; exact gc_at (v := .sliceU 2 0 k 1) (by simp only [e_upd, e_putS, e_putN, e_t, e_c, Nat.reduceEqDiff, ↓reduceIte, reduceCtorEq, Nat.reduceAdd]) rfl
      · simp [gcH, Vh.rowAt, ro, sl, ints_ren]
  rcases Nat.eq_zero_or_pos c with h0 | hc
  · subst h0
    obtain rfl : k = 0 := by omega
    refine ACallsG.split0 ?_ fun a => main _ rfl ?_ rfl
    · refine ACalls.body Try.func71 ent_clone ir_clone_ok rs_clone_ok Try.ntmps71 (by simp) rfl ?_
      unfold ir_clone
      have e0 : s0 [.nilslice] 0 = .nilslice := rfl
      have hnil : ∀ s : St, s 3 = .nilslice → ipure (.isNil false (.t 3) (.c .nilslice)) s = some (.bool true) := fun s h => by
        simp only [ipure, e_t, e_c, h, anil]
        rfl
      simp -implicitDefEqProofs (disch := omega) only [sN, ↓reduceIte, Nat.reduceEqDiff, Nat.reduceAdd, Nat.reduceMul, Nat.reduceSub, reduceCtorEq, e_none, e_some, e_bindS, e0]
      rw [hnil _ (by simp only [e_upd, e_putS, e_putN, e_t, e_c, Nat.reduceEqDiff, ↓reduceIte, reduceCtorEq, Nat.reduceAdd])]
      simp -implicitDefEqProofs (disch := omega) only [sN, ↓reduceIte, Nat.reduceEqDiff, Nat.reduceAdd, Nat.reduceMul, Nat.reduceSub, reduceCtorEq, e_none, e_some, e_bindS, e0]
      refine ⟨_, _, Weak.pad, by simp, ?_⟩
      unfold rs_clone; rw [q_tmp, q_then]
      refine ⟨.nil, false, rfl, ?_, rfl⟩
      simp only [e_upd, e_putS, e_putN, e_t, e_c, Nat.reduceEqDiff, ↓reduceIte, reduceCtorEq, Nat.reduceAdd]; rfl
    · simp [asrc, ints]
  · refine main _ rfl ?_ ?_
    · by_cases h0 : k = 0
      · subst h0; simp [asrc, ints]
      · simp [asrc, h0, cellsAt, Vh.rowAt, ro, ints_length, hl, ints_take]
    · simp only [anil]
      rw [if_neg (by omega)]

theorem dSample_calls (st n k : Nat) (hn : n ≤ 65536) (hk : k ≤ n) : ACalls Try.prog 73 [.ptr 0 0, .int .i64 n, .int .i64 k] [dr 0 st] [0] fun v H => ∃ κ b, okS κ k ∧ v = .tuple [mkS κ 1 0 k, .int .i64 0] ∧ H = [dr 0 (pst n st), some ⟨true, b, ints .i64 (srt ((pml n st).take k))⟩] := by
  refine ACalls.body Try.func73 ent_dSample ir_dSample_ok rs_dSample_ok Try.ntmps73 (by simp) rfl ?_
  unfold ir_dSample
  have e0 : s0 [.ptr 0 0, .int .i64 (n : Int), .int .i64 (k : Int)] 0 = .ptr 0 0 := rfl
  have e1 : s0 [.ptr 0 0, .int .i64 (n : Int), .int .i64 (k : Int)] 1 = .int .i64 n := rfl
  have e2 : s0 [.ptr 0 0, .int .i64 (n : Int), .int .i64 (k : Int)] 2 = .int .i64 k := rfl
  have hd : decide (0 ≤ (n : Int) ∧ (n : Int) ≤ 65536) = true := by rw [decide_eq_true_eq]; omega
  have hpl := pml_length n st
  have htl : ((pml n st).take k).length = k := by rw [List.length_take]; omega
  have hsl : (srt ((pml n st).take k)).length = k := by rw [srt, List.length_mergeSort, htl]
  simp -implicitDefEqProofs (disch := omega) only [sN, ↓reduceIte, Nat.reduceEqDiff, Nat.reduceAdd, Nat.reduceMul, Nat.reduceSub, reduceCtorEq, e_none, e_some, e_bindS, e0, e1, e2]
  refine call_dr (st := st) (st' := st) (r := 0) (rest := []) (dValid_calls st) rfl rfl rfl rfl ?_
  simp -implicitDefEqProofs (disch := omega) only [sN, ↓reduceIte, Nat.reduceEqDiff, Nat.reduceAdd, Nat.reduceMul, Nat.reduceSub, reduceCtorEq, e_none, e_some, e_bindS, p_makeFunc, p_makeBound, p_field, p_fieldAddr, p_nilCheck, p_build, p_eqPtr, p_binB, p_lenStr, x_alloc, x_box, x_loadN, x_put, anew, aput, cellsAt, Vh.rowAt, afill, aparts, AV.cell, splice, aptr, List.all_cons, List.all_nil, Bool.and_self, Bool.and_true, Bool.true_and, List.length_cons, List.length_nil, List.nil_append, List.cons_append, List.map_cons, List.map_nil, List.take_succ_cons, List.take_zero, List.drop_succ_cons, List.drop_zero, List.take_nil, List.drop_nil, List.getElem?_cons_zero, List.getElem?_cons_succ, List.getElem?_nil, Option.getD_some, Option.getD_none, Option.bind_some, Option.map_some, List.set_cons_zero, List.set_cons_succ, List.set_nil, List.append_nil, Nat.le_refl, Nat.reduceLeDiff, and_self, and_true, true_and, Bool.false_eq_true, Bool.not_true, Bool.not_false, e0, e1, e2]
  refine call_sc (isLength_calls n) rfl rfl (fun _ => rfl) ?_
  simp -implicitDefEqProofs (disch := omega) only [sN, ↓reduceIte, Nat.reduceEqDiff, Nat.reduceAdd, Nat.reduceMul, Nat.reduceSub, reduceCtorEq, e_none, e_some, e_bindS, p_makeFunc, p_makeBound, p_field, p_fieldAddr, p_nilCheck, p_build, p_eqPtr, p_binB, p_lenStr, x_alloc, x_box, x_loadN, x_put, anew, aput, cellsAt, Vh.rowAt, afill, aparts, AV.cell, splice, aptr, List.all_cons, List.all_nil, Bool.and_self, Bool.and_true, Bool.true_and, List.length_cons, List.length_nil, List.nil_append, List.cons_append, List.map_cons, List.map_nil, List.take_succ_cons, List.take_zero, List.drop_succ_cons, List.drop_zero, List.take_nil, List.drop_nil, List.getElem?_cons_zero, List.getElem?_cons_succ, List.getElem?_nil, Option.getD_some, Option.getD_none, Option.bind_some, Option.map_some, List.set_cons_zero, List.set_cons_succ, List.set_nil, List.append_nil, Nat.le_refl, Nat.reduceLeDiff, and_self, and_true, true_and, Bool.false_eq_true, Bool.not_true, Bool.not_false, e0, e1, e2, hd]
  refine call_drG (r := 0) (st := st) (perm_calls st n hn) rfl rfl rfl ?_ (fun v H' h => ⟨_, _, h.2⟩)
  rintro v0 st2 new ⟨rfl, h2⟩
  obtain ⟨rfl, rfl⟩ : pst n st = st2 ∧ new = [rw_ (ints .i64 (pml n st))] := by
    simp only [dr, List.cons.injEq, Option.some.injEq, ARow.mk.injEq, AV.int.injEq, true_and, and_true] at h2
    exact ⟨by omega, h2.2⟩
  simp only [List.map_cons, List.map_nil, m_renRw, ints_ren]
  rw [n_slice (r' := 1) (d := 0) rfl, show [dr 0 st].set 0 (dr 0 (pst n st)) ++ [rw_ (ints .i64 (pml n st))] = [dr 0 (pst n st), rw_ (ints .i64 (pml n st))] from rfl]
  simp -implicitDefEqProofs (disch := omega) only [sN, ↓reduceIte, Nat.reduceEqDiff, Nat.reduceAdd, Nat.reduceMul, Nat.reduceSub, reduceCtorEq, e_none, e_some, e_bindS, p_makeFunc, p_makeBound, p_field, p_fieldAddr, p_nilCheck, p_build, p_eqPtr, p_binB, p_lenStr, x_alloc, x_box, x_loadN, x_put, anew, aput, cellsAt, Vh.rowAt, afill, aparts, AV.cell, splice, aptr, List.all_cons, List.all_nil, Bool.and_self, Bool.and_true, Bool.true_and, List.length_cons, List.length_nil, List.nil_append, List.cons_append, List.map_cons, List.map_nil, List.take_succ_cons, List.take_zero, List.drop_succ_cons, List.drop_zero, List.take_nil, List.drop_nil, List.getElem?_cons_zero, List.getElem?_cons_succ, List.getElem?_nil, Option.getD_some, Option.getD_none, Option.bind_some, Option.map_some, List.set_cons_zero, List.set_cons_succ, List.set_nil, List.append_nil, Nat.le_refl, Nat.reduceLeDiff, and_self, and_true, true_and, Bool.false_eq_true, Bool.not_true, Bool.not_false, e0, e1, e2, Nat.zero_mul, Nat.sub_zero]
  refine call_ints (κ := .cap n) (r := 1) (row := ⟨true, false, ints .i64 (pml n st)⟩) (clone_calls k n (pml n st) hk (by omega) (by omega)) rfl rfl ?_ rfl ?_
  · rw [List.take_of_length_le (by rw [ints_length]; omega)]
  rintro v0 H0' ⟨κ, b, hok, rfl, rfl⟩
  rw [n_mkS (r' := 2) (d := 0) rfl, htl, show (List.map (renRow (sig [(1, 0)] [dr 0 (pst n st), rw_ (ints .i64 (pml n st))].length)) (([ro (ints .i64 (pml n st))] ++ [some (⟨true, b, ints .i64 ((pml n st).take k)⟩ : ARow)]).drop 1)) = [some ⟨true, b, ints .i64 ((pml n st).take k)⟩] by simp [renRow, ints_ren]]
  rw [htl] at hok
  simp -implicitDefEqProofs (disch := omega) only [sN, ↓reduceIte, Nat.reduceEqDiff, Nat.reduceAdd, Nat.reduceMul, Nat.reduceSub, reduceCtorEq, e_none, e_some, e_bindS, p_makeFunc, p_makeBound, p_field, p_fieldAddr, p_nilCheck, p_build, p_eqPtr, p_binB, p_lenStr, x_alloc, x_box, x_loadN, x_put, anew, aput, cellsAt, Vh.rowAt, afill, aparts, AV.cell, splice, aptr, List.all_cons, List.all_nil, Bool.and_self, Bool.and_true, Bool.true_and, List.length_cons, List.length_nil, List.nil_append, List.cons_append, List.map_cons, List.map_nil, List.take_succ_cons, List.take_zero, List.drop_succ_cons, List.drop_zero, List.take_nil, List.drop_nil, List.getElem?_cons_zero, List.getElem?_cons_succ, List.getElem?_nil, Option.getD_some, Option.getD_none, Option.bind_some, Option.map_some, List.set_cons_zero, List.set_cons_succ, List.set_nil, List.append_nil, Nat.le_refl, Nat.reduceLeDiff, and_self, and_true, true_and, Bool.false_eq_true, Bool.not_true, Bool.not_false, e0, e1, e2, Nat.add_zero, List.cons_append, List.nil_append]
  have hs := sort_calls κ ((pml n st).take k) b (by rw [htl]; exact hok) (by rw [htl]; omega)
  rw [htl] at hs
  refine call_do hs [(2, 0)] rfl ?_ rfl ?_ ?_ ?_
  · simp [underL, mkS_under]
  · rw [n_lcons, n_lnil, n_mkS (r' := 2) (d := 0) rfl]; rfl
  · refine ⟨⟨⟨true, b, ints .i64 ((pml n st).take k)⟩, rfl, by simp, ?_, flatL_under ints_flat, fun _ => ⟨rfl, rfl, rfl, rfl⟩⟩, trivial⟩
    rw [ints_ren, List.drop_zero, List.take_length]
  rintro v0 H0' ⟨rfl, rfl⟩
  have hm : merge [dr 0 (pst n st), rw_ (ints .i64 (pml n st)), some (⟨true, b, ints .i64 ((pml n st).take k)⟩ : ARow)] [(2, 0)] [some (⟨true, b, ints .i64 ((pml n st).take k)⟩ : ARow)] [some (⟨true, b, ints .i64 (srt ((pml n st).take k))⟩ : ARow)] = [dr 0 (pst n st), rw_ (ints .i64 (pml n st)), some ⟨true, b, ints .i64 (srt ((pml n st).take k))⟩] := by
    simp [merge, mergeGo, renRow, Vh.rowAt, ints_ren]
  rw [hm]
  simp -implicitDefEqProofs (disch := omega) only [sN, ↓reduceIte, Nat.reduceEqDiff, Nat.reduceAdd, Nat.reduceMul, Nat.reduceSub, reduceCtorEq, e_none, e_some, e_bindS, p_makeFunc, p_makeBound, p_field, p_fieldAddr, p_nilCheck, p_build, p_eqPtr, p_binB, p_lenStr, x_alloc, x_box, x_loadN, x_put, anew, aput, cellsAt, Vh.rowAt, afill, aparts, AV.cell, splice, aptr, List.all_cons, List.all_nil, Bool.and_self, Bool.and_true, Bool.true_and, List.length_cons, List.length_nil, List.nil_append, List.cons_append, List.map_cons, List.map_nil, List.take_succ_cons, List.take_zero, List.drop_succ_cons, List.drop_zero, List.take_nil, List.drop_nil, List.getElem?_cons_zero, List.getElem?_cons_succ, List.getElem?_nil, Option.getD_some, Option.getD_none, Option.bind_some, Option.map_some, List.set_cons_zero, List.set_cons_succ, List.set_nil, List.append_nil, Nat.le_refl, Nat.reduceLeDiff, and_self, and_true, true_and, Bool.false_eq_true, Bool.not_true, Bool.not_false, e0, e1, e2]
  refine ret_gc [0, 2] rfl ?_ (by simp) ?_
  · simp [gcH, Vh.rowAt, dr, ints_ren, ints_cell, n_lcons, n_lnil, n_int, n_ptr (σ := gcSig [0, 2]) (r := 0) (off := 0) (r' := 0) (d := 0) rfl, AV.cell]
  · refine ⟨κ, b, hok, ?_, ?_⟩
    · simp only [gcS, e_upd, e_putS, e_putN, e_t, e_c, Nat.reduceEqDiff, ↓reduceIte, reduceCtorEq, Nat.reduceAdd, n_int]
      rw [n_mkS (r' := 1) (d := 0) rfl]
    · simp [gcH, Vh.rowAt, dr, ints_ren, n_lcons, n_lnil, n_int, n_ptr (σ := gcSig [0, 2]) (r := 0) (off := 0) (r' := 0) (d := 0) rfl]
end Go.Proofs.Ythbhljolpnbdlaa.S2



/- Facts on orders; two lists of numbers compared. -/
-- NEWSET
namespace Go.Proofs.Ythbhljolpnbdlaa.S2
open Go Go.Vh

theorem swapL_perm {l : List Int} {i j : Nat} (hi : i < l.length) (hj : j < l.length) : (swapL l i j).Perm l := by
  have := List.set_set_perm hi hj
  unfold swapL
  simp only [List.getD_eq_getElem?_getD, List.getElem?_eq_getElem hi, List.getElem?_eq_getElem hj, Option.getD_some]
  exact this
theorem fy_perm : ∀ (i st : Nat) (l : List Int), i < l.length ∨ i = 0 → (fy i st l).2.Perm l
  | 0, _, _, _ => List.Perm.refl _
  | i + 1, st, l, h => by
    rw [fy]
    have hj : Gf.draw st % (i + 2) < i + 2 := Nat.mod_lt _ (by omega)
    refine (fy_perm i _ _ ?_).trans (swapL_perm (by omega) (by omega))
    rw [swapL_length]; omega
theorem io_map (n : Nat) : io n n = (List.range n).map fun (j : Nat) => (j : Int) := by
  apply List.map_congr_left
  intro j hj
  rw [List.mem_range] at hj
  rw [if_pos hj]
theorem pml_perm (n st : Nat) : (pml n st).Perm ((List.range n).map fun (j : Nat) => (j : Int)) := by
  rw [← io_map]
  exact fy_perm _ _ _ (by rw [io_length]; omega)
theorem range_nodup (n : Nat) : ((List.range n).map fun (j : Nat) => (j : Int)).Nodup := by
  refine List.Pairwise.map _ (fun a b h => ?_) (List.nodup_range (n := n))
  intro e; exact h (by omega)
theorem pml_nodup (n st : Nat) : (pml n st).Nodup := (pml_perm n st).symm.nodup (range_nodup n)
/-- a sample in order -/
abbrev smp (n k st : Nat) : List Int := srt ((pml n st).take k)
theorem smp_length {n k st : Nat} (h : k ≤ n) : (smp n k st).length = k := by
  rw [smp, srt, List.length_mergeSort, List.length_take, pml_length]; omega
theorem smp_lt {n k st i : Nat} (hk : k ≤ n) (h : i + 1 < k) : (smp n k st).getD i 0 < (smp n k st).getD (i + 1) 0 := by
  have hl := smp_length (st := st) hk
  have hs : List.Pairwise (fun a b : Int => decide (a ≤ b) = true) (smp n k st) := List.pairwise_mergeSort (fun a b c h1 h2 => by simp only [decide_eq_true_eq] at *; omega) (fun a b => by simp only [Bool.or_eq_true, decide_eq_true_eq]; omega) _
  have hn : (smp n k st).Nodup := (List.mergeSort_perm _ _).symm.nodup (List.Nodup.sublist (List.take_sublist _ _) (pml_nodup n st))
  have h1 := List.pairwise_iff_getElem.1 hs i (i + 1) (by omega) (by omega) (by omega)
  have h2 := List.pairwise_iff_getElem.1 hn i (i + 1) (by omega) (by omega) (by omega)
  simp only [List.getD_eq_getElem?_getD]
  rw [List.getElem?_eq_getElem (by omega), List.getElem?_eq_getElem (by omega)]
  simp only [decide_eq_true_eq, Option.getD_some] at *
  omega

end Go.Proofs.Ythbhljolpnbdlaa.S2


