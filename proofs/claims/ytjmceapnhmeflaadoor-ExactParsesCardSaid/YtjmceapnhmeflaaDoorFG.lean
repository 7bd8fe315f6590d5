/- Contracts: firstError; numbers above a base of rows. -/
import Derived.Test.YtjmceapnhmeflaaDoorVX
import Derived.Test.YtjmceapnhmeflaaDoorFF
import Derived.Test.YtjmceapnhmeflaaDoorIrC
set_option linter.unusedSimpArgs false
set_option linter.unusedVariables false
-- NEWSET
namespace Go.Proofs.YtjmceapnhmeflaaDoor
open Go Go.Vh

section
variable {s : St} {H : AHeap}
theorem x_boxA {x : Opd} {v : AV} (hx : evo s x = v) (hc : v.cell = true) : ieff (.box x) s H = some (.ptr H.length 0, H ++ [rw_ [v]]) := by
  simp [ieff, hx, aparts_cell hc, anew, hc, rw_]
theorem x_allocA {l : List AV} (hc : l.all AV.cell = true) : ieff (.alloc l) s H = some (.ptr H.length 0, H ++ [rw_ l]) := by
  simp only [ieff, anew, hc, if_true, Option.map_some, rw_]
theorem x_loadNA {x : Opd} {r : Nat} {row : ARow} {l : List AV} {n : Nat} (hx : evo s x = .ptr r 0) (hr : Vh.rowAt H r = some row) (hc : row.cells = l) (hn : l.length = n) : ieff (.loadN n x) s H = some (.agg l, H) := by
  simp only [ieff, hx, cellsAt, hr, Option.bind_some, hc, Nat.zero_add, hn, Nat.le_refl, if_true, List.drop_zero, Option.map_some]
  rw [← hn, List.take_length]
theorem splice_one {l : List AV} {off : Nat} {v : AV} (h : off < l.length) : splice l off [v] = l.set off v := by
  apply List.ext_getElem?
  intro i
  simp only [splice, List.length_cons, List.length_nil, Nat.zero_add, List.append_assoc, List.getElem?_append, List.length_take, List.getElem?_take, List.getElem?_drop, List.getElem?_set]
  rcases Nat.lt_trichotomy i off with h1 | h1 | h1
  · simp [show i < min off l.length by omega, h1, show off ≠ i by omega]
  · subst h1; simp [show ¬ i < min i l.length by omega, show i - min i l.length = 0 by omega, h]
  · simp [show ¬ i < min off l.length by omega, show ¬ (i - min off l.length < 1) by omega, show off ≠ i by omega]
    congr 1; omega
theorem x_store1A {x y : Opd} {r off : Nat} {v : AV} {l : List AV} (hx : evo s x = .ptr r off) (hy : evo s y = v) (hv : v.cell = true) (hr : Vh.rowAt H r = some ⟨true, false, l⟩) (ho : off < l.length) : ieff (.store 1 x y) s H = some (.any, H.set r (rw_ (l.set off v))) := by
  simp only [ieff, hx, hy, aparts_cell hv, List.length_cons, List.length_nil, Nat.zero_add, if_true, aput, hr, Option.bind_some]
  rw [if_pos ⟨trivial, by omega, by simp [hv]⟩, splice_one ho]
  rfl
theorem x_storeNA {x y : Opd} {r n : Nat} {l l' : List AV} (hx : evo s x = .ptr r 0) (hy : evo s y = .agg l') (hv : l'.all AV.cell = true) (hr : Vh.rowAt H r = some ⟨true, false, l⟩) (hn : l'.length = n) (hl : l.length = n) : ieff (.store n x y) s H = some (.any, H.set r (rw_ l')) := by
  have e : splice l 0 l' = l' := by
    simp only [splice, List.take_zero, List.nil_append, Nat.zero_add]
    rw [List.drop_eq_nil_of_le (by omega), List.append_nil]
  simp only [ieff, hx, hy, aparts, hn, if_true, aput, hr, Option.bind_some]
  rw [if_pos ⟨trivial, by omega, hv⟩, e]
  rfl
end

/-- A number among the rows above n. -/
def NumR (n : Nat) (R : AHeap) (w : AV) (x : Int) : Prop := (w = .nilslice ∧ x = 0) ∨ ∃ κ l row j, w = mkS κ (n + j) 0 l.length ∧ Vh.rowAt R j = some row ∧ NewNum x κ l row
section
variable {n : Nat} {B R R' : AHeap} {w : AV} {x : Int}
theorem NumR.nil : NumR n R .nilslice 0 := .inl ⟨rfl, rfl⟩
theorem NumR.app (h : NumR n R w x) : NumR n (R ++ R') w x := by
  rcases h with h | ⟨κ, l, row, j, h1, h2, h3⟩
  · exact .inl h
  · exact .inr ⟨κ, l, row, j, h1, by rw [rowAt_append_left (rowAt_lt h2)]; exact h2, h3⟩
theorem NumR.v (h : NumR B.length R w x) : NumV (B ++ R) w x B.length := by
  rcases h with h | ⟨κ, l, row, j, h1, h2, h3⟩
  · exact .inl h
  · exact .inr ⟨κ, l, row, B.length + j, by omega, h1, by rw [row_app]; exact h2, h3⟩
theorem NumV.r (h : NumV (B ++ R) w x n) (hn : B.length ≤ n) : NumR B.length R w x := by
  rcases h with h | ⟨κ, l, row, r, h1, h2, h3, h4⟩
  · exact .inl h
  · refine .inr ⟨κ, l, row, r - B.length, by rw [show B.length + (r - B.length) = r by omega]; exact h2, ?_, h4⟩
    rw [show r = B.length + (r - B.length) by omega, row_app] at h3
    exact h3
theorem NumR.cell (h : NumR n R w x) : w.cell = true := by
  rcases h with ⟨rfl, _⟩ | ⟨κ, l, row, j, rfl, h2, h3⟩
  · rfl
  · exact c_mkS
theorem NumV.cell {H : AHeap} (h : NumV H w x n) : w.cell = true := by
  rcases h with ⟨rfl, _⟩ | ⟨κ, l, row, j, _, rfl, h2, h3⟩
  · rfl
  · exact c_mkS
theorem NumR.at {k : Nat} (h : NumR B.length R w x) {row0 : ARow} (h0 : Vh.rowAt (B ++ R) 0 = some row0) (hx : x < BB ^ k) : ∃ r, AtK (B ++ R) w x r k := h.v.at h0 hx
end

set_option maxHeartbeats 1000000 in
theorem firstError_calls {fs : List AV} {S : Nat → AHeap → Prop} {E : Nat → Int → AHeap → Prop} {H0 : AHeap} {r n : Nat} (hS0 : S 0 H0) (hn' : n ≤ 100)
    (hrow : ∀ i H, S i H → ∃ row, Vh.rowAt H r = some row ∧ row.cells = fs) (hlen : ∀ i H, S i H → H0.length ≤ H.length) (hE : ∀ i e H, E i e H → H0.length ≤ H.length)
    (hstep : ∀ i, i < n → ∀ H, S i H → ∃ f caps, fs[i]? = some (.func f caps) ∧ ∃ W, ACalls Tryd.prog f caps H W fun v H' => ∃ e, v = .int .i64 e ∧ ((e = 0 ∧ S (i + 1) H') ∨ (e ≠ 0 ∧ E i e H'))) :
    ACalls Tryd.prog 92 [.slice r 0 n n] H0 (List.range H0.length) fun v H' => (v = .int .i64 0 ∧ S n H') ∨ ∃ i e, v = .int .i64 e ∧ e ≠ 0 ∧ E i e H' := by
  refine ACalls.body Tryd.func92 ent_firstError ir_firstError_ok rs_firstError_ok Tryd.ntmps92 (by simp) rfl ?_
  unfold ir_firstError
  have e0 : s0 [.slice r 0 n n] 0 = .slice r 0 n n := rfl
  simp -implicitDefEqProofs (disch := omega) only [sN, ↓reduceIte, Nat.reduceEqDiff, Nat.reduceAdd, Nat.reduceMul, Nat.reduceSub, reduceCtorEq, e_none, e_some, e_bindS, e0]
  refine ⟨fun m s H => ∃ i : Nat, m = n - i ∧ i ≤ n ∧ S i H ∧ s 6 = .slice r 0 n n ∧ s 7 = .int .i64 n ∧ s 8 = .int .i64 (i : Int), n, ⟨0, rfl, by omega, hS0, ?_, ?_, ?_⟩, ?_⟩
  · simp only [e_upd, e_putS, e_putN, e_t, e_c, Nat.reduceEqDiff, ↓reduceIte, reduceCtorEq, Nat.reduceAdd]
  · simp only [e_upd, e_putS, e_putN, e_t, e_c, Nat.reduceEqDiff, ↓reduceIte, reduceCtorEq, Nat.reduceAdd]
  · simp only [e_upd, e_putS, e_putN, e_t, e_c, Nat.reduceEqDiff, ↓reduceIte, reduceCtorEq, Nat.reduceAdd]; rfl
  rintro m s H ⟨i, rfl, hi, hS, h6, h7, h8⟩
  by_cases hlt : i < n
  · obtain ⟨row, hr, hc⟩ := hrow i H hS
    obtain ⟨f, caps, hf, W, hA⟩ := hstep i hlt H hS
    have ia : aindexAddr 1 (.slice r 0 n n) (.int .i64 (i : Int)) = some (.ptr r i) := by
      rw [a_idx (by omega) (by omega)]; simp
    have hce : row.cells[i]? = some (.func f caps) := by rw [hc, hf]
    simp -implicitDefEqProofs (disch := omega) only [sN, ↓reduceIte, Nat.reduceEqDiff, Nat.reduceAdd, Nat.reduceMul, Nat.reduceSub, reduceCtorEq, e_none, e_some, e_bindS, h6, h7, h8, ia, hr, hce, List.map_nil]
    refine ⟨W, ?_⟩
    rw [List.nil_append]
    refine hA.g.mono ?_
    rintro v H' ⟨e, rfl, ⟨rfl, hS'⟩ | ⟨he, hE'⟩⟩
    · simp -implicitDefEqProofs (disch := omega) only [sN, ↓reduceIte, Nat.reduceEqDiff, Nat.reduceAdd, Nat.reduceMul, Nat.reduceSub, reduceCtorEq, e_none, e_some, e_bindS, h6, h7, h8]
      refine loop_keep (m := n - (i + 1)) (by omega) ⟨i + 1, rfl, by omega, hS', ?_, ?_, ?_⟩
      · simp only [e_upd, e_putS, e_putN, e_t, e_c, Nat.reduceEqDiff, ↓reduceIte, reduceCtorEq, Nat.reduceAdd, h6]
      · simp only [e_upd, e_putS, e_putN, e_t, e_c, Nat.reduceEqDiff, ↓reduceIte, reduceCtorEq, Nat.reduceAdd, h7]
      · simp only [e_upd, e_putS, e_putN, e_t, e_c, Nat.reduceEqDiff, ↓reduceIte, reduceCtorEq, Nat.reduceAdd]; first | done | rfl
    · simp -implicitDefEqProofs (disch := omega) only [sN, ↓reduceIte, Nat.reduceEqDiff, Nat.reduceAdd, Nat.reduceMul, Nat.reduceSub, reduceCtorEq, e_none, e_some, e_bindS, h6, h7, h8]
      refine ret_keep (hE _ _ _ hE') (.inr ⟨i, e, ?_, he, hE'⟩)
      simp only [e_upd, e_putS, e_putN, e_t, e_c, Nat.reduceEqDiff, ↓reduceIte, reduceCtorEq, Nat.reduceAdd]
  · obtain rfl : i = n := by omega
    simp -implicitDefEqProofs (disch := omega) only [sN, ↓reduceIte, Nat.reduceEqDiff, Nat.reduceAdd, Nat.reduceMul, Nat.reduceSub, reduceCtorEq, e_none, e_some, e_bindS, h6, h7, h8]
    refine ret_keep (hlen _ _ hS) (.inl ⟨?_, hS⟩)
    simp only [e_upd, e_putS, e_putN, e_t, e_c, Nat.reduceEqDiff, ↓reduceIte, reduceCtorEq, Nat.reduceAdd]
end Go.Proofs.YtjmceapnhmeflaaDoor


/- Contracts: exact's reduced. -/
-- NEWSET
namespace Go.Proofs.YtjmceapnhmeflaaDoor
open Go Go.Vh

theorem in_quotient {x y : Int} (h0 : y ≠ 0) : In2 118 x y 100000 100000 [] (UpN (x / y)) := by
  intro κ κ' a b hk hk' hm hm' ha hb hx hy
  refine ⟨_, ACalls.body Tryd.func118 ent_quotient ir_quotient_ok rs_quotient_ok Tryd.ntmps118 (by simp) rfl ?_⟩
  unfold ir_quotient
  have e0 : s0 [mkS κ 0 0 a.length, mkS κ' 1 0 b.length] 0 = mkS κ 0 0 a.length := rfl
  have e1 : s0 [mkS κ 0 0 a.length, mkS κ' 1 0 b.length] 1 = mkS κ' 1 0 b.length := rfl
  have u0 : AtK [ro (ints .u32 a), ro (ints .u32 b)] (mkS κ 0 0 a.length) x 0 100000 := ⟨κ, a, _, hk, rfl, rfl, take_all, ha, hx, hm⟩
  have u1 : AtK [ro (ints .u32 a), ro (ints .u32 b)] (mkS κ' 1 0 b.length) y 1 100000 := ⟨κ', b, _, hk', rfl, rfl, take_all, hb, hy, hm'⟩
  simp -implicitDefEqProofs (disch := omega) only [sN, ↓reduceIte, Nat.reduceEqDiff, Nat.reduceAdd, Nat.reduceMul, Nat.reduceSub, reduceCtorEq, e_none, e_some, e_bindS, e0, e1]
  refine call_in2 (in_divide h0) rfl u0 u1 (hk_2 fun R w w2 hw hw2 => ?_)
  simp -implicitDefEqProofs (disch := omega) only [sN, ↓reduceIte, Nat.reduceEqDiff, Nat.reduceAdd, Nat.reduceMul, Nat.reduceSub, reduceCtorEq, e_none, e_some, e_bindS, List.getElem?_cons_zero, List.getElem?_cons_succ]
  refine ret_keep (by simp) ⟨R, rfl, ?_⟩
  simp only [e_upd, e_putS, e_putN, e_t, e_c, Nat.reduceEqDiff, ↓reduceIte, reduceCtorEq, Nat.reduceAdd]
  exact hw

section
variable (A B : List AV) (u v : AV)
/-- the steps of reduced -/
def rdF : List AV := [.func 116 [.ptr 2 0, .ptr 3 0, .ptr 6 0], .func 117 [.ptr 2 0, .ptr 6 0, .ptr 5 0], .func 119 [.ptr 3 0, .ptr 6 0, .ptr 5 0]]
def rdB (c f1 f2 : AV) : AHeap := [ro A, ro B, rw_ [u], rw_ [v], rw_ [.nilslice, .nilslice], rw_ [f1, f2], rw_ [c], rw_ rdF]
end

section
variable {a b : List Int} {u v : AV} {x y : Int}

theorem rd_step1 (hu : AtK [ro (ints .u32 a), ro (ints .u32 b)] u x 0 100000) (hv : AtK [ro (ints .u32 a), ro (ints .u32 b)] v y 1 100000) (R : AHeap) :
    ∃ W, ACalls Tryd.prog 116 [.ptr 2 0, .ptr 3 0, .ptr 6 0] (rdB (ints .u32 a) (ints .u32 b) u v .nilslice .nilslice .nilslice ++ R) W fun w H' => w = .int .i64 0 ∧ ∃ R' c, H' = rdB (ints .u32 a) (ints .u32 b) u v c .nilslice .nilslice ++ R' ∧ NumR 8 R' c ((Nat.gcd x.toNat y.toNat : Nat) : Int) := by
  refine ⟨_, ACalls.body Tryd.func116 ent_reduced1 ir_reduced1_ok rs_reduced1_ok Tryd.ntmps116 (by simp) rfl ?_⟩
  unfold ir_reduced1
  have e0 : s0 [.ptr 2 0, .ptr 3 0, .ptr 6 0] 0 = .ptr 2 0 := rfl
  have e1 : s0 [.ptr 2 0, .ptr 3 0, .ptr 6 0] 1 = .ptr 3 0 := rfl
  have e2 : s0 [.ptr 2 0, .ptr 3 0, .ptr 6 0] 2 = .ptr 6 0 := rfl
  have hu' : AtK (rdB (ints .u32 a) (ints .u32 b) u v .nilslice .nilslice .nilslice ++ R) u x 0 100000 := hu.keep rfl
  have hv' : AtK (rdB (ints .u32 a) (ints .u32 b) u v .nilslice .nilslice .nilslice ++ R) v y 1 100000 := hv.keep rfl
  have r2 : Vh.rowAt (rdB (ints .u32 a) (ints .u32 b) u v .nilslice .nilslice .nilslice ++ R) 2 = some ⟨true, false, [u]⟩ := rfl
  have r3 : Vh.rowAt (rdB (ints .u32 a) (ints .u32 b) u v .nilslice .nilslice .nilslice ++ R) 3 = some ⟨true, false, [v]⟩ := rfl
  simp -implicitDefEqProofs (disch := omega) only [sN, ↓reduceIte, Nat.reduceEqDiff, Nat.reduceAdd, Nat.reduceMul, Nat.reduceSub, reduceCtorEq, e_none, e_some, e_bindS, e0, e1, e2, r2, r3, List.getElem?_cons_zero, List.map_cons, List.map_nil]
  refine call_in2 in_gcd rfl hu' hv' (hk_N fun R' w hw => ?_)
  have hn : NumR 8 (R ++ R') w ((Nat.gcd x.toNat y.toNat : Nat) : Int) := by
    rw [List.append_assoc] at hw
    exact NumV.r (B := rdB (ints .u32 a) (ints .u32 b) u v .nilslice .nilslice .nilslice) hw (by simp)
  simp -implicitDefEqProofs (disch := omega) only [sN, ↓reduceIte, Nat.reduceEqDiff, Nat.reduceAdd, Nat.reduceMul, Nat.reduceSub, reduceCtorEq, e_none, e_some, e_bindS, e0, e1, e2]
  rw [x_store1A (r := 6) (off := 0) (v := w) (l := [.nilslice]) (by simp only [e_upd, e_putS, e_putN, e_t, e_c, Nat.reduceEqDiff, ↓reduceIte, reduceCtorEq, Nat.reduceAdd, e2]) (by simp only [e_upd, e_putS, e_putN, e_t, e_c, Nat.reduceEqDiff, ↓reduceIte, reduceCtorEq, Nat.reduceAdd]) hn.cell rfl (by simp)]
  simp -implicitDefEqProofs (disch := omega) only [sN, ↓reduceIte, Nat.reduceEqDiff, Nat.reduceAdd, Nat.reduceMul, Nat.reduceSub, reduceCtorEq, e_none, e_some, e_bindS]
  refine ret_keep (by simp [rdB]) ⟨?_, R ++ R', w, rfl, hn⟩
  simp only [e_upd, e_putS, e_putN, e_t, e_c, Nat.reduceEqDiff, ↓reduceIte, reduceCtorEq, Nat.reduceAdd]

theorem rd_step2 (hu : AtK [ro (ints .u32 a), ro (ints .u32 b)] u x 0 100000) {g : Int} (hg0 : g ≠ 0) (hg : g < BB ^ 100000) {c : AV} (R : AHeap) (hc : NumR 8 R c g) :
    ∃ W, ACalls Tryd.prog 117 [.ptr 2 0, .ptr 6 0, .ptr 5 0] (rdB (ints .u32 a) (ints .u32 b) u v c .nilslice .nilslice ++ R) W fun w H' => w = .int .i64 (if x / g < BB ^ 64 then 0 else 8) ∧ ∃ R' f, H' = rdB (ints .u32 a) (ints .u32 b) u v c f .nilslice ++ (R ++ R') ∧ NumR 8 (R ++ R') f (if x / g < BB ^ 64 then x / g else 0) := by
  refine ⟨_, ACalls.body Tryd.func117 ent_reduced2 ir_reduced2_ok rs_reduced2_ok Tryd.ntmps117 (by simp) rfl ?_⟩
  unfold ir_reduced2
  have e0 : s0 [.ptr 2 0, .ptr 6 0, .ptr 5 0] 0 = .ptr 2 0 := rfl
  have e1 : s0 [.ptr 2 0, .ptr 6 0, .ptr 5 0] 1 = .ptr 6 0 := rfl
  have e2 : s0 [.ptr 2 0, .ptr 6 0, .ptr 5 0] 2 = .ptr 5 0 := rfl
  have hu' : AtK (rdB (ints .u32 a) (ints .u32 b) u v c .nilslice .nilslice ++ R) u x 0 100000 := hu.keep rfl
  obtain ⟨rc, hc'⟩ := NumR.at (B := rdB (ints .u32 a) (ints .u32 b) u v c .nilslice .nilslice) (k := 100000) hc (row0 := ⟨false, false, ints .u32 a⟩) rfl hg
  have r2 : Vh.rowAt (rdB (ints .u32 a) (ints .u32 b) u v c .nilslice .nilslice ++ R) 2 = some ⟨true, false, [u]⟩ := rfl
  have r6 : Vh.rowAt (rdB (ints .u32 a) (ints .u32 b) u v c .nilslice .nilslice ++ R) 6 = some ⟨true, false, [c]⟩ := rfl
  simp -implicitDefEqProofs (disch := omega) only [sN, ↓reduceIte, Nat.reduceEqDiff, Nat.reduceAdd, Nat.reduceMul, Nat.reduceSub, reduceCtorEq, e_none, e_some, e_bindS, e0, e1, e2, r2, r6, List.getElem?_cons_zero, List.map_cons, List.map_nil]
  refine call_in2 (in_quotient hg0) rfl hu' hc' (hk_N fun R' w hw => ?_)
  have hlt := hu'.lt_pow
  have hx0 := hu'.nonneg
  have hq : x / g < BB ^ 100000 := by
    have := hw.nonneg
    exact Int.lt_of_le_of_lt (Int.ediv_le_self g hx0) hlt
  simp -implicitDefEqProofs (disch := omega) only [sN, ↓reduceIte, Nat.reduceEqDiff, Nat.reduceAdd, Nat.reduceMul, Nat.reduceSub, reduceCtorEq, e_none, e_some, e_bindS, List.map_cons, List.map_nil]
  refine call_fit (row0 := ⟨false, false, ints .u32 a⟩) hw rfl hq (by omega) fun w' hw' => ?_
  have hn : NumR 8 (R ++ R') w' (if x / g < BB ^ 64 then x / g else 0) := by
    rw [List.append_assoc] at hw'
    exact NumV.r (B := rdB (ints .u32 a) (ints .u32 b) u v c .nilslice .nilslice) hw' (by simp)
  simp -implicitDefEqProofs (disch := omega) only [sN, ↓reduceIte, Nat.reduceEqDiff, Nat.reduceAdd, Nat.reduceMul, Nat.reduceSub, reduceCtorEq, e_none, e_some, e_bindS, e0, e1, e2, List.getElem?_cons_zero, List.getElem?_cons_succ, p_fieldAddr, Nat.zero_add]
  rw [x_store1A (r := 5) (off := 0) (v := w') (l := [.nilslice, .nilslice]) (by simp only [e_upd, e_putS, e_putN, e_t, e_c, Nat.reduceEqDiff, ↓reduceIte, reduceCtorEq, Nat.reduceAdd, e2]) (by simp only [e_upd, e_putS, e_putN, e_t, e_c, Nat.reduceEqDiff, ↓reduceIte, reduceCtorEq, Nat.reduceAdd]) hn.cell rfl (by simp)]
  simp -implicitDefEqProofs (disch := omega) only [sN, ↓reduceIte, Nat.reduceEqDiff, Nat.reduceAdd, Nat.reduceMul, Nat.reduceSub, reduceCtorEq, e_none, e_some, e_bindS]
  refine ret_keep (by simp [rdB]) ⟨?_, R', w', rfl, hn⟩
  simp only [e_upd, e_putS, e_putN, e_t, e_c, Nat.reduceEqDiff, ↓reduceIte, reduceCtorEq, Nat.reduceAdd]

theorem rd_step3 (hv : AtK [ro (ints .u32 a), ro (ints .u32 b)] v y 1 100000) {g : Int} (hg0 : g ≠ 0) (hg : g < BB ^ 100000) {c f1 : AV} (R : AHeap) (hc : NumR 8 R c g) :
    ∃ W, ACalls Tryd.prog 119 [.ptr 3 0, .ptr 6 0, .ptr 5 0] (rdB (ints .u32 a) (ints .u32 b) u v c f1 .nilslice ++ R) W fun w H' => w = .int .i64 (if y / g < BB ^ 64 then 0 else 8) ∧ ∃ R' f, H' = rdB (ints .u32 a) (ints .u32 b) u v c f1 f ++ (R ++ R') ∧ NumR 8 (R ++ R') f (if y / g < BB ^ 64 then y / g else 0) := by
  refine ⟨_, ACalls.body Tryd.func119 ent_reduced3 ir_reduced3_ok rs_reduced3_ok Tryd.ntmps119 (by simp) rfl ?_⟩
  unfold ir_reduced3
  have e0 : s0 [.ptr 3 0, .ptr 6 0, .ptr 5 0] 0 = .ptr 3 0 := rfl
  have e1 : s0 [.ptr 3 0, .ptr 6 0, .ptr 5 0] 1 = .ptr 6 0 := rfl
  have e2 : s0 [.ptr 3 0, .ptr 6 0, .ptr 5 0] 2 = .ptr 5 0 := rfl
  have hu' : AtK (rdB (ints .u32 a) (ints .u32 b) u v c f1 .nilslice ++ R) v y 1 100000 := hv.keep rfl
  obtain ⟨rc, hc'⟩ := NumR.at (B := rdB (ints .u32 a) (ints .u32 b) u v c f1 .nilslice) (k := 100000) hc (row0 := ⟨false, false, ints .u32 a⟩) rfl hg
  have r2 : Vh.rowAt (rdB (ints .u32 a) (ints .u32 b) u v c f1 .nilslice ++ R) 3 = some ⟨true, false, [v]⟩ := rfl
  have r6 : Vh.rowAt (rdB (ints .u32 a) (ints .u32 b) u v c f1 .nilslice ++ R) 6 = some ⟨true, false, [c]⟩ := rfl
  simp -implicitDefEqProofs (disch := omega) only [sN, ↓reduceIte, Nat.reduceEqDiff, Nat.reduceAdd, Nat.reduceMul, Nat.reduceSub, reduceCtorEq, e_none, e_some, e_bindS, e0, e1, e2, r2, r6, List.getElem?_cons_zero, List.map_cons, List.map_nil]
  refine call_in2 (in_quotient hg0) rfl hu' hc' (hk_N fun R' w hw => ?_)
  have hlt := hu'.lt_pow
  have hx0 := hu'.nonneg
  have hq : y / g < BB ^ 100000 := by
    have := hw.nonneg
    exact Int.lt_of_le_of_lt (Int.ediv_le_self g hx0) hlt
  simp -implicitDefEqProofs (disch := omega) only [sN, ↓reduceIte, Nat.reduceEqDiff, Nat.reduceAdd, Nat.reduceMul, Nat.reduceSub, reduceCtorEq, e_none, e_some, e_bindS, List.map_cons, List.map_nil]
  refine call_fit (row0 := ⟨false, false, ints .u32 a⟩) hw rfl hq (by omega) fun w' hw' => ?_
  have hn : NumR 8 (R ++ R') w' (if y / g < BB ^ 64 then y / g else 0) := by
    rw [List.append_assoc] at hw'
    exact NumV.r (B := rdB (ints .u32 a) (ints .u32 b) u v c f1 .nilslice) hw' (by simp)
  simp -implicitDefEqProofs (disch := omega) only [sN, ↓reduceIte, Nat.reduceEqDiff, Nat.reduceAdd, Nat.reduceMul, Nat.reduceSub, reduceCtorEq, e_none, e_some, e_bindS, e0, e1, e2, List.getElem?_cons_zero, List.getElem?_cons_succ, p_fieldAddr, Nat.zero_add]
  rw [x_store1A (r := 5) (off := 1) (v := w') (l := [f1, .nilslice]) (by simp only [e_upd, e_putS, e_putN, e_t, e_c, Nat.reduceEqDiff, ↓reduceIte, reduceCtorEq, Nat.reduceAdd, e2]) (by simp only [e_upd, e_putS, e_putN, e_t, e_c, Nat.reduceEqDiff, ↓reduceIte, reduceCtorEq, Nat.reduceAdd]) hn.cell rfl (by simp)]
  simp -implicitDefEqProofs (disch := omega) only [sN, ↓reduceIte, Nat.reduceEqDiff, Nat.reduceAdd, Nat.reduceMul, Nat.reduceSub, reduceCtorEq, e_none, e_some, e_bindS]
  refine ret_keep (by simp [rdB]) ⟨?_, R', w', rfl, hn⟩
  simp only [e_upd, e_putS, e_putN, e_t, e_c, Nat.reduceEqDiff, ↓reduceIte, reduceCtorEq, Nat.reduceAdd]

/-- two numbers of a fraction, reduced; 8 where one does not fit -/
def redX (x y : Int) : Int := x / ((Nat.gcd x.toNat y.toNat : Nat) : Int)
def redE (x y : Int) : Int := if redX x y < BB ^ 64 ∧ redX y x < BB ^ 64 then 0 else 8
theorem gcd_pos' {x y : Int} (hy : 0 < y) : 0 < ((Nat.gcd x.toNat y.toNat : Nat) : Int) := by
  have : 0 < Nat.gcd x.toNat y.toNat := Nat.gcd_pos_of_pos_right _ (by omega)
  omega
theorem gcd_le' {x y : Int} (hy : 0 < y) : ((Nat.gcd x.toNat y.toNat : Nat) : Int) ≤ y := by
  have : Nat.gcd x.toNat y.toNat ≤ y.toNat := Nat.le_of_dvd (by omega) (Nat.gcd_dvd_right _ _)
  omega
end
end Go.Proofs.YtjmceapnhmeflaaDoor


/- Contracts: exact's reduced, as a whole. -/
-- NEWSET
namespace Go.Proofs.YtjmceapnhmeflaaDoor
open Go Go.Vh

theorem x_bs3 {s : St} {H : AHeap} {x y z : Opd} {v1 v2 v3 z1 z2 z3 : AV} (h1 : evo s x = v1) (h2 : evo s y = v2) (h3 : evo s z = v3) (c1 : v1.cell = true) (c2 : v2.cell = true) (c3 : v3.cell = true) :
    ieff (.buildSlice 3 [z1, z2, z3] [(0, (1, x)), (1, (1, y)), (2, (1, z))]) s H = some (.slice H.length 0 3 3, H ++ [rw_ [v1, v2, v3]]) := by
  simp [ieff, h1, h2, h3, afill, aparts_cell, c1, c2, c3, anew, rw_]

theorem ares_cell2 {s : St} {H : AHeap} {t u r : Nat} {row : ARow} {l : List AV} (ht : s t = .ptr r 0) (hr : Vh.rowAt H r = some row) (hc : row.cells = l) (hl : l.length = 2) : ares s H [.cell t 2 true, .tmp u] = some (.tuple [.agg l, s u]) := by
  have h : ((l.drop 0).take 2) = l := by rw [List.drop_zero, ← hl, List.take_length]
  simp only [ares, aresL, ares1, ht, if_true, cellsAt, hr, Option.bind_some, hc, Nat.zero_add, hl, Nat.le_refl, if_true, Option.map_some, h]

/-- A fraction and an error's number as an answer. -/
def UpF (x y e : Int) (H0 : AHeap) (v : AV) (H : AHeap) : Prop := ∃ R w w2, H = H0 ++ R ∧ v = .tuple [.agg [w, w2], .int .i64 e] ∧ NumV H w x H0.length ∧ NumV H w2 y H0.length

theorem hk_F {x y e : Int} {K : St → AHeap → Prop} {d : Option Nat} {s : St} {H : AHeap} (hK : ∀ R w w2, NumV (H ++ R) w x H.length → NumV (H ++ R) w2 y H.length → K (putI d s (.tuple [.agg [w, w2], .int .i64 e])) (H ++ R)) : ∀ (σ : List (Nat × Nat)) (H0 : AHeap) (v0 : AV) (H0' : AHeap), σ.length = H0.length → allRo H0 = true → UpF x y e H0 v0 H0' → K (putI d s (v0.ren (sig σ H.length))) (H ++ (H0'.drop H0.length).map (renRow (sig σ H.length))) := by
  rintro σ H0 v0 H0' hl _ ⟨R, w, w2, rfl, rfl, hn, hn2⟩
  rw [drop_base]
  exact hK _ _ _ (hn.up hl) (hn2.up hl)

section
variable (a b : List Int) (u v : AV) (x y : Int)
def rdS : Nat → AHeap → Prop
  | 0, H => ∃ R, H = rdB (ints .u32 a) (ints .u32 b) u v .nilslice .nilslice .nilslice ++ R
  | 1, H => ∃ R c, H = rdB (ints .u32 a) (ints .u32 b) u v c .nilslice .nilslice ++ R ∧ NumR 8 R c ((Nat.gcd x.toNat y.toNat : Nat) : Int)
  | 2, H => ∃ R c f1, H = rdB (ints .u32 a) (ints .u32 b) u v c f1 .nilslice ++ R ∧ NumR 8 R c ((Nat.gcd x.toNat y.toNat : Nat) : Int) ∧ NumR 8 R f1 (redX x y) ∧ redX x y < BB ^ 64
  | _, H => ∃ R c f1 f2, H = rdB (ints .u32 a) (ints .u32 b) u v c f1 f2 ++ R ∧ NumR 8 R f1 (redX x y) ∧ redX x y < BB ^ 64 ∧ NumR 8 R f2 (redX y x) ∧ redX y x < BB ^ 64
def rdE : Nat → Int → AHeap → Prop := fun _ e H => e = 8 ∧ redE x y = 8 ∧ ∃ R c f1 f2, H = rdB (ints .u32 a) (ints .u32 b) u v c f1 f2 ++ R
theorem rdS_shape {a b : List Int} {u v : AV} {x y : Int} : ∀ {i : Nat} {H : AHeap}, rdS a b u v x y i H → ∃ R c f1 f2, H = rdB (ints .u32 a) (ints .u32 b) u v c f1 f2 ++ R
  | 0, _, ⟨R, h⟩ => ⟨R, _, _, _, h⟩
  | 1, _, ⟨R, c, h, _⟩ => ⟨R, c, _, _, h⟩
  | 2, _, ⟨R, c, f1, h, _⟩ => ⟨R, c, f1, _, h⟩
  | _ + 3, _, ⟨R, c, f1, f2, h, _⟩ => ⟨R, c, f1, f2, h⟩
end

set_option maxHeartbeats 1000000 in
theorem in_reduced {x y : Int} (hy0 : 0 < y) : In2 79 x y 100000 100000 [] (UpF (if redE x y = 0 then redX x y else 0) (if redE x y = 0 then redX y x else 0) (redE x y)) := by
  intro κ κ' a b hk hk' hm hm' ha hb hx hy
  refine ⟨_, ACalls.body Tryd.func79 ent_reduced ir_reduced_ok rs_reduced_ok Tryd.ntmps79 (by simp) rfl ?_⟩
  unfold ir_reduced
  have e0 : s0 [mkS κ 0 0 a.length, mkS κ' 1 0 b.length] 0 = mkS κ 0 0 a.length := rfl
  have e1 : s0 [mkS κ 0 0 a.length, mkS κ' 1 0 b.length] 1 = mkS κ' 1 0 b.length := rfl
  have u0 : AtK [ro (ints .u32 a), ro (ints .u32 b)] (mkS κ 0 0 a.length) x 0 100000 := ⟨κ, a, _, hk, rfl, rfl, take_all, ha, hx, hm⟩
  have u1 : AtK [ro (ints .u32 a), ro (ints .u32 b)] (mkS κ' 1 0 b.length) y 1 100000 := ⟨κ', b, _, hk', rfl, rfl, take_all, hb, hy, hm'⟩
  obtain ⟨u, hu⟩ : ∃ u, mkS κ 0 0 a.length = u := ⟨_, rfl⟩
  obtain ⟨v, hv⟩ : ∃ v, mkS κ' 1 0 b.length = v := ⟨_, rfl⟩
  have cu : u.cell = true := hu ▸ c_mkS
  have cv : v.cell = true := hv ▸ c_mkS
  rw [hu, hv] at e0 e1 ⊢
  rw [hu] at u0
  rw [hv] at u1
  have hcx := gcd_pos' (x := x) hy0
  have hcy := gcd_le' (x := x) hy0
  have hylt := u1.lt_pow
  have hgl : ((Nat.gcd x.toNat y.toNat : Nat) : Int) < BB ^ 100000 := by omega
  have hsym : ((Nat.gcd y.toNat x.toNat : Nat) : Int) = ((Nat.gcd x.toNat y.toNat : Nat) : Int) := by rw [Nat.gcd_comm]
  have hfirst : ACalls Tryd.prog 92 [.slice 7 0 3 3] (rdB (ints .u32 a) (ints .u32 b) u v .nilslice .nilslice .nilslice) (List.range 8) fun w H' => (w = .int .i64 0 ∧ rdS a b u v x y 3 H') ∨ ∃ i e, w = .int .i64 e ∧ e ≠ 0 ∧ rdE a b u v x y i e H' := by
    refine firstError_calls (fs := rdF) (S := rdS a b u v x y) (E := rdE a b u v x y) (H0 := rdB (ints .u32 a) (ints .u32 b) u v .nilslice .nilslice .nilslice) (r := 7) (n := 3) ⟨[], by rw [List.append_nil]⟩ (by omega) ?_ ?_ ?_ ?_
    · intro i H h
      obtain ⟨R, c, f1, f2, rfl⟩ := rdS_shape h
      exact ⟨⟨true, false, rdF⟩, rfl, rfl⟩
    · intro i H h
      obtain ⟨R, c, f1, f2, rfl⟩ := rdS_shape h
      simp [rdB]
    · rintro i e H ⟨_, _, R, c, f1, f2, rfl⟩
      simp [rdB]
    · intro i hi H h
      rcases i with _ | _ | _ | i
      · obtain ⟨R, rfl⟩ := h
        obtain ⟨W, hc⟩ := rd_step1 u0 u1 R
        exact ⟨_, _, rfl, W, hc.mono fun w H' ⟨hw, R', c, hH, hn⟩ => ⟨0, hw, .inl ⟨rfl, R', c, hH, hn⟩⟩⟩
      · obtain ⟨R, c, rfl, hn⟩ := h
        obtain ⟨W, hc⟩ := rd_step2 (a := a) (b := b) (v := v) u0 (by omega) hgl R hn
        refine ⟨_, _, rfl, W, hc.mono fun w H' ⟨hw, R', f, hH, hf⟩ => ⟨_, hw, ?_⟩⟩
        by_cases hlt : redX x y < BB ^ 64
        · have hlt' := hlt
          unfold redX at hlt'
          rw [if_pos hlt'] at hf ⊢
          exact .inl ⟨rfl, R ++ R', c, f, hH, hn.app, hf, hlt⟩
        · have hlt' := hlt
          unfold redX at hlt'
          rw [if_neg hlt']
          exact .inr ⟨by decide, rfl, by unfold redE; rw [if_neg fun h => hlt h.1], _, _, _, _, hH⟩
      · obtain ⟨R, c, f1, rfl, hn, hn1, hl1⟩ := h
        obtain ⟨W, hc⟩ := rd_step3 (a := a) (b := b) (u := u) (f1 := f1) u1 (by omega) hgl R hn
        refine ⟨_, _, rfl, W, hc.mono fun w H' ⟨hw, R', f, hH, hf⟩ => ⟨_, hw, ?_⟩⟩
        by_cases hlt : redX y x < BB ^ 64
        · have hlt' := hlt
          unfold redX at hlt'
          rw [hsym] at hlt'
          rw [if_pos hlt'] at hf ⊢
          refine .inl ⟨rfl, R ++ R', c, f1, f, hH, hn1.app, hl1, ?_, hlt⟩
          unfold redX; rw [hsym]; exact hf
        · have hlt' := hlt
          unfold redX at hlt'
          rw [hsym] at hlt'
          rw [if_neg hlt']
          exact .inr ⟨by decide, rfl, by unfold redE; rw [if_neg fun h => hlt h.2], _, _, _, _, hH⟩
      · omega
  simp -implicitDefEqProofs (disch := omega) only [sN, ↓reduceIte, Nat.reduceEqDiff, Nat.reduceAdd, Nat.reduceMul, Nat.reduceSub, reduceCtorEq, e_none, e_some, e_bindS, e0, e1]
  rw [x_boxA (v := u) (by simp only [e_upd, e_putS, e_putN, e_t, e_c, Nat.reduceEqDiff, ↓reduceIte, reduceCtorEq, Nat.reduceAdd, e0]) cu]
  simp -implicitDefEqProofs (disch := omega) only [sN, ↓reduceIte, Nat.reduceEqDiff, Nat.reduceAdd, Nat.reduceMul, Nat.reduceSub, reduceCtorEq, e_none, e_some, e_bindS, e0, e1]
  rw [x_boxA (v := v) (by simp only [e_upd, e_putS, e_putN, e_t, e_c, Nat.reduceEqDiff, ↓reduceIte, reduceCtorEq, Nat.reduceAdd, e1]) cv]
  simp -implicitDefEqProofs (disch := omega) only [sN, ↓reduceIte, Nat.reduceEqDiff, Nat.reduceAdd, Nat.reduceMul, Nat.reduceSub, reduceCtorEq, e_none, e_some, e_bindS, e0, e1]
  rw [x_allocA rfl]
  simp -implicitDefEqProofs (disch := omega) only [sN, ↓reduceIte, Nat.reduceEqDiff, Nat.reduceAdd, Nat.reduceMul, Nat.reduceSub, reduceCtorEq, e_none, e_some, e_bindS, e0, e1]
  rw [x_allocA rfl]
  simp -implicitDefEqProofs (disch := omega) only [sN, ↓reduceIte, Nat.reduceEqDiff, Nat.reduceAdd, Nat.reduceMul, Nat.reduceSub, reduceCtorEq, e_none, e_some, e_bindS, e0, e1]
  rw [x_allocA rfl]
  simp -implicitDefEqProofs (disch := omega) only [sN, ↓reduceIte, Nat.reduceEqDiff, Nat.reduceAdd, Nat.reduceMul, Nat.reduceSub, reduceCtorEq, e_none, e_some, e_bindS, p_makeFunc, List.map_cons, List.map_nil]
  rw [x_bs3 (v1 := .func 116 [.ptr 2 0, .ptr 3 0, .ptr 6 0]) (v2 := .func 117 [.ptr 2 0, .ptr 6 0, .ptr 5 0]) (v3 := .func 119 [.ptr 3 0, .ptr 6 0, .ptr 5 0]) (by simp only [e_upd, e_putS, e_putN, e_t, e_c, Nat.reduceEqDiff, ↓reduceIte, reduceCtorEq, Nat.reduceAdd]; rfl) (by simp only [e_upd, e_putS, e_putN, e_t, e_c, Nat.reduceEqDiff, ↓reduceIte, reduceCtorEq, Nat.reduceAdd]; rfl) (by simp only [e_upd, e_putS, e_putN, e_t, e_c, Nat.reduceEqDiff, ↓reduceIte, reduceCtorEq, Nat.reduceAdd]; rfl) rfl rfl rfl]
  have hB : [ro (ints .u32 a), ro (ints .u32 b)] ++ [rw_ [u]] ++ [rw_ [v]] ++ [rw_ [.nilslice, .nilslice]] ++ [rw_ [.nilslice, .nilslice]] ++ [rw_ [.nilslice]] ++ [rw_ [.func 116 [.ptr 2 0, .ptr 3 0, .ptr 6 0], .func 117 [.ptr 2 0, .ptr 6 0, .ptr 5 0], .func 119 [.ptr 3 0, .ptr 6 0, .ptr 5 0]]] = rdB (ints .u32 a) (ints .u32 b) u v .nilslice .nilslice .nilslice := rfl
  rw [hB]
  simp -implicitDefEqProofs (disch := omega) only [sN, ↓reduceIte, Nat.reduceEqDiff, Nat.reduceAdd, Nat.reduceMul, Nat.reduceSub, reduceCtorEq, e_none, e_some, e_bindS, List.map_cons, List.map_nil]
  refine ⟨_, hfirst.g.mono ?_⟩
  rintro w H' (⟨rfl, R, c, f1, f2, rfl, hn1, hl1, hn2, hl2⟩ | ⟨i, e, rfl, he, rfl, hE, R, c, f1, f2, rfl⟩)
  · have hE0 : redE x y = 0 := by unfold redE; rw [if_pos ⟨hl1, hl2⟩]
    have hrow5 : Vh.rowAt (rdB (ints .u32 a) (ints .u32 b) u v c f1 f2 ++ R) 5 = some ⟨true, false, [f1, f2]⟩ := rfl
    have hrow4 : Vh.rowAt (rdB (ints .u32 a) (ints .u32 b) u v c f1 f2 ++ R) 4 = some ⟨true, false, [.nilslice, .nilslice]⟩ := rfl
    simp -implicitDefEqProofs (disch := omega) only [sN, ↓reduceIte, Nat.reduceEqDiff, Nat.reduceAdd, Nat.reduceMul, Nat.reduceSub, reduceCtorEq, e_none, e_some, e_bindS]
    rw [x_loadNA (n := 2) (r := 5) (l := [f1, f2]) (by simp only [e_upd, e_putS, e_putN, e_t, e_c, Nat.reduceEqDiff, ↓reduceIte, reduceCtorEq, Nat.reduceAdd]; rfl) hrow5 rfl rfl]
    simp -implicitDefEqProofs (disch := omega) only [sN, ↓reduceIte, Nat.reduceEqDiff, Nat.reduceAdd, Nat.reduceMul, Nat.reduceSub, reduceCtorEq, e_none, e_some, e_bindS]
    rw [x_storeNA (n := 2) (r := 4) (l := [.nilslice, .nilslice]) (l' := [f1, f2]) (by simp only [e_upd, e_putS, e_putN, e_t, e_c, Nat.reduceEqDiff, ↓reduceIte, reduceCtorEq, Nat.reduceAdd]; rfl) (by simp only [e_upd, e_putS, e_putN, e_t, e_c, Nat.reduceEqDiff, ↓reduceIte, reduceCtorEq, Nat.reduceAdd]) (by simp [hn1.cell, hn2.cell]) hrow4 rfl rfl]
    simp -implicitDefEqProofs (disch := omega) only [sN, ↓reduceIte, Nat.reduceEqDiff, Nat.reduceAdd, Nat.reduceMul, Nat.reduceSub, reduceCtorEq, e_none, e_some, e_bindS]
    refine ret_keep (by simp [rdB]) ?_
    rw [rs_reduced, ares_cell2 (r := 4) (row := ⟨true, false, [f1, f2]⟩) (l := [f1, f2]) (by simp only [e_upd, e_putS, e_putN, e_t, e_c, Nat.reduceEqDiff, ↓reduceIte, reduceCtorEq, Nat.reduceAdd]; rfl) rfl rfl rfl]
    rw [if_pos hE0, if_pos hE0, hE0]
    have hv1 := hn1.v (B := [ro (ints .u32 a), ro (ints .u32 b), rw_ [u], rw_ [v], rw_ [f1, f2], rw_ [f1, f2], rw_ [c], rw_ rdF])
    have hv2 := hn2.v (B := [ro (ints .u32 a), ro (ints .u32 b), rw_ [u], rw_ [v], rw_ [f1, f2], rw_ [f1, f2], rw_ [c], rw_ rdF])
    refine ⟨[rw_ [u], rw_ [v], rw_ [f1, f2], rw_ [f1, f2], rw_ [c], rw_ rdF] ++ R, f1, f2, rfl, ?_, hv1.le (by simp), hv2.le (by simp)⟩
    simp only [e_upd, e_putS, e_putN, e_t, e_c, Nat.reduceEqDiff, ↓reduceIte, reduceCtorEq, Nat.reduceAdd]
  · have hE0 : ¬ redE x y = 0 := by rw [hE]; decide
    have hrow4 : Vh.rowAt (rdB (ints .u32 a) (ints .u32 b) u v c f1 f2 ++ R) 4 = some ⟨true, false, [.nilslice, .nilslice]⟩ := rfl
    simp -implicitDefEqProofs (disch := omega) only [sN, ↓reduceIte, Nat.reduceEqDiff, Nat.reduceAdd, Nat.reduceMul, Nat.reduceSub, reduceCtorEq, e_none, e_some, e_bindS, p_build, List.map_nil, afill, Option.map_some]
    rw [x_storeNA (n := 2) (r := 4) (l := [.nilslice, .nilslice]) (l' := [.nilslice, .nilslice]) (by simp only [e_upd, e_putS, e_putN, e_t, e_c, Nat.reduceEqDiff, ↓reduceIte, reduceCtorEq, Nat.reduceAdd]; rfl) (by simp only [e_upd, e_putS, e_putN, e_t, e_c, Nat.reduceEqDiff, ↓reduceIte, reduceCtorEq, Nat.reduceAdd]) rfl hrow4 rfl rfl]
    simp -implicitDefEqProofs (disch := omega) only [sN, ↓reduceIte, Nat.reduceEqDiff, Nat.reduceAdd, Nat.reduceMul, Nat.reduceSub, reduceCtorEq, e_none, e_some, e_bindS]
    refine ret_keep (by simp [rdB]) ?_
    rw [rs_reduced, ares_cell2 (r := 4) (row := ⟨true, false, [.nilslice, .nilslice]⟩) (l := [.nilslice, .nilslice]) (by simp only [e_upd, e_putS, e_putN, e_t, e_c, Nat.reduceEqDiff, ↓reduceIte, reduceCtorEq, Nat.reduceAdd]; rfl) rfl rfl rfl]
    rw [if_neg hE0, if_neg hE0, hE]
    refine ⟨[rw_ [u], rw_ [v], rw_ [.nilslice, .nilslice], rw_ [f1, f2], rw_ [c], rw_ rdF] ++ R, .nilslice, .nilslice, rfl, ?_, .nil, .nil⟩
    simp only [e_upd, e_putS, e_putN, e_t, e_c, Nat.reduceEqDiff, ↓reduceIte, reduceCtorEq, Nat.reduceAdd]
end Go.Proofs.YtjmceapnhmeflaaDoor

