/- Contracts: the reference's sorting. -/
import Derived.Test.YthbhljolpnbdlaaVX
import Derived.Test.YthbhljolpnbdlaaQC
import Derived.Test.YthbhljolpnbdlaaQA
import Derived.Test.YthbhljolpnbdlaaProg
import Derived.KernelRfl
set_option linter.unusedSimpArgs false
set_option linter.unusedVariables false
-- NEWSET
namespace Go.Proofs.Ythbhljolpnbdlaa.S2
open Go Go.Vh

def tr_sorted : DTree := (.soft ⟨⟨(some 30), none, (.pure (.move (.t 3)))⟩, 1, 0⟩ (.soft ⟨⟨(some 31), none, (.pure (.move (.t 5)))⟩, 2, 0⟩ (.soft ⟨⟨(some 32), none, (.pure (.slice 1 (.t 30) none (some (.t 31))))⟩, 3, 0⟩ (.soft ⟨⟨(some 34), none, (.pure (.move (.t 0)))⟩, 5, 0⟩ (.soft ⟨⟨(some 35), none, (.pure (.move (.t 4)))⟩, 6, 0⟩ (.soft ⟨⟨(some 36), none, (.pure (.indexAddr 1 (.t 34) (.t 35)))⟩, 7, 0⟩ (.soft ⟨⟨(some 40), none, (.pure (.move (.t 3)))⟩, 11, 0⟩ (.soft ⟨⟨(some 41), none, (.pure (.move (.t 5)))⟩, 12, 0⟩ (.soft ⟨⟨(some 42), none, (.pure (.slice 1 (.t 40) (some (.t 41)) none))⟩, 13, 0⟩ (.alt ⟨⟨(some 29), none, (.eff (.buildSlice 0 [] []))⟩, 0, 2⟩ (.alt ⟨⟨(some 33), none, (.eff (.append 1 8 (.t 29) (.t 32)))⟩, 4, 3⟩ (.alt ⟨⟨(some 37), none, (.eff (.load1 (.t 36)))⟩, 8, 2⟩ (.alt ⟨⟨(some 38), none, (.eff (.buildSlice 1 [(.int .i64 0)] [(0, (1, (.t 37)))]))⟩, 9, 2⟩ (.alt ⟨⟨(some 39), none, (.eff (.append 1 8 (.t 33) (.t 38)))⟩, 10, 3⟩ (.alt ⟨⟨(some 43), none, (.eff (.append 1 8 (.t 39) (.t 42)))⟩, 14, 3⟩ (.soft ⟨⟨(some 3), none, (.pure (.move (.t 43)))⟩, 15, 0⟩ .done) .none) .none) .none) .none) (.alt ⟨⟨(some 37), none, (.eff (.load1 (.t 36)))⟩, 8, 2⟩ (.alt ⟨⟨(some 33), none, (.eff (.append 1 8 (.t 29) (.t 32)))⟩, 4, 3⟩ (.alt ⟨⟨(some 38), none, (.eff (.buildSlice 1 [(.int .i64 0)] [(0, (1, (.t 37)))]))⟩, 9, 2⟩ (.alt ⟨⟨(some 39), none, (.eff (.append 1 8 (.t 33) (.t 38)))⟩, 10, 3⟩ (.alt ⟨⟨(some 43), none, (.eff (.append 1 8 (.t 39) (.t 42)))⟩, 14, 3⟩ (.soft ⟨⟨(some 3), none, (.pure (.move (.t 43)))⟩, 15, 0⟩ .done) .none) .none) .none) (.alt ⟨⟨(some 38), none, (.eff (.buildSlice 1 [(.int .i64 0)] [(0, (1, (.t 37)))]))⟩, 9, 2⟩ (.alt ⟨⟨(some 33), none, (.eff (.append 1 8 (.t 29) (.t 32)))⟩, 4, 3⟩ (.alt ⟨⟨(some 39), none, (.eff (.append 1 8 (.t 33) (.t 38)))⟩, 10, 3⟩ (.alt ⟨⟨(some 43), none, (.eff (.append 1 8 (.t 39) (.t 42)))⟩, 14, 3⟩ (.soft ⟨⟨(some 3), none, (.pure (.move (.t 43)))⟩, 15, 0⟩ .done) .none) .none) .none) .none)) .none)) (.alt ⟨⟨(some 37), none, (.eff (.load1 (.t 36)))⟩, 8, 2⟩ (.alt ⟨⟨(some 29), none, (.eff (.buildSlice 0 [] []))⟩, 0, 2⟩ (.alt ⟨⟨(some 33), none, (.eff (.append 1 8 (.t 29) (.t 32)))⟩, 4, 3⟩ (.alt ⟨⟨(some 38), none, (.eff (.buildSlice 1 [(.int .i64 0)] [(0, (1, (.t 37)))]))⟩, 9, 2⟩ (.alt ⟨⟨(some 39), none, (.eff (.append 1 8 (.t 33) (.t 38)))⟩, 10, 3⟩ (.alt ⟨⟨(some 43), none, (.eff (.append 1 8 (.t 39) (.t 42)))⟩, 14, 3⟩ (.soft ⟨⟨(some 3), none, (.pure (.move (.t 43)))⟩, 15, 0⟩ .done) .none) .none) .none) (.alt ⟨⟨(some 38), none, (.eff (.buildSlice 1 [(.int .i64 0)] [(0, (1, (.t 37)))]))⟩, 9, 2⟩ (.alt ⟨⟨(some 33), none, (.eff (.append 1 8 (.t 29) (.t 32)))⟩, 4, 3⟩ (.alt ⟨⟨(some 39), none, (.eff (.append 1 8 (.t 33) (.t 38)))⟩, 10, 3⟩ (.alt ⟨⟨(some 43), none, (.eff (.append 1 8 (.t 39) (.t 42)))⟩, 14, 3⟩ (.soft ⟨⟨(some 3), none, (.pure (.move (.t 43)))⟩, 15, 0⟩ .done) .none) .none) .none) .none)) (.alt ⟨⟨(some 38), none, (.eff (.buildSlice 1 [(.int .i64 0)] [(0, (1, (.t 37)))]))⟩, 9, 2⟩ (.alt ⟨⟨(some 29), none, (.eff (.buildSlice 0 [] []))⟩, 0, 2⟩ (.alt ⟨⟨(some 33), none, (.eff (.append 1 8 (.t 29) (.t 32)))⟩, 4, 3⟩ (.alt ⟨⟨(some 39), none, (.eff (.append 1 8 (.t 33) (.t 38)))⟩, 10, 3⟩ (.alt ⟨⟨(some 43), none, (.eff (.append 1 8 (.t 39) (.t 42)))⟩, 14, 3⟩ (.soft ⟨⟨(some 3), none, (.pure (.move (.t 43)))⟩, 15, 0⟩ .done) .none) .none) .none) .none) .none)) .none)))))))))))

section
variable {s : St} {H H0 : AHeap}
theorem row_app {R : AHeap} {j : Nat} : Vh.rowAt (H0 ++ R) (H0.length + j) = Vh.rowAt R j := by simp [Vh.rowAt, List.getElem?_append_right]
theorem row_app0 {R : AHeap} : Vh.rowAt (H0 ++ R) H0.length = Vh.rowAt R 0 := row_app (j := 0)
theorem set_app {R : AHeap} {j : Nat} {x : Option ARow} : (H0 ++ R).set (H0.length + j) x = H0 ++ R.set j x := by simp [List.set_append_right]
theorem r_b0 : ieff (.buildSlice 0 [] []) s H = some (.slice H.length 0 0 0, H ++ [rw_ []]) := by simp [ieff, afill, anew, rw_]
theorem r_a1 {u : AV} {a : Nat} {xs : List Int} (h29 : ∃ r, s 29 = .slice r 0 0 0) (h32 : s 32 = u) (hl : alen u = some a) (hs : asrc 1 u H = some (ints .i64 xs)) (hb : a ≤ 1000000) :
    ieff (.append 1 8 (.t 29) (.t 32)) s H = some (.sliceU H.length 0 a 1, H ++ [sl (ints .i64 xs)]) := by
  obtain ⟨r, h29⟩ := h29
  simp only [ieff, e_t, h29, h32, hl, hs, Option.bind_some, aappend, Nat.zero_add]
  rw [if_pos (by omega)]
  simp [anew, ints_cell, sl]
theorem r_a2 {q r a : Nat} {old : List Int} {x : Int} (h33 : s 33 = .sliceU q 0 a 1) (h38 : s 38 = .slice r 0 1 1) (hq : Vh.rowAt H q = some ⟨true, true, ints .i64 old⟩) (hn : old.length = a) (hr : Vh.rowAt H r = some ⟨true, false, [.int .i64 x]⟩) (hb : a ≤ 1000000) :
    ieff (.append 1 8 (.t 33) (.t 38)) s H = some (.sliceU H.length 0 (a + 1) 1, H.set q none ++ [sl (ints .i64 (old ++ [x]))]) := by
  rw [x_appU (q := q) (n := a) (r := r) (m := 1) (c := 1) (row := ⟨true, false, [.int .i64 x]⟩) (xs := [.int .i64 x]) (old := ints .i64 old) (show evo s (.t 33) = _ from h33) (show evo s (.t 38) = _ from h38) hq (by rw [ints_length, hn]) hr rfl (by simp) (by omega) rfl, ints_snoc]
theorem r_a3 {q a c : Nat} {w : AV} {old xs : List Int} (h39 : s 39 = .sliceU q 0 a 1) (h42 : s 42 = w) (hq : Vh.rowAt H q = some ⟨true, true, ints .i64 old⟩) (hn : old.length = a) (hl : alen w = some c) (hs : asrc 1 w H = some (ints .i64 xs)) (hb : a + c ≤ 1000000) :
    ieff (.append 1 8 (.t 39) (.t 42)) s H = some (.sliceU H.length 0 (a + c) 1, H.set q none ++ [sl (ints .i64 (old ++ xs))]) := by
  simp only [ieff, e_t, h39, h42, hl, hs, Option.bind_some, aappend, hq, Nat.mul_one, Nat.zero_add, ints_length, hn]
  rw [if_pos ⟨by omega, trivial⟩, if_pos ⟨trivial, trivial, trivial, ints_cell⟩]
  simp [sl, ints]
end

theorem ins_region {H0 : AHeap} {s : St} {A u w : AV} {out : AV} {l o : List Int} {i a : Nat} (h0 : s 0 = A) (h3 : s 3 = out) (h4 : s 4 = .int .i64 (i : Int)) (h5 : s 5 = .int .i64 (a : Int))
    (hA : aindexAddr 1 A (.int .i64 (i : Int)) = some (.ptr 0 i)) (hrow : ∀ R, Vh.rowAt (H0 ++ R) 0 = some ⟨false, false, ints .i64 l⟩) (hil : i < l.length) (ho : o.length = i) (hai : a ≤ i) (hi : i ≤ 65536)
    (hu : aslice 1 out none (some (.int .i64 (a : Int))) = some u) (hw : aslice 1 out (some (.int .i64 (a : Int))) none = some w) (lu : alen u = some a) (lw : alen w = some (i - a))
    (su : ∀ R, asrc 1 u (H0 ++ R) = some (ints .i64 (o.take a))) (sw : ∀ R, asrc 1 w (H0 ++ R) = some (ints .i64 (o.drop a))) :
    iopsT Try.prog H0 tr_sorted (fun s' H' => s' 0 = A ∧ s' 4 = .int .i64 (i : Int) ∧ s' 3 = .sliceU (H0.length + 4) 0 (i + 1) 1 ∧ ∃ r1 r2 r3 r4, H' = H0 ++ [r1, r2, r3, r4, sl (ints .i64 (o.take a ++ [l.getD i 0] ++ o.drop a))]) s H0 := by
  obtain ⟨H, hH⟩ : ∃ H, H = H0 ++ [] := ⟨_, rfl⟩
  obtain ⟨x, hx⟩ : ∃ x, x = l.getD i 0 := ⟨_, rfl⟩
  have hg : (ints .i64 l)[i]? = some (.int .i64 x) := by rw [ints_get hil, hx]
  rw [← hx]
  have hH' : H0 = H := by rw [hH, List.append_nil]
  have key : iopsT Try.prog H0 tr_sorted (fun s' H' => s' 0 = A ∧ s' 4 = .int .i64 (i : Int) ∧ s' 3 = .sliceU (H0.length + 4) 0 (i + 1) 1 ∧ ∃ r1 r2 r3 r4, H' = H0 ++ [r1, r2, r3, r4, sl (ints .i64 (o.take a ++ [x] ++ o.drop a))]) s (H0 ++ []) := by
    unfold tr_sorted
    have ht : (o.take a).length = a := by rw [List.length_take]; omega
    have ht2 : (o.take a ++ [x]).length = a + 1 := by rw [List.length_append, ht]; rfl
    simp only [e_tsoft, e_stepN, e_pureD, p_move, p_slice, p_indexAddr, Option.map_none, Option.map_some, e_thenP, e_putS, e_upd, e_t, e_c, Nat.reduceEqDiff, ↓reduceIte, h0, h3, h4, h5, hu, hw, hA]
    repeat' (first
        | (rw [e_tdone]; exact ⟨by simp only [e_upd, e_putS, e_putN, e_t, e_c, Nat.reduceEqDiff, ↓reduceIte, reduceCtorEq, Nat.reduceAdd, h0], by simp only [e_upd, e_putS, e_putN, e_t, e_c, Nat.reduceEqDiff, ↓reduceIte, reduceCtorEq, Nat.reduceAdd, h4], by simp only [e_upd, e_putS, e_putN, e_t, e_c, Nat.reduceEqDiff, ↓reduceIte, reduceCtorEq, Nat.reduceAdd, List.length_append, List.length_cons, List.length_nil]; congr 1; omega, _, _, _, _, rfl⟩)
        | (simp only [r_b0, e_tsoft, e_talt1, e_talt, e_stepN, e_pureD, e_effD2, e_effD3, e_thenE, e_thenP, e_putS, e_upd, e_t, e_c, p_move, x_load1, hrow, Option.bind_some, Option.map_some, hg, Nat.reduceEqDiff, ↓reduceIte, List.append_assoc, List.cons_append, List.nil_append])
        | (rw [x_bs1 (v := .int .i64 x) (by simp only [e_upd, e_putS, e_putN, e_t, e_c, Nat.reduceEqDiff, ↓reduceIte, reduceCtorEq, Nat.reduceAdd]) rfl])
        | (rw [r_a1 (u := u) (a := a) (xs := o.take a) ⟨_, rfl⟩ (by simp only [e_upd, e_putS, e_putN, e_t, e_c, Nat.reduceEqDiff, ↓reduceIte, reduceCtorEq, Nat.reduceAdd]) lu (su _) (by omega)])
        | (rw [r_a2 (q := H0.length + 1) (r := H0.length + 2) (a := a) (old := o.take a) (x := x) (by simp only [e_upd, e_putS, e_putN, e_t, e_c, Nat.reduceEqDiff, ↓reduceIte, reduceCtorEq, Nat.reduceAdd, List.length_append, List.length_cons, List.length_nil]) (by simp only [e_upd, e_putS, e_putN, e_t, e_c, Nat.reduceEqDiff, ↓reduceIte, reduceCtorEq, Nat.reduceAdd, List.length_append, List.length_cons, List.length_nil]) (by rw [row_app]; rfl) ht (by rw [row_app]; rfl) (by omega), set_app])
        | (rw [r_a2 (q := H0.length + 2) (r := H0.length + 1) (a := a) (old := o.take a) (x := x) (by simp only [e_upd, e_putS, e_putN, e_t, e_c, Nat.reduceEqDiff, ↓reduceIte, reduceCtorEq, Nat.reduceAdd, List.length_append, List.length_cons, List.length_nil]) (by simp only [e_upd, e_putS, e_putN, e_t, e_c, Nat.reduceEqDiff, ↓reduceIte, reduceCtorEq, Nat.reduceAdd, List.length_append, List.length_cons, List.length_nil]) (by rw [row_app]; rfl) ht (by rw [row_app]; rfl) (by omega), set_app])
        | (rw [r_a2 (q := H0.length + 2) (r := H0.length) (a := a) (old := o.take a) (x := x) (by simp only [e_upd, e_putS, e_putN, e_t, e_c, Nat.reduceEqDiff, ↓reduceIte, reduceCtorEq, Nat.reduceAdd, List.length_append, List.length_cons, List.length_nil]) (by simp only [e_upd, e_putS, e_putN, e_t, e_c, Nat.reduceEqDiff, ↓reduceIte, reduceCtorEq, Nat.reduceAdd, List.length_append, List.length_cons, List.length_nil, Nat.add_zero]) (by rw [row_app]; rfl) ht (by rw [row_app0]; rfl) (by omega), set_app])
        | (rw [r_a3 (q := H0.length + 3) (a := a + 1) (c := i - a) (w := w) (old := o.take a ++ [x]) (xs := o.drop a) (by simp only [e_upd, e_putS, e_putN, e_t, e_c, Nat.reduceEqDiff, ↓reduceIte, reduceCtorEq, Nat.reduceAdd, List.length_append, List.length_cons, List.length_nil]) (by simp only [e_upd, e_putS, e_putN, e_t, e_c, Nat.reduceEqDiff, ↓reduceIte, reduceCtorEq, Nat.reduceAdd]) (by rw [row_app]; rfl) ht2 lw (sw _) (by omega), set_app])
        | (refine And.intro ?_ ?_))
  rw [List.append_nil] at key
  exact key
end Go.Proofs.Ythbhljolpnbdlaa.S2



/- Contracts: the reference's sorting and its samples. -/
-- NEWSET
namespace Go.Proofs.Ythbhljolpnbdlaa.S2
open Go Go.Vh

/-- what is sorted so far -/
def outI (A : List Int) (l : List Int) (i : Nat) (v : AV) (H : AHeap) : Prop := (i = 0 ∧ v = .nilslice ∧ H = [ro (ints .i64 A)]) ∨ (0 < i ∧ v = .sliceU 1 0 i 1 ∧ H = [ro (ints .i64 A), sl (ints .i64 (srt (l.take i)))])

theorem take_succ_getD {l : List Int} {i : Nat} (h : i < l.length) : l.take i ++ [l.getD i 0] = l.take (i + 1) := by
  rw [List.take_add_one, List.getElem?_eq_getElem h, List.getD_eq_getElem?_getD, List.getElem?_eq_getElem h]
  rfl

theorem rSorted_calls (κ : SK) (l : List Int) (hk : okS κ l.length) (hn : l.length ≤ 65536) : ACalls Try.prog 108 [mkS κ 0 0 l.length] [ro (ints .i64 l)] (List.range 1) (NewI [ro (ints .i64 l)] (srt l)) := by
  refine ACalls.body Try.func108 ent_rSorted ir_rSorted_ok rs_rSorted_ok Try.ntmps108 (by simp) rfl ?_
  unfold ir_rSorted
  have e0 : s0 [mkS κ 0 0 l.length] 0 = mkS κ 0 0 l.length := rfl
  obtain ⟨n, hln⟩ : ∃ n, l.length = n := ⟨_, rfl⟩
  rw [hln] at hk hn e0 ⊢
  simp -implicitDefEqProofs (disch := omega) only [sN, ↓reduceIte, Nat.reduceEqDiff, Nat.reduceAdd, Nat.reduceMul, Nat.reduceSub, reduceCtorEq, e_none, e_some, e_bindS]
  refine ⟨fun m s H => ∃ i : Nat, m = n - i ∧ i ≤ n ∧ s 0 = mkS κ 0 0 n ∧ s 4 = .int .i64 (i : Int) ∧ outI l l i (s 3) H, n, ⟨0, rfl, by omega, ?_, ?_, .inl ⟨rfl, ?_, rfl⟩⟩, ?_⟩
  · simp only [e_upd, e_putS, e_putN, e_t, e_c, Nat.reduceEqDiff, ↓reduceIte, reduceCtorEq, Nat.reduceAdd, e0]
  · simp only [e_upd, e_putS, e_putN, e_t, e_c, Nat.reduceEqDiff, ↓reduceIte, reduceCtorEq, Nat.reduceAdd]; rfl
  · simp only [e_upd, e_putS, e_putN, e_t, e_c, Nat.reduceEqDiff, ↓reduceIte, reduceCtorEq, Nat.reduceAdd]
  rintro m s H ⟨i, hm, hi, h0, h4, hg⟩
  by_cases hlt : (i : Int) < (n : Int)
  · have hin : i < n := by omega
    have i0 : aindexAddr 1 (mkS κ 0 0 n) (.int .i64 (i : Int)) = some (.ptr 0 i) := by
      rw [k_idx hk (Nat.le_refl n) (by omega) (by omega)]; simp
    have hx : (ints .i64 l)[i]? = some (.int .i64 (l.getD i 0)) := ints_get (by omega)
    have hsuc : srt (l.take i ++ [l.getD i 0]) = srt (l.take (i + 1)) := by rw [take_succ_getD (by omega)]
    have htl : (l.take i).length = i := by rw [List.length_take]; omega
    have hsl : (srt (l.take i)).length = i := by rw [srt_length, htl]
    have close : ∀ (s' : St) (H' : AHeap) (L : Nat), (∃ r1 r2 r3 r4 pre, H' = (ro (ints .i64 l) :: pre) ++ [r1, r2, r3, r4, sl (ints .i64 (srt (l.take (i + 1))))] ∧ L = pre.length + 5) → s' 0 = mkS κ 0 0 n → s' 4 = .int .i64 ((i + 1 : Nat) : Int) → s' 3 = .sliceU L 0 (i + 1) 1 →
        loopPost 1 (fun m s H => ∃ i : Nat, m = n - i ∧ i ≤ n ∧ s 0 = mkS κ 0 0 n ∧ s 4 = .int .i64 (i : Int) ∧ outI l l i (s 3) H) m s' H' := by
      rintro s' H' L ⟨r1, r2, r3, r4, pre, rfl, rfl⟩ k0 k4 k3
      have hr0 : Vh.rowAt ((ro (ints .i64 l) :: pre) ++ [r1, r2, r3, r4, sl (ints .i64 (srt (l.take (i + 1))))]) 0 = ro (ints .i64 l) := rfl
      have hr1 : Vh.rowAt ((ro (ints .i64 l) :: pre) ++ [r1, r2, r3, r4, sl (ints .i64 (srt (l.take (i + 1))))]) (pre.length + 5) = sl (ints .i64 (srt (l.take (i + 1)))) := by
        have := row_app (H0 := ro (ints .i64 l) :: pre) (R := [r1, r2, r3, r4, sl (ints .i64 (srt (l.take (i + 1))))]) (j := 4)
        rw [List.length_cons, show pre.length + 1 + 4 = pre.length + 5 by omega] at this
        rw [this]; rfl
      have hlen : ((ro (ints .i64 l) :: pre) ++ [r1, r2, r3, r4, sl (ints .i64 (srt (l.take (i + 1))))]).length = pre.length + 6 := by simp
      have hsg : gcSig [0, pre.length + 5] (pre.length + 5) = some (1, 0) := by simp [gcSig, List.idxOf?, List.findIdx?_cons]
      generalize (ro (ints .i64 l) :: pre) ++ [r1, r2, r3, r4, sl (ints .i64 (srt (l.take (i + 1))))] = HH at *
      refine loop_gc (m := n - (i + 1)) [0, pre.length + 5] ?_ ?_ (by omega) ⟨i + 1, rfl, by omega, ?_, ?_, .inr ⟨by omega, ?_, ?_⟩⟩
      · simp [gcOK, hr0]; omega
      · simp [gcH, hr0, hr1, ro, sl, ints_ren, ints_cell]
      · exact gc_at k0 (n_mkS0 rfl)
      · exact gc_at k4 rfl
      · exact gc_at k3 (by simp [AV.ren, hsg])
      · simp [gcH, hr0, hr1, ro, sl, ints_ren]
    rcases hg with ⟨rfl, h3, rfl⟩ | ⟨hpos, h3, rfl⟩
    · simp -implicitDefEqProofs (disch := omega) only [sN, ↓reduceIte, Nat.reduceEqDiff, Nat.reduceAdd, Nat.reduceMul, Nat.reduceSub, reduceCtorEq, e_none, e_some, e_bindS, h0, h3, h4, k_len hk]
      refine ⟨fun t s H => s 0 = mkS κ 0 0 n ∧ s 3 = .nilslice ∧ s 4 = .int .i64 ((0 : Nat) : Int) ∧ s 5 = .int .i64 ((0 : Nat) : Int) ∧ H = [ro (ints .i64 l)], 0, ⟨?_, ?_, ?_, ?_, rfl⟩, ?_⟩
      · simp only [e_upd, e_putS, e_putN, e_t, e_c, Nat.reduceEqDiff, ↓reduceIte, reduceCtorEq, Nat.reduceAdd, h0]
      · simp only [e_upd, e_putS, e_putN, e_t, e_c, Nat.reduceEqDiff, ↓reduceIte, reduceCtorEq, Nat.reduceAdd, h3]
      · simp only [e_upd, e_putS, e_putN, e_t, e_c, Nat.reduceEqDiff, ↓reduceIte, reduceCtorEq, Nat.reduceAdd, h4]
      · simp only [e_upd, e_putS, e_putN, e_t, e_c, Nat.reduceEqDiff, ↓reduceIte, reduceCtorEq, Nat.reduceAdd]; rfl
      rintro t s H ⟨h0, h3, h4, h5, rfl⟩
      have hz : decide (((0 : Nat) : Int) < ((0 : Nat) : Int)) = false := rfl
      have l0 : alen .nilslice = some 0 := rfl
      simp -implicitDefEqProofs (disch := omega) only [sN, ↓reduceIte, Nat.reduceEqDiff, Nat.reduceAdd, Nat.reduceMul, Nat.reduceSub, reduceCtorEq, e_none, e_some, e_bindS, h0, h3, h4, h5, hz, l0, e_tops]
      refine tops_gen _ (ins_region (H0 := [ro (ints .i64 l)]) (l := l) (o := []) (i := 0) (a := 0) (u := .nilslice) (w := .nilslice) (out := .nilslice) (A := mkS κ 0 0 n) (by simp only [e_upd, e_putS, e_putN, e_t, e_c, Nat.reduceEqDiff, ↓reduceIte, reduceCtorEq, Nat.reduceAdd, h0]) (by simp only [e_upd, e_putS, e_putN, e_t, e_c, Nat.reduceEqDiff, ↓reduceIte, reduceCtorEq, Nat.reduceAdd, h3]) (by simp only [e_upd, e_putS, e_putN, e_t, e_c, Nat.reduceEqDiff, ↓reduceIte, reduceCtorEq, Nat.reduceAdd, h4]) (by simp only [e_upd, e_putS, e_putN, e_t, e_c, Nat.reduceEqDiff, ↓reduceIte, reduceCtorEq, Nat.reduceAdd, h5]) i0 (fun _ => rfl) (by omega) rfl (by omega) (by omega) rfl rfl rfl rfl (fun _ => rfl) (fun _ => rfl)) ?_
      rintro s' H' ⟨k0, k4, k3, r1, r2, r3, r4, rfl⟩
      simp -implicitDefEqProofs (disch := omega) only [sN, ↓reduceIte, Nat.reduceEqDiff, Nat.reduceAdd, Nat.reduceMul, Nat.reduceSub, reduceCtorEq, e_none, e_some, e_bindS, k0, k3, k4]
      refine close _ _ 5 ⟨r1, r2, r3, r4, [], ?_, rfl⟩ (by simp only [e_upd, e_putS, e_putN, e_t, e_c, Nat.reduceEqDiff, ↓reduceIte, reduceCtorEq, Nat.reduceAdd, k0]) (by simp only [e_upd, e_putS, e_putN, e_t, e_c, Nat.reduceEqDiff, ↓reduceIte, reduceCtorEq, Nat.reduceAdd]; rfl) (by simp only [e_upd, e_putS, e_putN, e_t, e_c, Nat.reduceEqDiff, ↓reduceIte, reduceCtorEq, Nat.reduceAdd, k3]; rfl)
      have := take_succ_getD (l := l) (i := 0) (by omega)
      rw [← this]
      simp [srt]
    · have ih : ∀ b, b < i → (ints .i64 (srt (l.take i)))[b]? = some (.int .i64 ((srt (l.take i)).getD b 0)) := fun b hb => ints_get (by omega)
      simp -implicitDefEqProofs (disch := omega) only [sN, ↓reduceIte, Nat.reduceEqDiff, Nat.reduceAdd, Nat.reduceMul, Nat.reduceSub, reduceCtorEq, e_none, e_some, e_bindS, h0, h3, h4, k_len hk]
      refine ⟨fun t s H => ∃ a : Nat, t = i - a ∧ a ≤ i ∧ (∀ b, b < a → (srt (l.take i)).getD b 0 < l.getD i 0) ∧ s 0 = mkS κ 0 0 n ∧ s 3 = .sliceU 1 0 i 1 ∧ s 4 = .int .i64 (i : Int) ∧ s 5 = .int .i64 (a : Int) ∧ H = [ro (ints .i64 l), sl (ints .i64 (srt (l.take i)))], i, ⟨0, rfl, by omega, fun b hb => by omega, ?_, ?_, ?_, ?_, rfl⟩, ?_⟩
      · simp only [e_upd, e_putS, e_putN, e_t, e_c, Nat.reduceEqDiff, ↓reduceIte, reduceCtorEq, Nat.reduceAdd, h0]
      · simp only [e_upd, e_putS, e_putN, e_t, e_c, Nat.reduceEqDiff, ↓reduceIte, reduceCtorEq, Nat.reduceAdd, h3]
      · simp only [e_upd, e_putS, e_putN, e_t, e_c, Nat.reduceEqDiff, ↓reduceIte, reduceCtorEq, Nat.reduceAdd, h4]
      · simp only [e_upd, e_putS, e_putN, e_t, e_c, Nat.reduceEqDiff, ↓reduceIte, reduceCtorEq, Nat.reduceAdd]; rfl
      rintro t s H ⟨a, ht, hai, hsm, h0, h3, h4, h5, rfl⟩
      have reg : a = i ∨ l.getD i 0 ≤ (srt (l.take i)).getD a 0 → ∀ (s : St), s 0 = mkS κ 0 0 n → s 3 = .sliceU 1 0 i 1 → s 4 = .int .i64 (i : Int) → s 5 = .int .i64 (a : Int) →
          iopsT Try.prog [ro (ints .i64 l), sl (ints .i64 (srt (l.take i)))] tr_sorted (fun s' H' => s' 0 = mkS κ 0 0 n ∧ s' 4 = .int .i64 (i : Int) ∧ s' 3 = .sliceU 6 0 (i + 1) 1 ∧ ∃ r1 r2 r3 r4, H' = [ro (ints .i64 l), sl (ints .i64 (srt (l.take i)))] ++ [r1, r2, r3, r4, sl (ints .i64 (srt (l.take (i + 1))))]) s [ro (ints .i64 l), sl (ints .i64 (srt (l.take i)))] := by
        intro hc s h0 h3 h4 h5
        have hins := ins_srt (l := l.take i) (x := l.getD i 0) (a := a) (by omega) hsm (by rw [htl]; exact hc)
        rw [hsuc] at hins
        rw [← hins]
        refine ins_region (H0 := [ro (ints .i64 l), sl (ints .i64 (srt (l.take i)))]) (l := l) (o := srt (l.take i)) (i := i) (a := a) (u := .sliceU 1 0 a 1) (w := .sliceU 1 a (i - a) 1) h0 h3 h4 h5 i0 (fun _ => rfl) (by omega) hsl hai (by omega) ?_ ?_ rfl rfl ?_ ?_
        · simp [aslice, ahi, abound, hai]
        · simp [aslice, ahi, abound, hai]
        · intro R
          simp only [asrc, if_true, Nat.mul_one]
          by_cases ha : a = 0
          · subst ha; simp [ints]
          · rw [if_neg ha]; simp [cellsAt, Vh.rowAt, sl, hsl, hai, ints_take, ints_length]
        · intro R
          simp only [asrc, if_true, Nat.mul_one]
          by_cases ha : i - a = 0
          · rw [if_pos ha, List.drop_eq_nil_of_le (by omega)]; rfl
          · rw [if_neg ha]
            simp [cellsAt, Vh.rowAt, sl, hsl, ints_length, show a + (i - a) ≤ i by omega]
            rw [List.take_of_length_le (by simp [hsl, ints_length])]
            simp [ints]
      have lu : alen (.sliceU 1 0 i 1) = some i := rfl
      by_cases hai2 : (a : Int) < (i : Int)
      · have hai3 : a < i := by omega
        by_cases hcmp : (srt (l.take i)).getD a 0 < l.getD i 0
        · simp -implicitDefEqProofs (disch := omega) only [sN, ↓reduceIte, Nat.reduceEqDiff, Nat.reduceAdd, Nat.reduceMul, Nat.reduceSub, reduceCtorEq, e_none, e_some, e_bindS, h0, h3, h4, h5, lu, i0, hx, ih a hai3]
          refine loop_keep (m := i - (a + 1)) (by omega) ⟨a + 1, rfl, by omega, ?_, ?_, ?_, ?_, ?_, rfl⟩
          · intro b hb
            by_cases e : b = a
            · subst e; exact hcmp
            · exact hsm b (by omega)
          · simp only [e_upd, e_putS, e_putN, e_t, e_c, Nat.reduceEqDiff, ↓reduceIte, reduceCtorEq, Nat.reduceAdd, h0]
          · simp only [e_upd, e_putS, e_putN, e_t, e_c, Nat.reduceEqDiff, ↓reduceIte, reduceCtorEq, Nat.reduceAdd, h3]
          · simp only [e_upd, e_putS, e_putN, e_t, e_c, Nat.reduceEqDiff, ↓reduceIte, reduceCtorEq, Nat.reduceAdd, h4]
          · simp only [e_upd, e_putS, e_putN, e_t, e_c, Nat.reduceEqDiff, ↓reduceIte, reduceCtorEq, Nat.reduceAdd]; rfl
        · simp -implicitDefEqProofs (disch := omega) only [sN, ↓reduceIte, Nat.reduceEqDiff, Nat.reduceAdd, Nat.reduceMul, Nat.reduceSub, reduceCtorEq, e_none, e_some, e_bindS, h0, h3, h4, h5, lu, i0, hx, ih a hai3, e_tops]
          refine tops_gen _ (reg (.inr (by omega)) _ (by simp only [e_upd, e_putS, e_putN, e_t, e_c, Nat.reduceEqDiff, ↓reduceIte, reduceCtorEq, Nat.reduceAdd, h0]) (by simp only [e_upd, e_putS, e_putN, e_t, e_c, Nat.reduceEqDiff, ↓reduceIte, reduceCtorEq, Nat.reduceAdd, h3]) (by simp only [e_upd, e_putS, e_putN, e_t, e_c, Nat.reduceEqDiff, ↓reduceIte, reduceCtorEq, Nat.reduceAdd, h4]) (by simp only [e_upd, e_putS, e_putN, e_t, e_c, Nat.reduceEqDiff, ↓reduceIte, reduceCtorEq, Nat.reduceAdd, h5])) ?_
          rintro s' H' ⟨k0, k4, k3, r1, r2, r3, r4, rfl⟩
          simp -implicitDefEqProofs (disch := omega) only [sN, ↓reduceIte, Nat.reduceEqDiff, Nat.reduceAdd, Nat.reduceMul, Nat.reduceSub, reduceCtorEq, e_none, e_some, e_bindS, k0, k3, k4]
          exact close _ _ 6 ⟨r1, r2, r3, r4, [sl (ints .i64 (srt (l.take i)))], rfl, rfl⟩ (by simp only [e_upd, e_putS, e_putN, e_t, e_c, Nat.reduceEqDiff, ↓reduceIte, reduceCtorEq, Nat.reduceAdd, k0]) (by simp only [e_upd, e_putS, e_putN, e_t, e_c, Nat.reduceEqDiff, ↓reduceIte, reduceCtorEq, Nat.reduceAdd]; rfl) (by simp only [e_upd, e_putS, e_putN, e_t, e_c, Nat.reduceEqDiff, ↓reduceIte, reduceCtorEq, Nat.reduceAdd, k3])
      · have hd : decide ((a : Int) < (i : Int)) = false := decide_eq_false hai2
        simp -implicitDefEqProofs (disch := omega) only [sN, ↓reduceIte, Nat.reduceEqDiff, Nat.reduceAdd, Nat.reduceMul, Nat.reduceSub, reduceCtorEq, e_none, e_some, e_bindS, h0, h3, h4, h5, lu, e_tops]
        refine tops_gen _ (reg (.inl (by omega)) _ (by simp only [e_upd, e_putS, e_putN, e_t, e_c, Nat.reduceEqDiff, ↓reduceIte, reduceCtorEq, Nat.reduceAdd, h0]) (by simp only [e_upd, e_putS, e_putN, e_t, e_c, Nat.reduceEqDiff, ↓reduceIte, reduceCtorEq, Nat.reduceAdd, h3]) (by simp only [e_upd, e_putS, e_putN, e_t, e_c, Nat.reduceEqDiff, ↓reduceIte, reduceCtorEq, Nat.reduceAdd, h4]) (by simp only [e_upd, e_putS, e_putN, e_t, e_c, Nat.reduceEqDiff, ↓reduceIte, reduceCtorEq, Nat.reduceAdd, h5])) ?_
        rintro s' H' ⟨k0, k4, k3, r1, r2, r3, r4, rfl⟩
        simp -implicitDefEqProofs (disch := omega) only [sN, ↓reduceIte, Nat.reduceEqDiff, Nat.reduceAdd, Nat.reduceMul, Nat.reduceSub, reduceCtorEq, e_none, e_some, e_bindS, k0, k3, k4]
        exact close _ _ 6 ⟨r1, r2, r3, r4, [sl (ints .i64 (srt (l.take i)))], rfl, rfl⟩ (by simp only [e_upd, e_putS, e_putN, e_t, e_c, Nat.reduceEqDiff, ↓reduceIte, reduceCtorEq, Nat.reduceAdd, k0]) (by simp only [e_upd, e_putS, e_putN, e_t, e_c, Nat.reduceEqDiff, ↓reduceIte, reduceCtorEq, Nat.reduceAdd]; rfl) (by simp only [e_upd, e_putS, e_putN, e_t, e_c, Nat.reduceEqDiff, ↓reduceIte, reduceCtorEq, Nat.reduceAdd, k3])
  · have hjn : i = n := by omega
    subst hjn
    simp -implicitDefEqProofs (disch := omega) only [sN, ↓reduceIte, Nat.reduceEqDiff, Nat.reduceAdd, Nat.reduceMul, Nat.reduceSub, reduceCtorEq, e_none, e_some, e_bindS, h0, h4, k_len hk]
    have hfull : l.take i = l := List.take_of_length_le (by omega)
    rcases hg with ⟨hz, h3, rfl⟩ | ⟨hpos, h3, rfl⟩
    · refine ⟨_, _, Weak.pad, by simp, ?_⟩
      unfold rs_rSorted; rw [q_tmp, q_then]
      have hl0 : l = [] := List.eq_nil_of_length_eq_zero (by omega)
      subst hl0
      rw [show srt [] = [] by simp [srt]]
      exact ⟨.nil, false, rfl, by simp only [e_upd, e_putS, e_putN, e_t, e_c, Nat.reduceEqDiff, ↓reduceIte, reduceCtorEq, Nat.reduceAdd, h3]; rfl, rfl⟩
    · refine ret_keep (by simp) ?_
      unfold rs_rSorted; rw [q_tmp, q_then]
      rw [hfull]
      exact ⟨.u, true, trivial, by simp only [e_upd, e_putS, e_putN, e_t, e_c, Nat.reduceEqDiff, ↓reduceIte, reduceCtorEq, Nat.reduceAdd, h3, srt_length, hln]; rfl, rfl⟩

theorem rSample_calls (st n k : Nat) (hn : n ≤ 65536) (hk : k ≤ n) : ACalls Try.prog 74 [.int .u64 (st : Int), .int .i64 (n : Int), .int .i64 (k : Int)] [] (List.range 0) fun v H => ∃ κ b, okS κ k ∧ v = .tuple [.int .u64 ((pst n st : Nat) : Int), mkS κ 0 0 k] ∧ H = [some ⟨true, b, ints .i64 (smp n k st)⟩] := by
  refine ACalls.body Try.func74 ent_rSample ir_rSample_ok rs_rSample_ok Try.ntmps74 (by simp) rfl ?_
  unfold ir_rSample
  have e0 : s0 [.int .u64 (st : Int), .int .i64 (n : Int), .int .i64 (k : Int)] 0 = .int .u64 st := rfl
  have e1 : s0 [.int .u64 (st : Int), .int .i64 (n : Int), .int .i64 (k : Int)] 1 = .int .i64 n := rfl
  have e2 : s0 [.int .u64 (st : Int), .int .i64 (n : Int), .int .i64 (k : Int)] 2 = .int .i64 k := rfl
  have hpl := pml_length n st
  have htl : ((pml n st).take k).length = k := by rw [List.length_take]; omega
  simp -implicitDefEqProofs (disch := omega) only [sN, ↓reduceIte, Nat.reduceEqDiff, Nat.reduceAdd, Nat.reduceMul, Nat.reduceSub, reduceCtorEq, e_none, e_some, e_bindS, e0, e1, e2]
  refine call_do (σ := []) (rPerm_calls st n hn) rfl rfl rfl rfl trivial fun v0 H0' ⟨κ, b, hok, h1, h2⟩ => ?_
  subst h1; subst h2
  have hm : merge [] [] [] [some (⟨true, b, ints .i64 (pml n st)⟩ : ARow)] = [some ⟨true, b, ints .i64 (pml n st)⟩] := by simp [merge, mergeGo, renRow, ints_ren]
  rw [hm, n_tuple, n_lcons, n_lcons, n_lnil, n_int, n_mkS (r' := 0) (d := 0) rfl]
  have hok' : okS κ k := by cases κ <;> simp only [okS] at * <;> omega
  simp -implicitDefEqProofs (disch := omega) only [sN, ↓reduceIte, Nat.reduceEqDiff, Nat.reduceAdd, Nat.reduceMul, Nat.reduceSub, reduceCtorEq, e_none, e_some, e_bindS, e0, e1, e2, List.getElem?_cons_zero, List.getElem?_cons_succ, k_sl hok]
  have hs := rSorted_calls κ ((pml n st).take k) (by rw [htl]; exact hok') (by rw [htl]; omega)
  rw [htl] at hs
  refine call_ints (κ := κ) (r := 0) (row := ⟨true, b, ints .i64 (pml n st)⟩) hs rfl rfl ?_ rfl ?_
  · rw [htl, ints_take]
  rintro v0 H0' ⟨κ', b', hok2, rfl, rfl⟩
  rw [srt_length, htl] at *
  rw [n_mkS (r' := 1) (d := 0) rfl, show (List.map (renRow (sig [(0, 0)] [some (⟨true, b, ints .i64 (pml n st)⟩ : ARow)].length)) (([ro (ints .i64 ((pml n st).take k))] ++ [some (⟨true, b', ints .i64 (srt ((pml n st).take k))⟩ : ARow)]).drop 1)) = [some ⟨true, b', ints .i64 (srt ((pml n st).take k))⟩] by simp [renRow, ints_ren]]
  simp -implicitDefEqProofs (disch := omega) only [sN, ↓reduceIte, Nat.reduceEqDiff, Nat.reduceAdd, Nat.reduceMul, Nat.reduceSub, reduceCtorEq, e_none, e_some, e_bindS, e0, e1, e2, List.cons_append, List.nil_append]
  refine ret_gc [1] rfl ?_ (by simp) ?_
  · simp [gcH, Vh.rowAt, ints_ren, ints_cell]
  · unfold rs_rSample; rw [q_tmp2, q_then]
    refine ⟨κ', b', hok2, ?_, ?_⟩
    · simp only [gcS, e_upd, e_putS, e_putN, e_t, e_c, Nat.reduceEqDiff, ↓reduceIte, reduceCtorEq, Nat.reduceAdd, n_int]
      rw [n_mkS (r' := 0) (d := 0) rfl]
    · simp [gcH, Vh.rowAt, ints_ren]
end Go.Proofs.Ythbhljolpnbdlaa.S2



/- Contracts: what is refused; a call that draws, and the one of the definition. -/
-- NEWSET
namespace Go.Proofs.Ythbhljolpnbdlaa.S2
open Go Go.Vh

section
variable {P : Program} {f : FuncId} {W0 : List Nat} {K : St → AHeap → Prop} {d : Option Nat} {s : St} {H : AHeap} {args caps args0 : List AV}
end

theorem dSampleNo_calls (st : Nat) (n k : Int) (h0 : -9223372036854775808 ≤ n) (h1 : n ≤ 9223372036854775807) (k0 : -9223372036854775808 ≤ k) (k1 : k ≤ 9223372036854775807) (hn : n < 0 ∨ 65536 < n ∨ k < 0 ∨ n < k) : ACalls Try.prog 73 [.ptr 0 0, .int .i64 n, .int .i64 k] [dr 0 st] [0] fun v H => v = .tuple [.nilslice, .int .i64 3] ∧ H = [dr 0 st] := by
  refine ACalls.body Try.func73 ent_dSample ir_dSample_ok rs_dSample_ok Try.ntmps73 (by simp) rfl ?_
  unfold ir_dSample
  have e0 : s0 [.ptr 0 0, .int .i64 n, .int .i64 k] 0 = .ptr 0 0 := rfl
  have e1 : s0 [.ptr 0 0, .int .i64 n, .int .i64 k] 1 = .int .i64 n := rfl
  have e2 : s0 [.ptr 0 0, .int .i64 n, .int .i64 k] 2 = .int .i64 k := rfl
  simp -implicitDefEqProofs (disch := omega) only [sN, ↓reduceIte, Nat.reduceEqDiff, Nat.reduceAdd, Nat.reduceMul, Nat.reduceSub, reduceCtorEq, e_none, e_some, e_bindS, e0, e1, e2]
  refine call_dr (st := st) (st' := st) (r := 0) (rest := []) (dValid_calls st) rfl rfl rfl rfl ?_
  simp -implicitDefEqProofs (disch := omega) only [sN, ↓reduceIte, Nat.reduceEqDiff, Nat.reduceAdd, Nat.reduceMul, Nat.reduceSub, reduceCtorEq, e_none, e_some, e_bindS, p_makeFunc, p_makeBound, p_field, p_fieldAddr, p_nilCheck, p_build, p_eqPtr, p_binB, p_lenStr, x_alloc, x_box, x_loadN, x_put, anew, aput, cellsAt, Vh.rowAt, afill, aparts, AV.cell, splice, aptr, List.all_cons, List.all_nil, Bool.and_self, Bool.and_true, Bool.true_and, List.length_cons, List.length_nil, List.nil_append, List.cons_append, List.map_cons, List.map_nil, List.take_succ_cons, List.take_zero, List.drop_succ_cons, List.drop_zero, List.take_nil, List.drop_nil, List.getElem?_cons_zero, List.getElem?_cons_succ, List.getElem?_nil, Option.getD_some, Option.getD_none, Option.bind_some, Option.map_some, List.set_cons_zero, List.set_cons_succ, List.set_nil, List.append_nil, Nat.le_refl, Nat.reduceLeDiff, and_self, and_true, true_and, Bool.false_eq_true, Bool.not_true, Bool.not_false, e0, e1, e2]
  refine call_sc (isLength_calls n) rfl rfl (fun _ => rfl) ?_
  by_cases hb : 0 ≤ n ∧ n ≤ 65536
  · have hd : decide (0 ≤ n ∧ n ≤ 65536) = true := decide_eq_true hb
    by_cases hk : k < 0
    · simp -implicitDefEqProofs (disch := omega) only [sN, ↓reduceIte, Nat.reduceEqDiff, Nat.reduceAdd, Nat.reduceMul, Nat.reduceSub, reduceCtorEq, e_none, e_some, e_bindS, p_makeFunc, p_makeBound, p_field, p_fieldAddr, p_nilCheck, p_build, p_eqPtr, p_binB, p_lenStr, x_alloc, x_box, x_loadN, x_put, anew, aput, cellsAt, Vh.rowAt, afill, aparts, AV.cell, splice, aptr, List.all_cons, List.all_nil, Bool.and_self, Bool.and_true, Bool.true_and, List.length_cons, List.length_nil, List.nil_append, List.cons_append, List.map_cons, List.map_nil, List.take_succ_cons, List.take_zero, List.drop_succ_cons, List.drop_zero, List.take_nil, List.drop_nil, List.getElem?_cons_zero, List.getElem?_cons_succ, List.getElem?_nil, Option.getD_some, Option.getD_none, Option.bind_some, Option.map_some, List.set_cons_zero, List.set_cons_succ, List.set_nil, List.append_nil, Nat.le_refl, Nat.reduceLeDiff, and_self, and_true, true_and, Bool.false_eq_true, Bool.not_true, Bool.not_false, e0, e1, e2, hd]
      exact ret_keep (by simp) ⟨by simp only [e_upd, e_putS, e_putN, e_t, e_c, Nat.reduceEqDiff, ↓reduceIte, reduceCtorEq, Nat.reduceAdd], rfl⟩
    · simp -implicitDefEqProofs (disch := omega) only [sN, ↓reduceIte, Nat.reduceEqDiff, Nat.reduceAdd, Nat.reduceMul, Nat.reduceSub, reduceCtorEq, e_none, e_some, e_bindS, p_makeFunc, p_makeBound, p_field, p_fieldAddr, p_nilCheck, p_build, p_eqPtr, p_binB, p_lenStr, x_alloc, x_box, x_loadN, x_put, anew, aput, cellsAt, Vh.rowAt, afill, aparts, AV.cell, splice, aptr, List.all_cons, List.all_nil, Bool.and_self, Bool.and_true, Bool.true_and, List.length_cons, List.length_nil, List.nil_append, List.cons_append, List.map_cons, List.map_nil, List.take_succ_cons, List.take_zero, List.drop_succ_cons, List.drop_zero, List.take_nil, List.drop_nil, List.getElem?_cons_zero, List.getElem?_cons_succ, List.getElem?_nil, Option.getD_some, Option.getD_none, Option.bind_some, Option.map_some, List.set_cons_zero, List.set_cons_succ, List.set_nil, List.append_nil, Nat.le_refl, Nat.reduceLeDiff, and_self, and_true, true_and, Bool.false_eq_true, Bool.not_true, Bool.not_false, e0, e1, e2, hd]
      exact ret_keep (by simp) ⟨by simp only [e_upd, e_putS, e_putN, e_t, e_c, Nat.reduceEqDiff, ↓reduceIte, reduceCtorEq, Nat.reduceAdd], rfl⟩
  · have hd : decide (0 ≤ n ∧ n ≤ 65536) = false := decide_eq_false hb
    simp -implicitDefEqProofs (disch := omega) only [sN, ↓reduceIte, Nat.reduceEqDiff, Nat.reduceAdd, Nat.reduceMul, Nat.reduceSub, reduceCtorEq, e_none, e_some, e_bindS, p_makeFunc, p_makeBound, p_field, p_fieldAddr, p_nilCheck, p_build, p_eqPtr, p_binB, p_lenStr, x_alloc, x_box, x_loadN, x_put, anew, aput, cellsAt, Vh.rowAt, afill, aparts, AV.cell, splice, aptr, List.all_cons, List.all_nil, Bool.and_self, Bool.and_true, Bool.true_and, List.length_cons, List.length_nil, List.nil_append, List.cons_append, List.map_cons, List.map_nil, List.take_succ_cons, List.take_zero, List.drop_succ_cons, List.drop_zero, List.take_nil, List.drop_nil, List.getElem?_cons_zero, List.getElem?_cons_succ, List.getElem?_nil, Option.getD_some, Option.getD_none, Option.bind_some, Option.map_some, List.set_cons_zero, List.set_cons_succ, List.set_nil, List.append_nil, Nat.le_refl, Nat.reduceLeDiff, and_self, and_true, true_and, Bool.false_eq_true, Bool.not_true, Bool.not_false, e0, e1, e2, hd]
    exact ret_keep (by simp) ⟨by simp only [e_upd, e_putS, e_putN, e_t, e_c, Nat.reduceEqDiff, ↓reduceIte, reduceCtorEq, Nat.reduceAdd], rfl⟩
end Go.Proofs.Ythbhljolpnbdlaa.S2


