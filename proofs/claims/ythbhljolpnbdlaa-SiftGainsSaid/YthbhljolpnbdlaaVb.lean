/- Heaps on top of heaps; lists of pairs of integers. Program-free. -/
import Derived.Test.YthbhljolpnbdlaaVX
import Derived.Test.YthbhljolpnbdlaaVY
set_option linter.unusedSimpArgs false
set_option linter.unusedVariables false
-- NEWSET
namespace Go.Vh
open Go

/-- The rows that were there are as they were. -/
def Base (H0 H : AHeap) : Prop := H0.length ≤ H.length ∧ ∀ i, i < H0.length → Vh.rowAt H i = Vh.rowAt H0 i
theorem Base.refl {H : AHeap} : Base H H := ⟨Nat.le_refl _, fun _ _ => rfl⟩
theorem Base.trans {H H' H'' : AHeap} (h : Base H H') (h' : Base H' H'') : Base H H'' := ⟨Nat.le_trans h.1 h'.1, fun i hi => by rw [h'.2 i (Nat.lt_of_lt_of_le hi h.1), h.2 i hi]⟩
theorem Base.app {H0 H R : AHeap} (h : Base H0 H) : Base H0 (H ++ R) := ⟨by have := h.1; simp; omega, fun i hi => by rw [rowAt_append_left (Nat.lt_of_lt_of_le hi h.1), h.2 i hi]⟩
theorem Base.set {H0 H : AHeap} {Q : Nat} {x : Option ARow} (h : Base H0 H) (hQ : H0.length ≤ Q) : Base H0 (H.set Q x) := ⟨by rw [List.length_set]; exact h.1, fun i hi => by rw [row_other0 (by omega), h.2 i hi]⟩
theorem Base.one {H R : AHeap} : Base H (H ++ R) := Base.refl.app
theorem Base.row {H H' : AHeap} {r : Nat} {row : ARow} (hb : Base H H') (h : Vh.rowAt H r = some row) : Vh.rowAt H' r = some row := by
  rw [hb.2 r (rowAt_lt h), h]
theorem set_last {H : AHeap} {a b : Option ARow} : (H ++ [a]).set H.length b = H ++ [b] := by simp

section
variable {s : St} {H : AHeap}
theorem x_boxN {x : Opd} {l : List AV} (hx : evo s x = .agg l) (hc : l.all AV.cell = true) : ieff (.box x) s H = some (.ptr H.length 0, H ++ [rw_ l]) := by
  simp [ieff, hx, aparts, anew, rw_]
  simpa using hc
theorem x_allocA {l : List AV} (hc : l.all AV.cell = true) : ieff (.alloc l) s H = some (.ptr H.length 0, H ++ [rw_ l]) := by
  simp only [ieff, anew, hc, if_true, Option.map_some, rw_]
theorem x_loadNA {x : Opd} {r : Nat} {row : ARow} {l : List AV} {n : Nat} (hx : evo s x = .ptr r 0) (hr : Vh.rowAt H r = some row) (hc : row.cells = l) (hn : l.length = n) : ieff (.loadN n x) s H = some (.agg l, H) := by
  simp only [ieff, hx, cellsAt, hr, Option.bind_some, hc, Nat.zero_add, hn, Nat.le_refl, if_true, List.drop_zero, Option.map_some]
  rw [← hn, List.take_length]
theorem x_loadNO {x : Opd} {r off n : Nat} {row : ARow} {l : List AV} (hx : evo s x = .ptr r off) (hr : Vh.rowAt H r = some row) (hc : (row.cells.drop off).take n = l) (hn : off + n ≤ row.cells.length) : ieff (.loadN n x) s H = some (.agg l, H) := by
  simp only [ieff, hx, cellsAt, hr, Option.bind_some, hn, if_true, Option.map_some, hc]
theorem x_storeNA {x y : Opd} {r n : Nat} {l l' : List AV} (hx : evo s x = .ptr r 0) (hy : evo s y = .agg l') (hv : l'.all AV.cell = true) (hr : Vh.rowAt H r = some ⟨true, false, l⟩) (hn : l'.length = n) (hl : l.length = n) : ieff (.store n x y) s H = some (.any, H.set r (rw_ l')) := by
  have e : splice l 0 l' = l' := by
    simp only [splice, List.take_zero, List.nil_append, Nat.zero_add]
    rw [List.drop_eq_nil_of_le (by omega), List.append_nil]
  simp only [ieff, hx, hy, aparts, hn, if_true, aput, hr, Option.bind_some]
  rw [if_pos ⟨trivial, by omega, hv⟩, e]
  rfl
end

/-- the i-th pair -/
def cb (l : List Int) (i : Nat) : Int := l.getD (i * 2) 0
def ck (l : List Int) (i : Nat) : Int := l.getD (i * 2 + 1) 0
theorem pair_at {l : List Int} {n i : Nat} (h : l.length = n * 2) (hi : i < n) : ((ints .i64 l).drop (i * 2)).take 2 = [.int .i64 (cb l i), .int .i64 (ck l i)] ∧ i * 2 + 2 ≤ (ints .i64 l).length := by
  have h1 : i * 2 < l.length := by omega
  have h2 : i * 2 + 1 < l.length := by omega
  have e : ints .i64 l = l.map (.int .i64) := rfl
  refine ⟨?_, by rw [ints_length]; omega⟩
  rw [e, List.drop_eq_getElem_cons (by simpa using h1), List.drop_eq_getElem_cons (by simpa using h2)]
  simp [cb, ck, List.getD_eq_getElem?_getD, h1, h2]
theorem pair_k {l : List Int} {n i : Nat} (h : l.length = n * 2) (hi : i < n) : (ints .i64 l)[i * 2 + 1]? = some (.int .i64 (ck l i)) := ints_get (by omega)

theorem k_idx2 {κ : SK} {N n r off : Nat} {k : IntKind} {x : Int} (hk : okS κ N) (h : n ≤ N) (h0 : 0 ≤ x) (h1 : x < n) : aindexAddr 2 (mkS κ r off n) (.int k x) = some (.ptr r (off + x.toNat * 2)) := by
  cases κ with
  | nil => simp only [okS] at hk; omega
  | cap c => simp [mkS, aindexAddr, h0, h1]
  | u => simp [mkS, aindexAddr, h0, h1]

/-- Pairs that were appended one by one, in rows above H0. -/
def Gr (H0 H : AHeap) (v : AV) (l : List Int) : Prop := (l = [] ∧ v = .nilslice) ∨ ∃ q n, 0 < n ∧ l.length = n * 2 ∧ v = .sliceU q 0 n 2 ∧ H0.length ≤ q ∧ Vh.rowAt H q = some ⟨true, true, ints .i64 l⟩
theorem Gr.app {H0 H R : AHeap} {v : AV} {l : List Int} (h : Gr H0 H v l) : Gr H0 (H ++ R) v l := by
  rcases h with h | ⟨q, n, h1, h2, h3, h4, h5⟩
  · exact .inl h
  · exact .inr ⟨q, n, h1, h2, h3, h4, by rw [rowAt_append_left (rowAt_lt h5)]; exact h5⟩
theorem Gr.base {H0 H H' : AHeap} {v : AV} {l : List Int} (h : Gr H0 H v l) (hb : Base H H') : Gr H0 H' v l := by
  rcases h with h | ⟨q, n, h1, h2, h3, h4, h5⟩
  · exact .inl h
  · exact .inr ⟨q, n, h1, h2, h3, h4, hb.row h5⟩
theorem Gr.set {H0 H : AHeap} {v : AV} {l : List Int} {r : Nat} {row row' : ARow} (h : Gr H0 H v l) (hr : Vh.rowAt H r = some row) (hs : row.slack = false) : Gr H0 (H.set r row') v l := by
  rcases h with h | ⟨q, n, h1, h2, h3, h4, h5⟩
  · exact .inl h
  · refine .inr ⟨q, n, h1, h2, h3, h4, ?_⟩
    rw [row_other0 (fun e => by subst e; rw [hr] at h5; cases h5; cases hs)]
    exact h5

end Go.Vh

