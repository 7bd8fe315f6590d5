/- Heaps on top of heaps. -/
import Derived.Test.YtjmceapnhmeflaaDoorVX
import Derived.Test.YtjmceapnhmeflaaDoorFH
set_option linter.unusedSimpArgs false
set_option linter.unusedVariables false
-- NEWSET
namespace Go.Proofs.YtjmceapnhmeflaaDoor
open Go Go.Vh

/-- The rows that were there are as they were. -/
def Base (H0 H : AHeap) : Prop := H0.length ≤ H.length ∧ ∀ i, i < H0.length → Vh.rowAt H i = Vh.rowAt H0 i
theorem Base.refl {H : AHeap} : Base H H := ⟨Nat.le_refl _, fun _ _ => rfl⟩
theorem Base.trans {H H' H'' : AHeap} (h : Base H H') (h' : Base H' H'') : Base H H'' := ⟨Nat.le_trans h.1 h'.1, fun i hi => by rw [h'.2 i (Nat.lt_of_lt_of_le hi h.1), h.2 i hi]⟩
theorem Base.app {H0 H R : AHeap} (h : Base H0 H) : Base H0 (H ++ R) := ⟨by have := h.1; simp; omega, fun i hi => by rw [rowAt_append_left (Nat.lt_of_lt_of_le hi h.1), h.2 i hi]⟩
theorem Base.set {H0 H : AHeap} {Q : Nat} {x : Option ARow} (h : Base H0 H) (hQ : H0.length ≤ Q) : Base H0 (H.set Q x) := ⟨by rw [List.length_set]; exact h.1, fun i hi => by rw [row_other0 (by omega), h.2 i hi]⟩
theorem Base.one {H R : AHeap} : Base H (H ++ R) := Base.refl.app
theorem Base.row {H H' : AHeap} {r : Nat} {row : ARow} (hb : Base H H') (h : Vh.rowAt H r = some row) : Vh.rowAt H' r = some row := by
  rw [hb.2 r (rowAt_lt h), h]
theorem NumV.set {H : AHeap} {w : AV} {x : Int} {m q : Nat} {row : Option ARow} (h : NumV H w x m) (hq : q < m) : NumV (H.set q row) w x m := by
  rcases h with h | ⟨κ, l, row, r, h1, h2, h3, h4⟩
  · exact .inl h
  · exact .inr ⟨κ, l, row, r, h1, h2, by rw [row_other0 (by omega)]; exact h3, h4⟩
theorem p_build2 {s : St} {x y : Opd} {v1 v2 : AV} (h1 : evo s x = v1) (h2 : evo s y = v2) (c1 : v1.cell = true) (c2 : v2.cell = true) : ipure (.build [.nilslice, .nilslice] [(0, (1, x)), (1, (1, y))]) s = some (.agg [v1, v2]) := by
  simp [ipure, afill, h1, h2, aparts_cell, c1, c2]
theorem AtN.base {H H' : AHeap} {v : AV} {x : Int} (h : AtN H v x) (hb : Base H H') : AtN H' v x := by
  obtain ⟨κ, l, row, r, h1, h2, h3, h4⟩ := h
  exact ⟨κ, l, row, r, h1, h2, hb.row h3, h4⟩
theorem AtN.cell {H : AHeap} {v : AV} {x : Int} (h : AtN H v x) : v.cell = true := by
  obtain ⟨κ, l, row, r, h1, rfl, _⟩ := h
  exact c_mkS
theorem x_boxN {s : St} {H : AHeap} {x : Opd} {l : List AV} (hx : evo s x = .agg l) (hc : l.all AV.cell = true) : ieff (.box x) s H = some (.ptr H.length 0, H ++ [rw_ l]) := by
  simp [ieff, hx, aparts, anew, rw_]
  simpa using hc

theorem call_sameX {x x' : Int} {u v : AV} {K : St → AHeap → Prop} {d : Option Nat} {s : St} {H : AHeap} (hu : AtN H u x) (hv : AtN H v x') (he : x = x') {k : Nat} (hb : x < BB ^ k) (hk : k ≤ 100000) (hK : K (putI d s (.bool true)) H) : thenC Tryd.prog K d s H [u, v] (.func 16 []) := by
  subst he
  exact call_same hu hv (Int.lt_of_lt_of_le hb (BB_mono hk)) hK

theorem NumV.normAt {H : AHeap} {w : AV} {x : Int} {m r0 : Nat} {row0 : ARow} (h : NumV H w x m) (h0 : Vh.rowAt H r0 = some row0) : AtN H w x := by
  rcases h with ⟨rfl, rfl⟩ | ⟨κ, l, row, r, h1, h2, h3, h4⟩
  · exact ⟨.nil, [], row0, r0, rfl, rfl, h0, rfl, fun i => by simp, rfl, rfl⟩
  · exact ⟨κ, l, row, r, h4.ok, h2, h3, h4.cells, h4.limbs, h4.num, h4.norm⟩
theorem set_last {H : AHeap} {a b : Option ARow} : (H ++ [a]).set H.length b = H ++ [b] := by simp
end Go.Proofs.YtjmceapnhmeflaaDoor


/- Contracts: checkFracs, FracCompare. -/
-- NEWSET
namespace Go.Proofs.YtjmceapnhmeflaaDoor
open Go Go.Vh

/-- A number of just n limbs. -/
def AtX (H : AHeap) (w : AV) (x : Int) (n : Nat) : Prop := ∃ κ l row r, okS κ l.length ∧ w = mkS κ r 0 l.length ∧ Vh.rowAt H r = some row ∧ row.cells.take l.length = ints .u32 l ∧ Limbs l ∧ num l = x ∧ l.length = n
theorem AtX.base {H H' : AHeap} {v : AV} {x : Int} {n : Nat} (h : AtX H v x n) (hb : Base H H') : AtX H' v x n := by
  obtain ⟨κ, l, row, r, h1, h2, h3, h4⟩ := h
  exact ⟨κ, l, row, r, h1, h2, hb.row h3, h4⟩
theorem AtX.cell {H : AHeap} {v : AV} {x : Int} {n : Nat} (h : AtX H v x n) : v.cell = true := by
  obtain ⟨κ, l, row, r, h1, rfl, _⟩ := h
  exact c_mkS
theorem AtX.k {H : AHeap} {v : AV} {x : Int} {n : Nat} (h : AtX H v x n) {k : Nat} (hk : n ≤ k) : ∃ r, AtK H v x r k := by
  obtain ⟨κ, l, row, r, h1, h2, h3, h4, h5, h6, h7⟩ := h
  exact ⟨r, κ, l, row, h1, h2, h3, h4, h5, h6, by omega⟩
theorem AtN.x {H : AHeap} {v : AV} {x : Int} (h : AtN H v x) {k : Nat} (hx : x < BB ^ k) : ∃ n, n ≤ k ∧ AtX H v x n := by
  obtain ⟨κ, l, row, r, h1, h2, h3, h4, h5, h6, h7⟩ := h
  exact ⟨l.length, norm_len h5 h7 (by rw [h6]; exact hx), κ, l, row, r, h1, h2, h3, h4, h5, h6, rfl⟩

/-- A fraction's two numbers, and their limbs. -/
structure Fr where
  w : AV
  w2 : AV
  x : Int
  y : Int
  n : Nat
  m : Nat
def Fr.ok (H : AHeap) (q : Fr) : Prop := AtX H q.w q.x q.n ∧ AtX H q.w2 q.y q.m ∧ q.n ≤ 100000 ∧ q.m ≤ 100000
def Fr.short (q : Fr) : Bool := decide (q.n ≤ 64 ∧ q.m ≤ 64)
def Fr.den (q : Fr) : Bool := decide (q.y ≠ 0)
theorem Fr.ok.base {H H' : AHeap} {q : Fr} (h : q.ok H) (hb : Base H H') : q.ok H' := ⟨h.1.base hb, h.2.1.base hb, h.2.2⟩
def frCells : List Fr → List AV
  | [] => []
  | q :: L => q.w :: q.w2 :: frCells L
theorem frCells_at : ∀ {L : List Fr} {i : Nat} {q : Fr}, L[i]? = some q → ((frCells L).drop (2 * i)).take 2 = [q.w, q.w2] ∧ 2 * i + 2 ≤ (frCells L).length
  | [], i, q, h => by simp at h
  | p :: L, 0, q, h => by simp at h; subst h; simp [frCells]
  | p :: L, i + 1, q, h => by
    have ih := frCells_at (L := L) (i := i) (q := q) (by simpa using h)
    rw [show 2 * (i + 1) = 2 * i + 1 + 1 by omega]
    simp only [frCells, List.drop_succ_cons, List.length_cons]
    exact ⟨ih.1, by omega⟩
/-- what checkFracs answers -/
def cfE (L : List Fr) : Int := if L.all Fr.short then (if L.all Fr.den then 0 else 7) else 4

theorem x_loadNO {s : St} {H : AHeap} {x : Opd} {r off n : Nat} {row : ARow} {l : List AV} (hx : evo s x = .ptr r off) (hr : Vh.rowAt H r = some row) (hc : (row.cells.drop off).take n = l) (hn : off + n ≤ row.cells.length) : ieff (.loadN n x) s H = some (.agg l, H) := by
  simp only [ieff, hx, cellsAt, hr, Option.bind_some, hn, if_true, Option.map_some, hc]
/-- tooLong, of two numbers somewhere -/
theorem call_long2 {x y : Int} {n m a : Nat} {u v : AV} {K : St → AHeap → Prop} {d : Option Nat} {s : St} {H : AHeap} {row : ARow} (hu : AtX H u x n) (hv : AtX H v y m) (hn : n ≤ 100000) (hm : m ≤ 100000) (ha : Vh.rowAt H a = some row) (hc : row.cells = [u, v])
    (hK : K (putI d s (.int .i64 (if n ≤ 64 ∧ m ≤ 64 then 0 else 4))) H) : thenC Tryd.prog K d s H [.slice a 0 2 2] (.func 60 []) := by
  obtain ⟨κ, l, row1, r, h1, rfl, h3, h4, h5, h6, rfl⟩ := hu
  obtain ⟨κ', l', row2, r', k1, rfl, k3, k4, k5, k6, rfl⟩ := hv
  exact call_tooLong2 h1 k1 (by omega) (by omega) ha hc h3 k3 hK

set_option maxHeartbeats 1000000 in
theorem checkFracs_calls (H0 : AHeap) (L : List Fr) {n r : Nat} {row : ARow} (hn : L.length = n) (hn1 : n ≤ 100) (hr : Vh.rowAt H0 r = some row) (hc : row.cells = frCells L) (hok : ∀ q ∈ L, q.ok H0) :
    ACalls Tryd.prog 77 [.slice r 0 n n] H0 (List.range H0.length) fun v H => v = .int .i64 (cfE L) ∧ Base H0 H := by
  refine ACalls.body Tryd.func77 ent_checkFracs ir_checkFracs_ok rs_checkFracs_ok Tryd.ntmps77 (by simp) rfl ?_
  unfold ir_checkFracs
  have e0 : s0 [.slice r 0 n n] 0 = .slice r 0 n n := rfl
  have hz : [AV.nilslice, AV.nilslice].all AV.cell = true := rfl
  simp -implicitDefEqProofs (disch := omega) only [sN, ↓reduceIte, Nat.reduceEqDiff, Nat.reduceAdd, Nat.reduceMul, Nat.reduceSub, reduceCtorEq, e_none, e_some, e_bindS, e0]
  refine ⟨fun t s H => ∃ i : Nat, t = n - i ∧ i ≤ n ∧ (∀ j q, j < i → L[j]? = some q → q.short = true) ∧ Base H0 H ∧ s 0 = .slice r 0 n n ∧ s 8 = .slice r 0 n n ∧ s 9 = .int .i64 n ∧ s 10 = .int .i64 (i : Int), n, ⟨0, rfl, by omega, fun j q h => by omega, Base.refl, ?_, ?_, ?_, ?_⟩, ?_⟩
  · simp only [e_upd, e_putS, e_putN, e_t, e_c, Nat.reduceEqDiff, ↓reduceIte, reduceCtorEq, Nat.reduceAdd, e0]
  · simp only [e_upd, e_putS, e_putN, e_t, e_c, Nat.reduceEqDiff, ↓reduceIte, reduceCtorEq, Nat.reduceAdd]
  · simp only [e_upd, e_putS, e_putN, e_t, e_c, Nat.reduceEqDiff, ↓reduceIte, reduceCtorEq, Nat.reduceAdd]
  · simp only [e_upd, e_putS, e_putN, e_t, e_c, Nat.reduceEqDiff, ↓reduceIte, reduceCtorEq, Nat.reduceAdd]; rfl
  rintro t s H ⟨i, rfl, hi, hS, hB, h0, h8, h9, h10⟩
  by_cases hlt : i < n
  · obtain ⟨q, hq⟩ : ∃ q, L[i]? = some q := ⟨L[i], List.getElem?_eq_getElem (by omega)⟩
    obtain ⟨c1, c2⟩ := frCells_at hq
    have hqo := (hok q (List.mem_of_getElem? hq)).base hB
    have hrH := hB.row hr
    have ia : aindexAddr 2 (.slice r 0 n n) (.int .i64 (i : Int)) = some (.ptr r (2 * i)) := by
      have h1 : (0 : Int) ≤ (i : Int) ∧ (i : Int) < ((n : Nat) : Int) := by omega
      simp only [aindexAddr, if_pos h1, Int.toNat_natCast]
      congr 2; omega
    simp -implicitDefEqProofs (disch := omega) only [sN, ↓reduceIte, Nat.reduceEqDiff, Nat.reduceAdd, Nat.reduceMul, Nat.reduceSub, reduceCtorEq, e_none, e_some, e_bindS, h0, h8, h9, h10, ia]
    rw [x_loadNO (n := 2) (r := r) (off := 2 * i) (l := [q.w, q.w2]) (by simp only [e_upd, e_putS, e_putN, e_t, e_c, Nat.reduceEqDiff, ↓reduceIte, reduceCtorEq, Nat.reduceAdd]) hrH (by rw [hc]; exact c1) (by rw [hc]; exact c2)]
    simp -implicitDefEqProofs (disch := omega) only [sN, ↓reduceIte, Nat.reduceEqDiff, Nat.reduceAdd, Nat.reduceMul, Nat.reduceSub, reduceCtorEq, e_none, e_some, e_bindS, h0, h8, h9, h10]
    rw [x_allocA hz]
    simp -implicitDefEqProofs (disch := omega) only [sN, ↓reduceIte, Nat.reduceEqDiff, Nat.reduceAdd, Nat.reduceMul, Nat.reduceSub, reduceCtorEq, e_none, e_some, e_bindS, h0, h8, h9, h10]
    rw [x_storeNA (n := 2) (r := H.length) (l := [.nilslice, .nilslice]) (l' := [q.w, q.w2]) (by simp only [e_upd, e_putS, e_putN, e_t, e_c, Nat.reduceEqDiff, ↓reduceIte, reduceCtorEq, Nat.reduceAdd]) (by simp only [e_upd, e_putS, e_putN, e_t, e_c, Nat.reduceEqDiff, ↓reduceIte, reduceCtorEq, Nat.reduceAdd]) (by simp [hqo.1.cell, hqo.2.1.cell]) (by simp [Vh.rowAt, rw_]) rfl rfl]
    rw [show (H ++ [rw_ [AV.nilslice, AV.nilslice]]).set H.length (rw_ [q.w, q.w2]) = H ++ [rw_ [q.w, q.w2]] by simp]
    have hb : Vh.rowAt (H ++ [rw_ [q.w, q.w2]]) H.length = some ⟨true, false, [q.w, q.w2]⟩ := by simp [Vh.rowAt, rw_]
    simp -implicitDefEqProofs (disch := omega) only [sN, ↓reduceIte, Nat.reduceEqDiff, Nat.reduceAdd, Nat.reduceMul, Nat.reduceSub, reduceCtorEq, e_none, e_some, e_bindS, h0, h8, h9, h10, p_fieldAddr, Nat.zero_add, hb, Option.bind_some, Option.map_some, List.getElem?_cons_zero, List.getElem?_cons_succ]
    rw [x_bs2 (v := q.w) (u := q.w2) (by simp only [e_upd, e_putS, e_putN, e_t, e_c, Nat.reduceEqDiff, ↓reduceIte, reduceCtorEq, Nat.reduceAdd]) (by simp only [e_upd, e_putS, e_putN, e_t, e_c, Nat.reduceEqDiff, ↓reduceIte, reduceCtorEq, Nat.reduceAdd]) hqo.1.cell hqo.2.1.cell rfl]
    simp -implicitDefEqProofs (disch := omega) only [sN, ↓reduceIte, Nat.reduceEqDiff, Nat.reduceAdd, Nat.reduceMul, Nat.reduceSub, reduceCtorEq, e_none, e_some, e_bindS, List.map_cons, List.map_nil]
    refine call_long2 (a := (H ++ [rw_ [q.w, q.w2]]).length) (row := ⟨true, false, [q.w, q.w2]⟩) (hqo.1.base Base.one.app) (hqo.2.1.base Base.one.app) hqo.2.2.1 hqo.2.2.2 (by simp [Vh.rowAt, rw_]) rfl ?_
    by_cases hs : q.n ≤ 64 ∧ q.m ≤ 64
    · rw [if_pos hs]
      simp -implicitDefEqProofs (disch := omega) only [sN, ↓reduceIte, Nat.reduceEqDiff, Nat.reduceAdd, Nat.reduceMul, Nat.reduceSub, reduceCtorEq, e_none, e_some, e_bindS, h0, h8, h9, h10]
      refine loop_keep (m := n - (i + 1)) (by omega) ⟨i + 1, rfl, by omega, fun j p hj hp => ?_, hB.app.app, ?_, ?_, ?_, ?_⟩
      · rcases Nat.lt_or_ge j i with h | h
        · exact hS j p h hp
        · obtain rfl : j = i := by omega
          rw [hq] at hp; cases hp
          exact decide_eq_true hs
      · simp only [e_upd, e_putS, e_putN, e_t, e_c, Nat.reduceEqDiff, ↓reduceIte, reduceCtorEq, Nat.reduceAdd, h0]
      · simp only [e_upd, e_putS, e_putN, e_t, e_c, Nat.reduceEqDiff, ↓reduceIte, reduceCtorEq, Nat.reduceAdd, h8]
      · simp only [e_upd, e_putS, e_putN, e_t, e_c, Nat.reduceEqDiff, ↓reduceIte, reduceCtorEq, Nat.reduceAdd, h9]
      · simp only [e_upd, e_putS, e_putN, e_t, e_c, Nat.reduceEqDiff, ↓reduceIte, reduceCtorEq, Nat.reduceAdd]; first | done | rfl
    · rw [if_neg hs]
      simp -implicitDefEqProofs (disch := omega) only [sN, ↓reduceIte, Nat.reduceEqDiff, Nat.reduceAdd, Nat.reduceMul, Nat.reduceSub, reduceCtorEq, e_none, e_some, e_bindS, h0, h8, h9, h10]
      refine ret_keep hB.app.app.1 ⟨?_, hB.app.app⟩
      have : L.all Fr.short = false := by
        rw [List.all_eq_false]
        exact ⟨q, List.mem_of_getElem? hq, by simp [Fr.short, hs]⟩
      simp only [e_upd, e_putS, e_putN, e_t, e_c, Nat.reduceEqDiff, ↓reduceIte, reduceCtorEq, Nat.reduceAdd, cfE, this]; try rfl
  · obtain rfl : i = n := by omega
    have hall : L.all Fr.short = true := by
      rw [List.all_eq_true]
      intro q hq
      obtain ⟨j, hj⟩ := List.getElem?_of_mem hq
      exact hS j q (by have := (List.getElem?_eq_some_iff.1 hj).1; omega) hj
    have hcf : cfE L = if L.all Fr.den then 0 else 7 := by unfold cfE; rw [hall, if_pos rfl]
    rw [hcf]
    simp -implicitDefEqProofs (disch := omega) only [sN, ↓reduceIte, Nat.reduceEqDiff, Nat.reduceAdd, Nat.reduceMul, Nat.reduceSub, reduceCtorEq, e_none, e_some, e_bindS, h0, h8, h9, h10]
    refine ⟨fun t s H => ∃ k : Nat, t = i - k ∧ k ≤ i ∧ (∀ j q, j < k → L[j]? = some q → q.den = true) ∧ Base H0 H ∧ s 24 = .slice r 0 i i ∧ s 25 = .int .i64 i ∧ s 26 = .int .i64 (k : Int), i, ⟨0, rfl, by omega, fun j q h => by omega, hB, ?_, ?_, ?_⟩, ?_⟩
    · simp only [e_upd, e_putS, e_putN, e_t, e_c, Nat.reduceEqDiff, ↓reduceIte, reduceCtorEq, Nat.reduceAdd]
    · simp only [e_upd, e_putS, e_putN, e_t, e_c, Nat.reduceEqDiff, ↓reduceIte, reduceCtorEq, Nat.reduceAdd]
    · simp only [e_upd, e_putS, e_putN, e_t, e_c, Nat.reduceEqDiff, ↓reduceIte, reduceCtorEq, Nat.reduceAdd]; rfl
    clear hB h0 h8 h9 h10 hS
    rintro t s H ⟨k, rfl, hk, hS, hB, h24, h25, h26⟩
    by_cases hlt : k < i
    · obtain ⟨q, hq⟩ : ∃ q, L[k]? = some q := ⟨L[k], List.getElem?_eq_getElem (by omega)⟩
      obtain ⟨c1, c2⟩ := frCells_at hq
      have hqo := (hok q (List.mem_of_getElem? hq)).base hB
      have hrH := hB.row hr
      have ia : aindexAddr 2 (.slice r 0 i i) (.int .i64 (k : Int)) = some (.ptr r (2 * k)) := by
        have h1 : (0 : Int) ≤ (k : Int) ∧ (k : Int) < ((i : Nat) : Int) := by omega
        simp only [aindexAddr, if_pos h1, Int.toNat_natCast]
        congr 2; omega
      simp -implicitDefEqProofs (disch := omega) only [sN, ↓reduceIte, Nat.reduceEqDiff, Nat.reduceAdd, Nat.reduceMul, Nat.reduceSub, reduceCtorEq, e_none, e_some, e_bindS, h24, h25, h26, ia]
      rw [x_loadNO (n := 2) (r := r) (off := 2 * k) (l := [q.w, q.w2]) (by simp only [e_upd, e_putS, e_putN, e_t, e_c, Nat.reduceEqDiff, ↓reduceIte, reduceCtorEq, Nat.reduceAdd]) hrH (by rw [hc]; exact c1) (by rw [hc]; exact c2)]
      simp -implicitDefEqProofs (disch := omega) only [sN, ↓reduceIte, Nat.reduceEqDiff, Nat.reduceAdd, Nat.reduceMul, Nat.reduceSub, reduceCtorEq, e_none, e_some, e_bindS, h24, h25, h26]
      rw [x_allocA hz]
      simp -implicitDefEqProofs (disch := omega) only [sN, ↓reduceIte, Nat.reduceEqDiff, Nat.reduceAdd, Nat.reduceMul, Nat.reduceSub, reduceCtorEq, e_none, e_some, e_bindS, h24, h25, h26]
      rw [x_storeNA (n := 2) (r := H.length) (l := [.nilslice, .nilslice]) (l' := [q.w, q.w2]) (by simp only [e_upd, e_putS, e_putN, e_t, e_c, Nat.reduceEqDiff, ↓reduceIte, reduceCtorEq, Nat.reduceAdd]) (by simp only [e_upd, e_putS, e_putN, e_t, e_c, Nat.reduceEqDiff, ↓reduceIte, reduceCtorEq, Nat.reduceAdd]) (by simp [hqo.1.cell, hqo.2.1.cell]) (by simp [Vh.rowAt, rw_]) rfl rfl]
      rw [show (H ++ [rw_ [AV.nilslice, AV.nilslice]]).set H.length (rw_ [q.w, q.w2]) = H ++ [rw_ [q.w, q.w2]] by simp]
      have hb : Vh.rowAt (H ++ [rw_ [q.w, q.w2]]) H.length = some ⟨true, false, [q.w, q.w2]⟩ := by simp [Vh.rowAt, rw_]
      simp -implicitDefEqProofs (disch := omega) only [sN, ↓reduceIte, Nat.reduceEqDiff, Nat.reduceAdd, Nat.reduceMul, Nat.reduceSub, reduceCtorEq, e_none, e_some, e_bindS, h24, h25, h26, p_fieldAddr, Nat.zero_add, hb, Option.bind_some, Option.map_some, List.getElem?_cons_zero, List.getElem?_cons_succ, List.map_cons, List.map_nil]
      obtain ⟨rk, hrk⟩ := (hqo.2.1.base (Base.one (R := [rw_ [q.w, q.w2]]))).k hqo.2.2.2
      refine call_in1 in_isZero rfl hrk (hk_P (fun _ => rfl) fun R => ?_)
      by_cases hs : q.y = 0
      · simp -implicitDefEqProofs (disch := omega) only [sN, ↓reduceIte, Nat.reduceEqDiff, Nat.reduceAdd, Nat.reduceMul, Nat.reduceSub, reduceCtorEq, e_none, e_some, e_bindS, h24, h25, h26, hs, decide_true]
        refine ret_keep hB.app.app.1 ⟨?_, hB.app.app⟩
        have : L.all Fr.den = false := by
          rw [List.all_eq_false]
          exact ⟨q, List.mem_of_getElem? hq, by simp [Fr.den, hs]⟩
        simp only [e_upd, e_putS, e_putN, e_t, e_c, Nat.reduceEqDiff, ↓reduceIte, reduceCtorEq, Nat.reduceAdd, this]; try rfl
      · simp -implicitDefEqProofs (disch := omega) only [sN, ↓reduceIte, Nat.reduceEqDiff, Nat.reduceAdd, Nat.reduceMul, Nat.reduceSub, reduceCtorEq, e_none, e_some, e_bindS, h24, h25, h26, hs, decide_false]
        refine loop_keep (m := i - (k + 1)) (by omega) ⟨k + 1, rfl, by omega, fun j p hj hp => ?_, hB.app.app, ?_, ?_, ?_⟩
        · rcases Nat.lt_or_ge j k with h | h
          · exact hS j p h hp
          · obtain rfl : j = k := by omega
            rw [hq] at hp; cases hp
            exact decide_eq_true hs
        · simp only [e_upd, e_putS, e_putN, e_t, e_c, Nat.reduceEqDiff, ↓reduceIte, reduceCtorEq, Nat.reduceAdd, h24]
        · simp only [e_upd, e_putS, e_putN, e_t, e_c, Nat.reduceEqDiff, ↓reduceIte, reduceCtorEq, Nat.reduceAdd, h25]
        · simp only [e_upd, e_putS, e_putN, e_t, e_c, Nat.reduceEqDiff, ↓reduceIte, reduceCtorEq, Nat.reduceAdd]; first | done | rfl
    · obtain rfl : k = i := by omega
      have hall2 : L.all Fr.den = true := by
        rw [List.all_eq_true]
        intro q hq
        obtain ⟨j, hj⟩ := List.getElem?_of_mem hq
        exact hS j q (by have := (List.getElem?_eq_some_iff.1 hj).1; omega) hj
      simp -implicitDefEqProofs (disch := omega) only [sN, ↓reduceIte, Nat.reduceEqDiff, Nat.reduceAdd, Nat.reduceMul, Nat.reduceSub, reduceCtorEq, e_none, e_some, e_bindS, h24, h25, h26]
      refine ret_keep hB.1 ⟨?_, hB⟩
      simp only [e_upd, e_putS, e_putN, e_t, e_c, Nat.reduceEqDiff, ↓reduceIte, reduceCtorEq, Nat.reduceAdd, hall2]; try rfl
end Go.Proofs.YtjmceapnhmeflaaDoor


/- Contracts: FracCompare. -/
-- NEWSET
namespace Go.Proofs.YtjmceapnhmeflaaDoor
open Go Go.Vh

section
variable {f : FuncId} {x y z z' e : Int} {k k' a b : Nat} {u v c : AV} {rest : List AV} {K : St → AHeap → Prop} {d : Option Nat} {s : St} {H : AHeap}
end

end Go.Proofs.YtjmceapnhmeflaaDoor

