/- Numbers to the base 256 that lie somewhere in a heap. -/
import Derived.Test.YtjmceapnhmeflaaDoorVX
import Derived.Test.YtjmceapnhmeflaaDoorEA
import Derived.Test.YtjmceapnhmeflaaDoorDG
set_option linter.unusedSimpArgs false
set_option linter.unusedVariables false
-- NEWSET
namespace Go.Proofs.YtjmceapnhmeflaaDoor
open Go Go.Vh

/-- The digits of n lie in the row r. -/
def AtD (H : AHeap) (v : AV) (n r : Nat) : Prop := ∃ κ row, okS κ (Dg.dg n).length ∧ v = mkS κ r 0 (Dg.dg n).length ∧ Vh.rowAt H r = some row ∧ row.cells.take (Dg.dg n).length = ints .i64 (Dg.dg n)
theorem AtD.lt {H : AHeap} {v : AV} {n r : Nat} (h : AtD H v n r) : r < H.length := by
  obtain ⟨_, _, _, _, h, _⟩ := h; exact row_lt h
theorem AtD.keep {H H' : AHeap} {v : AV} {n r : Nat} (h : AtD H v n r) (he : Vh.rowAt H' r = Vh.rowAt H r) : AtD H' v n r := by
  obtain ⟨κ, row, h1, h2, h3, h4⟩ := h
  exact ⟨κ, row, h1, h2, by rw [he, h3], h4⟩
theorem mkS_cell {κ : SK} {r o n : Nat} : (mkS κ r o n).cell = true := by cases κ <;> rfl
theorem flat_row {row : ARow} {σ : Sig} (h : row.cells.all AV.flat = true) (ho : row.own = true) : renRow σ (some row) = some row := by
  simp only [renRow, Option.map_some, flatL_ren h, ho, if_true]
  cases row; simp only at ho; subst ho; rfl
theorem AtD.len {H : AHeap} {v : AV} {n r : Nat} {row : ARow} (h : row.cells.take (Dg.dg n).length = ints .i64 (Dg.dg n)) : (Dg.dg n).length ≤ row.cells.length := by
  have := congrArg List.length h
  simp only [List.length_take, ints_length] at this
  omega
/-- Rows are only added, but for one. -/
def Ext (H H' : AHeap) (Q : Nat) : Prop := H.length ≤ H'.length ∧ ∀ i, i < H.length → i ≠ Q → Vh.rowAt H' i = Vh.rowAt H i
theorem Ext.refl {H : AHeap} {Q : Nat} : Ext H H Q := ⟨Nat.le_refl _, fun _ _ _ => rfl⟩
theorem Ext.trans {H H' H'' : AHeap} {Q : Nat} (h : Ext H H' Q) (h' : Ext H' H'' Q) : Ext H H'' Q :=
  ⟨Nat.le_trans h.1 h'.1, fun i hi hq => by rw [h'.2 i (Nat.lt_of_lt_of_le hi h.1) hq, h.2 i hi hq]⟩
theorem row_left {H R : AHeap} {i : Nat} (h : i < H.length) : Vh.rowAt (H ++ R) i = Vh.rowAt H i := by
  simp only [Vh.rowAt]; rw [List.getElem?_append_left h]
theorem Ext.app {H R : AHeap} {Q : Nat} : Ext H (H ++ R) Q := ⟨by simp, fun i hi _ => row_left hi⟩
theorem Ext.set {H : AHeap} {Q : Nat} {x : Option ARow} : Ext H (H.set Q x) Q := ⟨by simp, fun i _ hq => row_other0 (Ne.symm hq)⟩
theorem AtD.ext {H H' : AHeap} {v : AV} {n r Q : Nat} (h : AtD H v n r) (he : Ext H H' Q) (hq : r ≠ Q) : AtD H' v n r := h.keep (he.2 r h.lt hq)

section
variable {f : FuncId} {K : St → AHeap → Prop} {d : Option Nat} {s : St} {H : AHeap}
/-- A call with two numbers, which answers a new one. -/
theorem call_DD {x y n : Nat} {u v : AV} {a b : Nat} (h : ∀ κ κ', okS κ (Dg.dg x).length → okS κ' (Dg.dg y).length → ACalls Tryd.prog f [mkS κ 0 0 (Dg.dg x).length, mkS κ' 1 0 (Dg.dg y).length] [ro (ints .i64 (Dg.dg x)), ro (ints .i64 (Dg.dg y))] (List.range 2) (DNew [ro (ints .i64 (Dg.dg x)), ro (ints .i64 (Dg.dg y))] n))
    (hu : AtD H u x a) (hv : AtD H v y b) (hK : ∀ w row, row.own = true → row.cells.all AV.flat = true → AtD (H ++ [some row]) w n H.length → w.cell = true → K (putI d s w) (H ++ [some row])) : thenC Tryd.prog K d s H [u, v] (.func f []) := by
  obtain ⟨κ, ra, h1, rfl, h3, h4⟩ := hu
  obtain ⟨κ', rb, k1, rfl, k3, k4⟩ := hv
  refine call_cc (da := 0) (db := 0) (rest := []) (h κ κ' h1 k1) ints_flat ints_flat rfl h3 k3 (by rw [ints_length, Nat.zero_add]; exact AtD.len (H := H) (v := .any) (r := 0) h4) (by rw [ints_length, Nat.zero_add]; exact AtD.len (H := H) (v := .any) (r := 0) k4) (by rw [List.drop_zero, ints_length, h4]) (by rw [List.drop_zero, ints_length, k4]) rfl ?_
  rintro v0 H0' ⟨κ2, row, q1, rfl, rfl, q4, q5, q6⟩
  rw [n_mkS0 (r' := H.length) (by simp [sig]), show ([ro (ints .i64 (Dg.dg x)), ro (ints .i64 (Dg.dg y))] ++ [some row]).drop 2 = [some row] from rfl, List.map_cons, List.map_nil, flat_row q6 q4]
  exact hK _ row q4 q6 ⟨κ2, row, q1, rfl, by simp [Vh.rowAt], q5⟩ mkS_cell
/-- Two numbers are compared. -/
theorem call_cmp {x y : Nat} {u v : AV} {a b : Nat} (hx : (Dg.dg x).length ≤ 1000000) (hy : (Dg.dg y).length ≤ 1000000) (hu : AtD H u x a) (hv : AtD H v y b) (hK : K (putI d s (.int .i64 (Dg.cmpI x y))) H) : thenC Tryd.prog K d s H [u, v] (.func 84 []) := by
  obtain ⟨κ, ra, h1, rfl, h3, h4⟩ := hu
  obtain ⟨κ', rb, k1, rfl, k3, k4⟩ := hv
  have hc := rcompare_calls κ κ' (Dg.dg x) (Dg.dg y) h1 k1 hx hy (Dg.dg_dl x) (Dg.dg_dl y) (Dg.dg_tz x) (Dg.dg_tz y)
  rw [Dg.dg_num, Dg.dg_num] at hc
  refine call_cc (da := 0) (db := 0) (rest := []) hc ints_flat ints_flat rfl h3 k3 (by rw [ints_length, Nat.zero_add]; exact AtD.len (H := H) (v := .any) (r := 0) h4) (by rw [ints_length, Nat.zero_add]; exact AtD.len (H := H) (v := .any) (r := 0) k4) (by rw [List.drop_zero, ints_length, h4]) (by rw [List.drop_zero, ints_length, k4]) rfl ?_
  rintro v0 H0' ⟨rfl, rfl⟩
  rw [n_int, show ([ro (ints .i64 (Dg.dg x)), ro (ints .i64 (Dg.dg y))]).drop 2 = [] from rfl, List.map_nil, List.append_nil]
  exact hK
theorem call_add {x y : Nat} {u v : AV} {a b : Nat} (hx : (Dg.dg x).length ≤ 100000) (hy : (Dg.dg y).length ≤ 100000) (hu : AtD H u x a) (hv : AtD H v y b) (hK : ∀ w row, row.own = true → row.cells.all AV.flat = true → AtD (H ++ [some row]) w (x + y) H.length → w.cell = true → K (putI d s w) (H ++ [some row])) : thenC Tryd.prog K d s H [u, v] (.func 89 []) :=
  call_DD (fun κ κ' h1 h2 => radd_calls κ κ' (Dg.dg x) (Dg.dg y) x y h1 h2 hx hy (Dg.dg_dl x) (Dg.dg_dl y) (Dg.dg_num x) (Dg.dg_num y)) hu hv hK
theorem call_mul {x y : Nat} {u v : AV} {a b : Nat} (hx : (Dg.dg x).length ≤ 100000) (hy : (Dg.dg y).length ≤ 100000) (hu : AtD H u x a) (hv : AtD H v y b) (hK : ∀ w row, row.own = true → row.cells.all AV.flat = true → AtD (H ++ [some row]) w (x * y) H.length → w.cell = true → K (putI d s w) (H ++ [some row])) : thenC Tryd.prog K d s H [u, v] (.func 85 []) :=
  call_DD (fun κ κ' h1 h2 => rmul_calls κ κ' (Dg.dg x) (Dg.dg y) x y h1 h2 hx hy (Dg.dg_dl x) (Dg.dg_dl y) (Dg.dg_num x) (Dg.dg_num y)) hu hv hK
theorem call_sub {x y : Nat} {u v : AV} {a b : Nat} (hx : (Dg.dg x).length ≤ 100000) (hle : y ≤ x) (hu : AtD H u x a) (hv : AtD H v y b) (hK : ∀ w row, row.own = true → row.cells.all AV.flat = true → AtD (H ++ [some row]) w (x - y) H.length → w.cell = true → K (putI d s w) (H ++ [some row])) : thenC Tryd.prog K d s H [u, v] (.func 91 []) :=
  call_DD (fun κ κ' h1 h2 => rsub_calls κ κ' (Dg.dg x) (Dg.dg y) x y h1 h2 hx (Dg.len_le (Dg.dg_dl x) (Dg.dg_dl y) (Dg.dg_tz y) (by rw [Dg.dg_num, Dg.dg_num]; omega)) (Dg.dg_dl x) (Dg.dg_dl y) (Dg.dg_num x) (Dg.dg_num y) hle) hu hv hK
theorem call_small {n : Nat} (hn : n ≤ 9223372036854775807) (hK : ∀ w row, row.own = true → row.cells.all AV.flat = true → AtD (H ++ [some row]) w n H.length → w.cell = true → K (putI d s w) (H ++ [some row])) : thenC Tryd.prog K d s H [.int .i64 (n : Int)] (.func 109 []) := by
  refine call_fr (rsmall_calls n hn) rfl rfl ?_
  rintro v new ⟨κ2, row, q1, rfl, rfl, q4, q5, q6⟩
  rw [n_mkS0 (r' := H.length) (by simp [sig]), show ([] ++ [some row] : AHeap) = [some row] from rfl, List.map_cons, List.map_nil, flat_row q6 q4]
  exact hK _ row q4 q6 ⟨κ2, row, q1, by simp, by simp [Vh.rowAt], q5⟩ mkS_cell
/-- A list that lies in a row of its own is trimmed. -/
theorem call_trimD {κ : SK} {r : Nat} {b : Bool} {l : List Int} {n : Nat} (hk : okS κ l.length) (hm : l.length ≤ 1000000) (hr : Vh.rowAt H r = some ⟨true, b, ints .i64 l⟩) (hl : Dg.DL l) (hn : Dg.num l = n) (hK : ∀ w, AtD H w n r → w.cell = true → K (putI d s w) H) : thenC Tryd.prog K d s H [mkS κ r 0 l.length] (.func 63 []) := by
  refine call_ints (κ := κ) (l := l) (r := r) (row := ⟨true, b, ints .i64 l⟩) (rtrim_calls κ l hk (by omega)) rfl hr (by rw [← ints_length (k := .i64) (l := l), List.take_length]) rfl ?_
  rintro v0 H0' ⟨rfl, rfl⟩
  rw [n_mkS0 (r' := r) rfl, show ([ro (ints .i64 l)] : AHeap).drop 1 = [] from rfl, List.map_nil, List.append_nil]
  refine hK _ ?_ mkS_cell
  have ht := Dg.trim_dg hl
  rw [hn, Int.toNat_natCast, ← tz_dg] at ht
  have hle := tz_le l l.length
  have hll : tz l l.length = (Dg.dg n).length := by
    have := congrArg List.length ht
    rw [List.length_take] at this
    omega
  refine ⟨κ, ⟨true, b, ints .i64 l⟩, ?_, by rw [hll], hr, ?_⟩
  · rw [← hll]; cases κ <;> simp only [okS] at * <;> omega
  · rw [ints_take, ← hll, ht]
end
end Go.Proofs.YtjmceapnhmeflaaDoor


/- Contracts: the reference's long division. -/
-- NEWSET
namespace Go.Dg
theorem dg_lt (n : Nat) : n < 256 ^ (dg n).length := by
  have h := (nv_bound (dg_dl n) (dg n).length).2
  have h2 := dg_num n
  simp only [num] at h2
  rw [h2] at h
  have e : DB ^ (dg n).length = ((256 ^ (dg n).length : Nat) : Int) := by rw [Int.natCast_pow]; rfl
  rw [e] at h
  exact_mod_cast h
theorem dg_mul_len {n x : Nat} (h : x < n * 256) : (dg x).length ≤ (dg n).length + 1 := by
  refine dg_len_le ?_
  have := dg_lt n
  rw [Nat.pow_succ]
  exact Nat.lt_of_lt_of_le h (Nat.mul_le_mul_right _ (Nat.le_of_lt this))
theorem dl_cons {z : Int} {l : List Int} (hz : 0 ≤ z ∧ z ≤ 255) (h : DL l) : DL (z :: l) := fun i => by
  cases i with
  | zero => simpa using hz
  | succ i => simpa using h i
theorem ql_set0 {a : List Int} {b i : Nat} (h : i < a.length) : (ql a b (i + 1)).set i 0 = ql a b (i + 1) := by
  apply List.ext_getElem
  · simp
  · intro j h1 h2
    simp only [List.getElem_set]
    split
    · rename_i e; subst e
      simp [ql]
      omega
    · rfl
theorem pow_le8 {j : Nat} (h : j ≤ 7) : 2 ^ j ≤ 128 := Nat.le_trans (Nat.pow_le_pow_right (by omega) h) (by decide)
end Go.Dg
namespace Go.Proofs.YtjmceapnhmeflaaDoor
open Go Go.Vh

section
variable {s : St} {H : AHeap}
theorem AtD.src {v : AV} {n r : Nat} (h : AtD H v n r) : alen v = some (Dg.dg n).length ∧ asrc 1 v H = some (ints .i64 (Dg.dg n)) := by
  obtain ⟨κ, row, h1, rfl, h3, h4⟩ := h
  have hl := AtD.len (H := H) (v := .any) (r := 0) h4
  refine ⟨k_len h1 (Nat.le_refl _), ?_⟩
  generalize hd : Dg.dg n = l at *
  by_cases h0 : l.length = 0
  · obtain rfl : l = [] := List.eq_nil_of_length_eq_zero h0
    cases κ <;> simp [mkS, asrc, ints]
  · cases κ with
    | nil => simp only [okS] at h1; omega
    | cap c => simp [mkS, asrc, h0, cellsAt, h3, hl, h4]
    | u => simp [mkS, asrc, h0, cellsAt, h3, hl, h4]
theorem slLo {κ : SK} {n x : Nat} {l : List Int} (hk : okS κ n) (hl : l.length = n) (hx : x ≤ n) : ∃ u, aslice 1 (mkS κ 0 0 n) (some (.int .i64 (x : Int))) none = some u ∧ alen u = some (n - x) ∧ ∀ H, Vh.rowAt H 0 = some ⟨false, false, ints .i64 l⟩ → asrc 1 u H = some (ints .i64 (l.drop x)) := by
  have hd : (ints .i64 l).drop x = ints .i64 (l.drop x) := by simp [ints]
  cases κ with
  | nil =>
    simp only [okS] at hk
    obtain rfl : x = 0 := by omega
    obtain rfl : l = [] := List.eq_nil_of_length_eq_zero (by omega)
    exact ⟨.nilslice, by simp [mkS, aslice, ahi, abound], by simp [alen, hk], fun H _ => by simp [asrc, ints]⟩
  | cap c =>
    refine ⟨.slice 0 x (n - x) (c - x), by simp [mkS, aslice, ahi, abound, hx], rfl, fun H hr => ?_⟩
    by_cases h0 : n - x = 0
    · simp [asrc, h0, List.drop_eq_nil_of_le (show l.length ≤ x by omega), ints]
    · simp only [asrc, Nat.mul_one, if_neg h0, cellsAt, hr, Option.bind_some]
      rw [if_pos (by rw [ints_length]; omega), hd, List.take_of_length_le (by rw [ints_length, List.length_drop]; omega)]
  | u =>
    refine ⟨.sliceU 0 x (n - x) 1, by simp [mkS, aslice, ahi, abound, hx], rfl, fun H hr => ?_⟩
    by_cases h0 : n - x = 0
    · simp [asrc, h0, List.drop_eq_nil_of_le (show l.length ≤ x by omega), ints]
    · simp only [asrc, Nat.mul_one, if_neg h0, if_true, cellsAt, hr, Option.bind_some]
      rw [if_pos (by rw [ints_length]; omega), hd, List.take_of_length_le (by rw [ints_length, List.length_drop]; omega)]
/-- An append to a new slice of nothing. -/
theorem x_appE {x y : Opd} {r a : Nat} {u : AV} {xs : List Int} (hx : evo s x = .slice r 0 0 0) (hy : evo s y = u) (hl : alen u = some a) (hs : asrc 1 u H = some (ints .i64 xs)) (hb : a ≤ 1000000) :
    ieff (.append 1 8 x y) s H = some (mkS .u H.length 0 a, H ++ [sl (ints .i64 xs)]) := by
  simp only [ieff, hx, hy, hl, hs, Option.bind_some, aappend, Nat.zero_add]
  rw [if_pos (by omega)]
  simp [anew, ints_cell, sl, mkS]
/-- An append to a new slice of one number. -/
theorem x_app1 {x y : Opd} {L n rr : Nat} {z : Int} {v : AV} (hL : Vh.rowAt H L = rw_ [.int .i64 z]) (hv : AtD H v n rr) (hb : (Dg.dg n).length ≤ 1000000) :
    ∃ κ2 r2 sk R, (∀ s : St, evo s x = .slice L 0 1 1 → evo s y = v → ieff (.append 1 8 x y) s H = some (mkS κ2 r2 0 (z :: Dg.dg n).length, H ++ R)) ∧ okS κ2 (z :: Dg.dg n).length ∧ Vh.rowAt (H ++ R) r2 = some ⟨true, sk, ints .i64 (z :: Dg.dg n)⟩ ∧ L ≤ r2 := by
  obtain ⟨h1, h2⟩ := hv.src
  have hlt := row_lt (show Vh.rowAt H L = some ⟨true, false, [.int .i64 z]⟩ from hL)
  generalize Dg.dg n = l at *
  by_cases h0 : l.length = 0
  · obtain rfl : l = [] := List.eq_nil_of_length_eq_zero h0
    refine ⟨.cap 1, L, false, [], fun s hx hy => ?_, Nat.le_refl 1, by rw [List.append_nil, hL]; rfl, Nat.le_refl _⟩
    have hset : H.set L (some ⟨true, false, [.int .i64 z]⟩) = H := by
      apply List.ext_getElem?
      intro i
      rw [List.getElem?_set]
      by_cases e : L = i
      · subst e; rw [if_pos rfl, if_pos hlt]
        have hL' := hL
        rw [show rw_ [AV.int .i64 z] = some ⟨true, false, [.int .i64 z]⟩ from rfl, rowAt_some] at hL'
        exact hL'.symm
      · rw [if_neg e]
    have hi : ints .i64 ([] : List Int) = [] := rfl
    rw [hi] at h2
    simp only [ieff, hx, hy, h1, h2, Option.bind_some, aappend, List.length_nil, Nat.add_zero]
    rw [if_pos (by omega), if_neg (by omega), if_neg (by omega)]
    simp only [aput, hL, rw_, Option.bind_some]
    rw [if_pos ⟨trivial, by simp, rfl⟩]
    simp [splice, hset, mkS]
  · refine ⟨.u, H.length, true, [sl (ints .i64 (z :: l))], fun s hx hy => ?_, trivial, by simp [Vh.rowAt, sl], by omega⟩
    simp only [ieff, hx, hy, h1, h2, Option.bind_some, aappend]
    rw [if_pos (by omega), if_neg (by omega), if_pos (by omega)]
    simp only [cellsAt, hL, rw_, Option.bind_some]
    rw [if_pos (by simp)]
    simp [anew, sl, mkS, ints, Nat.add_comm, AV.cell]
end

/-- The doubles of a number: a row of slices. -/
def Dbl (H : AHeap) (q D k Q : Nat) (cells : List AV) : Prop := cells.length = k ∧ ∀ j, j < k → ∃ c r, cells[j]? = some c ∧ c.cell = true ∧ AtD H c (q * 2 ^ j) r ∧ r ≠ Q
theorem Dbl.ext {H H' : AHeap} {q D k Q : Nat} {cells : List AV} (h : Dbl H q D k Q cells) (he : Ext H H' Q) : Dbl H' q D k Q cells :=
  ⟨h.1, fun j hj => by obtain ⟨c, r, h1, h2, h3, h4⟩ := h.2 j hj; exact ⟨c, r, h1, h2, h3.ext he h4, h4⟩⟩

/-- the slice of the doubles -/
def dblS (D k : Nat) : AV := if k = 1 then .slice D 0 1 1 else .sliceU D 0 k 1
theorem dblS_idx {D k j : Nat} (h : j < k) : aindexAddr 1 (dblS D k) (.int .i64 (j : Int)) = some (.ptr D j) := by
  unfold dblS; split
  · subst k; simp [aindexAddr]; omega
  · simp [aindexAddr]; omega
theorem x_appD {s : St} {H : AHeap} {x y : Opd} {D k r : Nat} {cells : List AV} {c : AV} (hx : evo s x = dblS D k) (hy : evo s y = .slice r 0 1 1) (hD : Vh.rowAt H D = some ⟨true, decide (k ≠ 1), cells⟩) (hn : cells.length = k) (hk : 1 ≤ k) (hk8 : k ≤ 1000) (hr : Vh.rowAt H r = some ⟨true, false, [c]⟩) (hc : c.cell = true) (hall : cells.all AV.cell = true) :
    ieff (.append 1 24 x y) s H = some (dblS H.length (k + 1), (if k = 1 then H else H.set D none) ++ [sl (cells ++ [c])]) := by
  have hsrc : alen (.slice r 0 1 1) = some 1 ∧ asrc 1 (.slice r 0 1 1) H = some [c] := ⟨rfl, by simp [asrc, cellsAt, hr]⟩
  have hd : dblS H.length (k + 1) = .sliceU H.length 0 (k + 1) 1 := by unfold dblS; rw [if_neg (by omega)]
  rw [hd]
  by_cases h1 : k = 1
  · subst h1
    simp only [ieff, hx, hy, hsrc.1, hsrc.2, Option.bind_some, dblS, if_true, aappend]
    rw [if_pos (by omega), if_neg (by omega), if_pos (by omega)]
    simp only [cellsAt, hD, Option.bind_some]
    rw [if_pos (by omega)]
    have ht : cells.take 1 = cells := List.take_of_length_le (by omega)
    simp [anew, sl, ht, hc]
    simpa using hall
  · rw [if_neg h1]
    have hx' : evo s x = .sliceU D 0 k 1 := by rw [hx]; unfold dblS; rw [if_neg h1]
    rw [x_appU (q := D) (n := k) (r := r) (m := 1) (c := 1) (row := ⟨true, false, [c]⟩) (xs := [c]) (old := cells) hx' hy (by rw [hD]; simp [h1]) hn hr rfl (by simp) (by omega) (by simp [hc])]
end Go.Proofs.YtjmceapnhmeflaaDoor


/- Contracts: the reference's long division: the walk. -/
-- NEWSET
namespace Go.Proofs.YtjmceapnhmeflaaDoor
open Go Go.Vh

/-- The quotient, new. -/
def QNew (base : AHeap) (n : Nat) (v : AV) (H : AHeap) : Prop := ∃ κ v2 row, okS κ (Dg.dg n).length ∧ v = .tuple [mkS κ base.length 0 (Dg.dg n).length, v2] ∧ H = base ++ [some row] ∧ row.own = true ∧ row.cells.take (Dg.dg n).length = ints .i64 (Dg.dg n) ∧ row.cells.all AV.flat = true

set_option maxHeartbeats 2000000 in
theorem rdivide_calls (κ κ' : SK) (p q : Nat) (hq : 0 < q) (hk : okS κ (Dg.dg p).length) (hk' : okS κ' (Dg.dg q).length) (hm : (Dg.dg p).length ≤ 10000) (hm' : (Dg.dg q).length ≤ 10000) :
    ACalls Tryd.prog 121 [mkS κ 0 0 (Dg.dg p).length, mkS κ' 1 0 (Dg.dg q).length] [ro (ints .i64 (Dg.dg p)), ro (ints .i64 (Dg.dg q))] (List.range 2) (QNew [ro (ints .i64 (Dg.dg p)), ro (ints .i64 (Dg.dg q))] (p / q)) := by
  refine ACalls.body Tryd.func121 ent_rdivide ir_rdivide_ok rs_rdivide_ok Tryd.ntmps121 (by simp) rfl ?_
  unfold ir_rdivide
  have e0 : s0 [mkS κ 0 0 (Dg.dg p).length, mkS κ' 1 0 (Dg.dg q).length] 0 = mkS κ 0 0 (Dg.dg p).length := rfl
  have e1 : s0 [mkS κ 0 0 (Dg.dg p).length, mkS κ' 1 0 (Dg.dg q).length] 1 = mkS κ' 1 0 (Dg.dg q).length := rfl
  have ha := Dg.dg_dl p
  have na := Dg.dg_num p
  have ta := Dg.dg_tz p
  have hb := Dg.dg_dl q
  have nb := Dg.dg_num q
  have tb := Dg.dg_tz q
  have hAq : ∀ H : AHeap, Vh.rowAt H 1 = some ⟨false, false, ints .i64 (Dg.dg q)⟩ → AtD H (mkS κ' 1 0 (Dg.dg q).length) q 1 := fun H h => ⟨κ', _, hk', rfl, h, by rw [← ints_length (k := .i64) (l := Dg.dg q), List.take_length]⟩
  have hlens : ∀ x, x < q * 256 → (Dg.dg x).length ≤ 10001 := fun x h => Nat.le_trans (Dg.dg_mul_len h) (by omega)
  have hlen2 : ∀ j, j ≤ 7 → (Dg.dg (q * 2 ^ j)).length ≤ 10001 := fun j h => hlens _ (by have := Dg.pow_le8 h; exact Nat.mul_lt_mul_of_pos_left (by omega) hq)
  have hbl : 0 < (Dg.dg q).length := by rw [Dg.dg_pos hq]; simp
  obtain ⟨a, haq⟩ : ∃ a, Dg.dg p = a := ⟨_, rfl⟩
  obtain ⟨la, hla⟩ : ∃ la, a.length = la := ⟨_, rfl⟩
  obtain ⟨lb, hlb⟩ : ∃ lb, (Dg.dg q).length = lb := ⟨_, rfl⟩
  obtain ⟨B, hB⟩ : ∃ B, ints .i64 (Dg.dg q) = B := ⟨_, rfl⟩
  rw [hB, hlb] at hAq
  rw [haq, hla] at hk hm e0 e1 ta ⊢
  rw [haq] at ha na
  rw [hlb] at hk' hm' e0 e1 hbl ⊢
  rw [hB]
  by_cases hlt : (la : Int) < (lb : Int)
  · have hpq : p / q = 0 := by
      apply Nat.div_eq_of_lt
      have := Dg.nv_len_lt ha hb (n := la) (m := lb) (by omega) (by
        have h := Dg.tz_last (Dg.dg q) (Dg.dg q).length (by rw [tb]; omega)
        rw [tb, hlb] at h; exact h)
      simp only [Dg.num, hla] at na
      simp only [Dg.num, hlb] at nb
      omega
    simp (disch := omega) only [sN, ↓reduceIte, Nat.reduceEqDiff, Nat.reduceAdd, Nat.reduceMul, Nat.reduceSub, reduceCtorEq, e_none, e_some, e_bindS, e0, e1, k_len hk, k_len hk']
    refine ⟨_, _, Weak.pad, by simp, ?_⟩
    unfold rs_rdivide; rw [q_tmp2, q_then, hpq]
    refine ⟨.nil, mkS κ 0 0 la, ⟨true, false, []⟩, by rw [Dg.dg_zero]; rfl, ?_, rfl, rfl, by rw [Dg.dg_zero]; rfl, rfl⟩
    simp only [e_upd, e_putS, e_putN, e_t, e_c, Nat.reduceEqDiff, ↓reduceIte, reduceCtorEq, Nat.reduceAdd, e0, Dg.dg_zero]; rfl
  simp (disch := omega) only [sN, ↓reduceIte, Nat.reduceEqDiff, Nat.reduceAdd, Nat.reduceMul, Nat.reduceSub, reduceCtorEq, e_none, e_some, e_bindS, e0, e1, k_len hk, k_len hk']
  rw [x_bs1 (v := mkS κ' 1 0 lb) (by simp only [e_upd, e_putS, e_putN, e_t, e_c, Nat.reduceEqDiff, ↓reduceIte, reduceCtorEq, Nat.reduceAdd, e1]) mkS_cell]
  simp (disch := omega) only [sN, ↓reduceIte, Nat.reduceEqDiff, Nat.reduceAdd, Nat.reduceMul, Nat.reduceSub, reduceCtorEq, e_none, e_some, e_bindS, e0, e1, List.cons_append, List.nil_append]
  refine ⟨fun m s H => ∃ (k D : Nat) (cells : List AV), m = 8 - k ∧ 1 ≤ k ∧ k ≤ 8 ∧ s 0 = mkS κ 0 0 la ∧ s 1 = mkS κ' 1 0 lb ∧ s 6 = dblS D k ∧ s 7 = .int .i64 (k : Int) ∧ 2 ≤ D ∧ Vh.rowAt H 0 = some ⟨false, false, ints .i64 a⟩ ∧ Vh.rowAt H 1 = some ⟨false, false, B⟩ ∧ Vh.rowAt H D = some ⟨true, decide (k ≠ 1), cells⟩ ∧ Dbl H q D k D cells, 7, ⟨1, 2, [mkS κ' 1 0 lb], rfl, by omega, by omega, ?_, ?_, ?_, ?_, by omega, rfl, rfl, rfl, rfl, ?_⟩, ?_⟩
  · simp only [e_upd, e_putS, e_putN, e_t, e_c, Nat.reduceEqDiff, ↓reduceIte, reduceCtorEq, Nat.reduceAdd, e0]
  · simp only [e_upd, e_putS, e_putN, e_t, e_c, Nat.reduceEqDiff, ↓reduceIte, reduceCtorEq, Nat.reduceAdd, e1]
  · simp only [e_upd, e_putS, e_putN, e_t, e_c, Nat.reduceEqDiff, ↓reduceIte, reduceCtorEq, Nat.reduceAdd]; rfl
  · simp only [e_upd, e_putS, e_putN, e_t, e_c, Nat.reduceEqDiff, ↓reduceIte, reduceCtorEq, Nat.reduceAdd]; rfl
  · intro j hj
    obtain rfl : j = 0 := by omega
    exact ⟨_, 1, rfl, mkS_cell, by rw [Nat.pow_zero, Nat.mul_one]; exact hAq _ rfl, by omega⟩
  rintro m s H ⟨k, D, cells, rfl, hk1, hk8, h0, h1, h6, h7, hD2, r0, r1, rD, hdbl⟩
  have lD := row_lt rD
  have l0 := row_lt r0
  have l1 := row_lt r1
  by_cases hk7 : (k : Int) < 8
  · obtain ⟨c, rc, hc1, hc2, hc3, hc4⟩ := hdbl.2 (k - 1) (by omega)
    have hkI : (k : Int) - 1 = ((k - 1 : Nat) : Int) := by omega
    have hi := dblS_idx (D := D) (k := k) (j := k - 1) (by omega)
    simp (disch := omega) only [sN, ↓reduceIte, Nat.reduceEqDiff, Nat.reduceAdd, Nat.reduceMul, Nat.reduceSub, reduceCtorEq, e_none, e_some, e_bindS, h0, h1, h6, h7, hkI, hi, rD, hc1, Option.bind_some, Option.map_some]
    refine call_add (Nat.le_trans (hlen2 (k - 1) (by omega)) (by omega)) (Nat.le_trans (hlen2 (k - 1) (by omega)) (by omega)) hc3 hc3 ?_
    intro w row ho hfl hw hwc
    have hdouble : q * 2 ^ (k - 1) + q * 2 ^ (k - 1) = q * 2 ^ k := by
      rw [← Nat.mul_add, ← Nat.two_mul, Nat.mul_comm 2, ← Nat.pow_succ, show (k - 1).succ = k by omega]
    rw [hdouble] at hw
    simp (disch := omega) only [sN, ↓reduceIte, Nat.reduceEqDiff, Nat.reduceAdd, Nat.reduceMul, Nat.reduceSub, reduceCtorEq, e_none, e_some, e_bindS, h0, h1, h6, h7]
    rw [x_bs1 (v := w) (by simp only [e_upd, e_putS, e_putN, e_t, e_c, Nat.reduceEqDiff, ↓reduceIte, reduceCtorEq, Nat.reduceAdd]) hwc]
    simp (disch := omega) only [sN, ↓reduceIte, Nat.reduceEqDiff, Nat.reduceAdd, Nat.reduceMul, Nat.reduceSub, reduceCtorEq, e_none, e_some, e_bindS, h0, h1, h6, h7]
    have hall : cells.all AV.cell = true := by
      rw [List.all_eq_true]
      intro x hx
      obtain ⟨j, hj⟩ := List.getElem?_of_mem hx
      have hjl := (List.getElem?_eq_some_iff.1 hj).1
      obtain ⟨c', _, g1, g2, _⟩ := hdbl.2 j (by rw [← hdbl.1]; exact hjl)
      rw [g1] at hj; cases hj; exact g2
    have lw := hw.lt
    have eD : Vh.rowAt (H ++ [some row] ++ [rw_ [w]]) D = some ⟨true, decide (k ≠ 1), cells⟩ := by rw [row_left (by simp; omega), row_left lD, rD]
    rw [x_appD (D := D) (k := k) (r := (H ++ [some row]).length) (cells := cells) (c := w) (by simp only [e_upd, e_putS, e_putN, e_t, e_c, Nat.reduceEqDiff, ↓reduceIte, reduceCtorEq, Nat.reduceAdd, h6]) (by simp only [e_upd, e_putS, e_putN, e_t, e_c, Nat.reduceEqDiff, ↓reduceIte, reduceCtorEq, Nat.reduceAdd]) eD hdbl.1 hk1 (by omega) (by simp [Vh.rowAt, rw_]) hwc hall]
    obtain ⟨H1, hH1⟩ : ∃ H1, H1 = H ++ [some row] ++ [rw_ [w]] := ⟨_, rfl⟩
    obtain ⟨H2, hH2⟩ : ∃ H2, H2 = (if k = 1 then H1 else H1.set D none) := ⟨_, rfl⟩
    have hx1 : Ext H H1 D := by rw [hH1]; exact Ext.app.trans Ext.app
    have hx2 : Ext H1 H2 D := by rw [hH2]; split; exact Ext.refl; exact Ext.set
    have hl2 : H2.length = H1.length := by rw [hH2]; split <;> simp
    have hl1 : H1.length = H.length + 2 := by rw [hH1]; simp
    rw [← hH1, ← hH2]
    have hx3 : Ext H (H2 ++ [sl (cells ++ [w])]) D := (hx1.trans hx2).trans Ext.app
    have hw' : AtD (H2 ++ [sl (cells ++ [w])]) w (q * 2 ^ k) H.length := by
      refine hw.keep ?_
      rw [row_left (by omega), hx2.2 H.length (by omega) (by omega), hH1, row_left (by simp)]
    simp (disch := omega) only [sN, ↓reduceIte, Nat.reduceEqDiff, Nat.reduceAdd, Nat.reduceMul, Nat.reduceSub, reduceCtorEq, e_none, e_some, e_bindS, h0, h1, h6, h7]
    refine loop_keep (m := 8 - (k + 1)) (by omega) ⟨k + 1, H1.length, cells ++ [w], rfl, by omega, by omega, ?_, ?_, ?_, ?_, by omega, ?_, ?_, ?_, ?_⟩
    · simp only [e_upd, e_putS, e_putN, e_t, e_c, Nat.reduceEqDiff, ↓reduceIte, reduceCtorEq, Nat.reduceAdd, h0]
    · simp only [e_upd, e_putS, e_putN, e_t, e_c, Nat.reduceEqDiff, ↓reduceIte, reduceCtorEq, Nat.reduceAdd, h1]
    · simp only [e_upd, e_putS, e_putN, e_t, e_c, Nat.reduceEqDiff, ↓reduceIte, reduceCtorEq, Nat.reduceAdd]
    · simp only [e_upd, e_putS, e_putN, e_t, e_c, Nat.reduceEqDiff, ↓reduceIte, reduceCtorEq, Nat.reduceAdd]; rfl
    · rw [hx3.2 0 l0 (by omega), r0]
    · rw [hx3.2 1 l1 (by omega), r1]
    · rw [← hl2]; simp [Vh.rowAt, sl]; omega
    · refine ⟨by rw [List.length_append, hdbl.1]; rfl, fun j hj => ?_⟩
      by_cases hjk : j < k
      · obtain ⟨c', rc', g1, g2, g3, g4⟩ := hdbl.2 j hjk
        exact ⟨c', rc', by rw [List.getElem?_append_left (by rw [hdbl.1]; exact hjk), g1], g2, g3.ext hx3 g4, by have := g3.lt; omega⟩
      · obtain rfl : j = k := by omega
        exact ⟨w, H.length, by rw [List.getElem?_append_right (by rw [hdbl.1]; omega), hdbl.1, Nat.sub_self]; rfl, hwc, hw', by omega⟩
  obtain rfl : k = 8 := by omega
  have h7' : s 7 = .int .i64 8 := h7
  have rD' : Vh.rowAt H D = some ⟨true, true, cells⟩ := rD
  simp (disch := omega) only [sN, ↓reduceIte, Nat.reduceEqDiff, Nat.reduceAdd, Nat.reduceMul, Nat.reduceSub, reduceCtorEq, e_none, e_some, e_bindS, h0, h1, h6, h7', k_len hk, k_len hk']
  rw [x_make (n := (la : Int)) (by simp only [e_upd, e_putS, e_putN, e_t, e_c, Nat.reduceEqDiff, ↓reduceIte, reduceCtorEq, Nat.reduceAdd]) (by omega) (by omega) (by omega)]
  obtain ⟨at_, hat⟩ : ∃ at_ : Nat, at_ + lb = la + 1 := ⟨la + 1 - lb, by omega⟩
  have hatI : (la : Int) - (lb : Int) + 1 = (at_ : Int) := by omega
  obtain ⟨u, hu1, hu2, hu3⟩ := slLo (x := at_) hk hla (by omega)
  simp (disch := omega) only [sN, ↓reduceIte, Nat.reduceEqDiff, Nat.reduceAdd, Nat.reduceMul, Nat.reduceSub, reduceCtorEq, e_none, e_some, e_bindS, h0, h1, h6, k_len hk, k_len hk', hatI, hu1, x_b0]
  rw [x_appE (r := (H ++ [rw_ (ints .i64 (List.replicate la 0))]).length) (a := la - at_) (u := u) (xs := a.drop at_) (by simp only [e_upd, e_putS, e_putN, e_t, e_c, Nat.reduceEqDiff, ↓reduceIte, reduceCtorEq, Nat.reduceAdd]) (by simp only [e_upd, e_putS, e_putN, e_t, e_c, Nat.reduceEqDiff, ↓reduceIte, reduceCtorEq, Nat.reduceAdd]) hu2 (hu3 _ (by rw [row_left (by rw [List.length_append]; omega), row_left l0, r0])) (by omega)]
  obtain ⟨H1, hH1⟩ : ∃ H1, H1 = H ++ [rw_ (ints .i64 (List.replicate la 0))] ++ [rw_ []] ++ [sl (ints .i64 (a.drop at_))] := ⟨_, rfl⟩
  have hx1 : Ext H H1 H.length := by rw [hH1]; exact (Ext.app.trans Ext.app).trans Ext.app
  have hl1 : H1.length = H.length + 3 := by rw [hH1]; simp
  have rQ1 : Vh.rowAt H1 H.length = rw_ (ints .i64 (List.replicate la 0)) := by
    rw [hH1, row_left (by simp), row_left (by simp)]; simp [Vh.rowAt]
  have rR1 : Vh.rowAt H1 (H.length + 2) = some ⟨true, true, ints .i64 (a.drop at_)⟩ := by
    rw [hH1]; simp [Vh.rowAt, sl]
  simp (disch := omega) only [sN, ↓reduceIte, Nat.reduceEqDiff, Nat.reduceAdd, Nat.reduceMul, Nat.reduceSub, reduceCtorEq, e_none, e_some, e_bindS, h0, h1, h6, ← hH1]
  have hdl : (a.drop at_).length = la - at_ := by rw [List.length_drop, hla]
  have hlenH : (H ++ [rw_ (ints .i64 (List.replicate la 0))] ++ [rw_ []]).length = H.length + 2 := by simp
  rw [hlenH, ← hdl]
  have hup := Dg.up_num ha at_
  refine call_trimD (κ := .u) (n := Dg.up a at_) trivial (by omega) rR1 (Dg.dl_drop ha at_) hup ?_
  intro w hw hwc
  have hsmall := Dg.up_small ha hb tb nb (by omega) (i := at_) (by omega)
  have hql := Dg.ql_start ha hb tb nb (by omega) (i := at_) (by omega)
  rw [hla] at hql
  simp (disch := omega) only [sN, ↓reduceIte, Nat.reduceEqDiff, Nat.reduceAdd, Nat.reduceMul, Nat.reduceSub, reduceCtorEq, e_none, e_some, e_bindS, h0, h1, h6]
  obtain ⟨Q, hQ⟩ : ∃ Q, H.length = Q := ⟨_, rfl⟩
  rw [hQ] at hx1 rQ1 hw hl1
  have hdblQ : Dbl H1 q D 8 Q cells := ⟨hdbl.1, fun j hj => by
    obtain ⟨c', rc', g1, g2, g3, g4⟩ := hdbl.2 j hj
    have := g3.lt
    exact ⟨c', rc', g1, g2, g3.ext hx1 (by omega), by omega⟩⟩
  refine ⟨fun m s H => ∃ (i rr : Nat), m = i ∧ i ≤ at_ ∧ s 0 = mkS κ 0 0 la ∧ s 6 = dblS D 8 ∧ s 8 = .slice Q 0 la la ∧ s 11 = .int .i64 ((i : Int) - 1) ∧ Vh.rowAt H 0 = some ⟨false, false, ints .i64 a⟩ ∧ Vh.rowAt H 1 = some ⟨false, false, B⟩ ∧ Vh.rowAt H D = some ⟨true, true, cells⟩ ∧ Vh.rowAt H Q = rw_ (ints .i64 (Dg.ql a q i)) ∧ Dbl H q D 8 Q cells ∧ AtD H (s 10) (Dg.up a i % q) rr ∧ rr ≠ Q, at_, ⟨at_, Q + 2, rfl, Nat.le_refl _, ?_, ?_, ?_, ?_, ?_, ?_, ?_, ?_, hdblQ, ?_, by omega⟩, ?_⟩
  · simp only [e_upd, e_putS, e_putN, e_t, e_c, Nat.reduceEqDiff, ↓reduceIte, reduceCtorEq, Nat.reduceAdd, h0]
  · simp only [e_upd, e_putS, e_putN, e_t, e_c, Nat.reduceEqDiff, ↓reduceIte, reduceCtorEq, Nat.reduceAdd, h6]
  · simp only [e_upd, e_putS, e_putN, e_t, e_c, Nat.reduceEqDiff, ↓reduceIte, reduceCtorEq, Nat.reduceAdd, nat_toNat, hQ]
  · simp only [e_upd, e_putS, e_putN, e_t, e_c, Nat.reduceEqDiff, ↓reduceIte, reduceCtorEq, Nat.reduceAdd]
  · rw [hx1.2 0 (by omega) (by omega), r0]
  · rw [hx1.2 1 (by omega) (by omega), r1]
  · rw [hx1.2 D (by omega) (by omega), rD']
  · rw [rQ1, hql]
  · rw [Nat.mod_eq_of_lt hsmall]; simp only [e_upd, e_putS, e_putN, e_t, e_c, Nat.reduceEqDiff, ↓reduceIte, reduceCtorEq, Nat.reduceAdd]; exact hw
  have hQ2 : 2 ≤ Q := by omega
  have hDQ : D ≠ Q := by omega
  have hat2 : at_ ≤ la := by omega
  have hup0 : Dg.up a 0 = p := by simp only [Dg.up, List.drop_zero, na]; simp
  clear hH1 hx1 rQ1 rR1 hw hdblQ hdbl h0 h1 h6 h7 h7' r0 r1 rD rD' l0 l1 lD hlenH hl1 hQ hsmall hql hwc hup hu1 hu2 hu3 hdl hatI hk1 hk8 hk7 e0 e1
  clear H1 w u H s
  rintro m s H ⟨i, rr, hmi, hi, h0, h6, h8, h11, r0, r1, rD, rQ, hdbl, hr, hrQ⟩
  have l0 := row_lt r0
  have l1 := row_lt r1
  have lD := row_lt rD
  have lQ := row_lt (show Vh.rowAt H Q = some ⟨true, false, ints .i64 (Dg.ql a q i)⟩ from rQ)
  cases i with
  | zero =>
    have h11' : s 11 = .int .i64 (-1) := h11
    have hqlen : (Dg.ql a q 0).length = la := by rw [Dg.ql_length, hla]
    have hqn := Dg.ql_num ha hq
    rw [hup0] at hqn
    simp (disch := omega) only [sN, ↓reduceIte, Nat.reduceEqDiff, Nat.reduceAdd, Nat.reduceMul, Nat.reduceSub, reduceCtorEq, e_none, e_some, e_bindS, h8, h11']
    rw [show (AV.slice Q 0 la la) = mkS (.cap la) Q 0 (Dg.ql a q 0).length by rw [hqlen]; rfl]
    refine call_trimD (κ := .cap la) (n := p / q) (by rw [hqlen]; exact Nat.le_refl _) (by omega) rQ (Dg.ql_dl ha hq 0) hqn ?_
    rintro w ⟨κ3, row, g1, rfl, g3, g4⟩ hwc
    rw [rQ] at g3
    cases g3
    simp (disch := omega) only [sN, ↓reduceIte, Nat.reduceEqDiff, Nat.reduceAdd, Nat.reduceMul, Nat.reduceSub, reduceCtorEq, e_none, e_some, e_bindS]
    have hsg : gcSig [0, 1, Q] Q = some (2, 0) := by
      have e1 : ¬ (0 = Q) := by omega
      have e2 : ¬ (1 = Q) := by omega
      simp [gcSig, List.idxOf?, List.findIdx?_cons, e1, e2]
    refine ret_gc [0, 1, Q] ?_ ?_ (by simp) ?_
    · simp only [gcOK, Bool.and_eq_true, beq_iff_eq, decide_eq_true_eq, List.all_cons, List.all_nil, Bool.and_true]
      refine ⟨⟨rfl, l0, l1, lQ⟩, ?_⟩
      simp
      omega
    · simp [gcH, r0, r1, rQ, rw_, ints_ren, ints_cell, ← hB]
    · unfold rs_rdivide; rw [q_tmp2, q_then]
      refine ⟨κ3, (s 10).ren (gcSig [0, 1, Q]), ⟨true, false, ints .i64 (Dg.ql a q 0)⟩, g1, ?_, ?_, rfl, g4, ints_flat⟩
      · simp only [gcS, e_upd, e_putS, e_putN, e_t, e_c, Nat.reduceEqDiff, ↓reduceIte, reduceCtorEq, Nat.reduceAdd]
        rw [n_mkS (r' := 2) (d := 0) hsg]
        rfl
      · simp [gcH, r0, r1, rQ, ro, rw_, ints_ren, ← hB]
  | succ j =>
    have h11' : s 11 = .int .i64 (j : Int) := by rw [h11]; congr 1; omega
    have hjla : j < la := by omega
    have ia : aindexAddr 1 (mkS κ 0 0 la) (.int .i64 (j : Int)) = some (.ptr 0 j) := by
      rw [k_idx hk (Nat.le_refl _) (by omega) (by omega)]; simp
    obtain ⟨z, hz⟩ : ∃ z, a.getD j 0 = z := ⟨_, rfl⟩
    have ga : (ints .i64 a)[j]? = some (.int .i64 z) := by rw [ints_get (by omega), hz]
    have hzr := ha j
    rw [hz] at hzr
    simp (disch := omega) only [sN, ↓reduceIte, Nat.reduceEqDiff, Nat.reduceAdd, Nat.reduceMul, Nat.reduceSub, reduceCtorEq, e_none, e_some, e_bindS, h0, h6, h8, h11', ia, r0, ga, Option.bind_some, Option.map_some]
    rw [x_bs1 (v := .int .i64 z) (by simp only [e_upd, e_putS, e_putN, e_t, e_c, Nat.reduceEqDiff, ↓reduceIte, reduceCtorEq, Nat.reduceAdd]) rfl]
    simp (disch := omega) only [sN, ↓reduceIte, Nat.reduceEqDiff, Nat.reduceAdd, Nat.reduceMul, Nat.reduceSub, reduceCtorEq, e_none, e_some, e_bindS, h0, h6, h8, h11']
    obtain ⟨x0, hx0⟩ : ∃ x0, x0 = 256 * (Dg.up a (j + 1) % q) + z.toNat := ⟨_, rfl⟩
    have hmod := Nat.mod_lt (Dg.up a (j + 1)) hq
    have hx0lt : x0 < q * 256 := by omega
    have hrl : (Dg.dg (Dg.up a (j + 1) % q)).length ≤ 10001 := hlens _ (by omega)
    have hr1 : AtD (H ++ [rw_ [.int .i64 z]]) (s 10) (Dg.up a (j + 1) % q) rr := hr.keep (row_left hr.lt)
    obtain ⟨κ2, r2, sk, R, happ, hok, hr2, hL2⟩ := x_app1 (x := .t 64) (y := .t 65) (L := H.length) (z := z) (by simp [Vh.rowAt, rw_]) hr1 (by omega)
    rw [happ _ (by simp only [e_upd, e_putS, e_putN, e_t, e_c, Nat.reduceEqDiff, ↓reduceIte, reduceCtorEq, Nat.reduceAdd]) (by simp only [e_upd, e_putS, e_putN, e_t, e_c, Nat.reduceEqDiff, ↓reduceIte, reduceCtorEq, Nat.reduceAdd])]
    obtain ⟨H1, hH1⟩ : ∃ H1, H1 = H ++ [rw_ [.int .i64 z]] ++ R := ⟨_, rfl⟩
    have hx1 : Ext H H1 Q := by rw [hH1]; exact Ext.app.trans Ext.app
    have rQ1 : Vh.rowAt H1 Q = rw_ (ints .i64 (Dg.ql a q (j + 1))) := by
      rw [hH1, row_left (by rw [List.length_append]; omega), row_left lQ, rQ]
    rw [← hH1] at hr2
    simp (disch := omega) only [sN, ↓reduceIte, Nat.reduceEqDiff, Nat.reduceAdd, Nat.reduceMul, Nat.reduceSub, reduceCtorEq, e_none, e_some, e_bindS, h0, h6, h8, h11', ← hH1]
    have hlz : (z :: Dg.dg (Dg.up a (j + 1) % q)).length ≤ 10002 := by rw [List.length_cons]; omega
    refine call_trimD (n := x0) hok (by omega) hr2 (Dg.dl_cons hzr (Dg.dg_dl _)) (by rw [Dg.num_cons, Dg.dg_num]; omega) ?_
    intro w hw hwc
    simp (disch := omega) only [sN, ↓reduceIte, Nat.reduceEqDiff, Nat.reduceAdd, Nat.reduceMul, Nat.reduceSub, reduceCtorEq, e_none, e_some, e_bindS, h0, h6, h8, h11']
    have hud := Dg.up_div ha hq (i := j) (by omega)
    have hte := Dg.trial_end hx0lt
    have hqd : Dg.qd a q j = x0 / q := by rw [hx0, ← hz]; rfl
    have hmm : Dg.up a j % q = x0 % q := by rw [hud.2, hx0, hz]
    refine ⟨fun m s H' => ∃ (t rr : Nat), m = 8 - t ∧ t ≤ 8 ∧ s 0 = mkS κ 0 0 la ∧ s 6 = dblS D 8 ∧ s 8 = .slice Q 0 la la ∧ s 11 = .int .i64 (j : Int) ∧ s 12 = .int .i64 (7 - (t : Int)) ∧ Vh.rowAt H' 0 = some ⟨false, false, ints .i64 a⟩ ∧ Vh.rowAt H' 1 = some ⟨false, false, B⟩ ∧ Vh.rowAt H' D = some ⟨true, true, cells⟩ ∧ Vh.rowAt H' Q = rw_ (ints .i64 ((Dg.ql a q (j + 1)).set j ((Dg.trial q x0 t).1 : Int))) ∧ Dbl H' q D 8 Q cells ∧ AtD H' (s 10) (Dg.trial q x0 t).2 rr ∧ rr ≠ Q, 8, ⟨0, r2, rfl, by omega, ?_, ?_, ?_, ?_, ?_, ?_, ?_, ?_, ?_, hdbl.ext hx1, ?_, by omega⟩, ?_⟩
    · simp only [e_upd, e_putS, e_putN, e_t, e_c, Nat.reduceEqDiff, ↓reduceIte, reduceCtorEq, Nat.reduceAdd, h0]
    · simp only [e_upd, e_putS, e_putN, e_t, e_c, Nat.reduceEqDiff, ↓reduceIte, reduceCtorEq, Nat.reduceAdd, h6]
    · simp only [e_upd, e_putS, e_putN, e_t, e_c, Nat.reduceEqDiff, ↓reduceIte, reduceCtorEq, Nat.reduceAdd, h8]
    · simp only [e_upd, e_putS, e_putN, e_t, e_c, Nat.reduceEqDiff, ↓reduceIte, reduceCtorEq, Nat.reduceAdd, h11']
    · simp only [e_upd, e_putS, e_putN, e_t, e_c, Nat.reduceEqDiff, ↓reduceIte, reduceCtorEq, Nat.reduceAdd]; rfl
    · rw [hx1.2 0 l0 (by omega), r0]
    · rw [hx1.2 1 l1 (by omega), r1]
    · rw [hx1.2 D lD hDQ, rD]
    · rw [rQ1, show ((Dg.trial q x0 0).1 : Int) = 0 from rfl, Dg.ql_set0 (by omega)]
    · simp only [e_upd, e_putS, e_putN, e_t, e_c, Nat.reduceEqDiff, ↓reduceIte, reduceCtorEq, Nat.reduceAdd]; exact hw
    clear hw hwc hr2 hok rQ1 hx1 hH1 happ hL2 hr1 rQ r0 r1 rD hdbl hr hrQ l0 l1 lD lQ h0 h6 h8 h11 h11'
    clear H1 w R H s
    rintro m s H ⟨t, rr, hmt, ht8, h0, h6, h8, h11, h12, r0, r1, rD, rQ, hdbl, hr, hrQ⟩
    have l0 := row_lt r0
    have l1 := row_lt r1
    have lD := row_lt rD
    have lQ := row_lt (show Vh.rowAt H Q = some ⟨true, false, _⟩ from rQ)
    have hqll : (Dg.ql a q (j + 1)).length = la := by rw [Dg.ql_length, hla]
    rcases Nat.lt_or_ge t 8 with h8t | h8t
    · obtain ⟨ts1, ts2, ts3⟩ := Dg.trial_sum hx0lt t ht8
      have hb1 : (Dg.trial q x0 t).1 < 256 := Nat.lt_of_lt_of_le ts3 (Nat.le_trans (Nat.pow_le_pow_right (by omega) ht8) (by decide))
      have hnext : Dg.trial q x0 (t + 1) = if q * 2 ^ (7 - t) ≤ (Dg.trial q x0 t).2 then (2 * (Dg.trial q x0 t).1 + 1, (Dg.trial q x0 t).2 - q * 2 ^ (7 - t)) else (2 * (Dg.trial q x0 t).1, (Dg.trial q x0 t).2) := rfl
      have hxle := Dg.trial_le hx0lt t ht8
      obtain ⟨k, hk7⟩ : ∃ k, k = 7 - t := ⟨_, rfl⟩
      rw [← hk7] at hnext
      have hkI : (7 - (t : Int)) = (k : Int) := by omega
      rw [hkI] at h12
      obtain ⟨X, hX⟩ : ∃ X, (Dg.trial q x0 t).1 = X := ⟨_, rfl⟩
      obtain ⟨Y, hY⟩ : ∃ Y, (Dg.trial q x0 t).2 = Y := ⟨_, rfl⟩
      rw [hX] at hb1 rQ
      rw [hX, hY] at hnext
      rw [hY] at hr hxle
      obtain ⟨c, rc, hc1, hc2, hc3, hc4⟩ := hdbl.2 k (by omega)
      have hix := dblS_idx (D := D) (k := 8) (j := k) (by omega)
      have gQ : (ints .i64 ((Dg.ql a q (j + 1)).set j (X : Int)))[j]? = some (.int .i64 (X : Int)) := by
        rw [ints_get (by rw [List.length_set]; omega)]
        simp [List.getD_eq_getElem?_getD, hqll, hjla]
      have ljla : (j : Int) < (la : Int) := by omega
      simp (disch := omega) only [sN, ↓reduceIte, Nat.reduceEqDiff, Nat.reduceAdd, Nat.reduceMul, Nat.reduceSub, reduceCtorEq, e_none, e_some, e_bindS, h0, h6, h8, h11, h12, rQ, rw_, gQ, Option.bind_some, Option.map_some]
      rw [x_store (r := Q) (off := j) (k := .i64) (b := 2 * (X : Int)) (l := (Dg.ql a q (j + 1)).set j (X : Int)) (by simp only [e_upd, e_putS, e_putN, e_t, e_c, Nat.reduceEqDiff, ↓reduceIte, reduceCtorEq, Nat.reduceAdd]) (by simp only [e_upd, e_putS, e_putN, e_t, e_c, Nat.reduceEqDiff, ↓reduceIte, reduceCtorEq, Nat.reduceAdd]) rQ (by rw [List.length_set]; omega), List.set_set]
      obtain ⟨H1, hH1⟩ : ∃ H1, H1 = H.set Q (rw_ (ints .i64 ((Dg.ql a q (j + 1)).set j (2 * (X : Int))))) := ⟨_, rfl⟩
      have hx1 : Ext H H1 Q := by rw [hH1]; exact Ext.set
      have rQ1 : Vh.rowAt H1 Q = rw_ (ints .i64 ((Dg.ql a q (j + 1)).set j (2 * (X : Int)))) := by rw [hH1, row_set0 lQ]
      have rD1 : Vh.rowAt H1 D = some ⟨true, true, cells⟩ := by rw [hx1.2 D lD hDQ, rD]
      have hl1 : H1.length = H.length := by rw [hH1, List.length_set]
      simp (disch := omega) only [sN, ↓reduceIte, Nat.reduceEqDiff, Nat.reduceAdd, Nat.reduceMul, Nat.reduceSub, reduceCtorEq, e_none, e_some, e_bindS, h0, h6, h8, h11, h12, ← hH1, hix, rD1, hc1, Option.bind_some, Option.map_some]
      have hYl : (Dg.dg Y).length ≤ 10001 := hlens _ (by omega)
      refine call_cmp (Nat.le_trans hYl (by omega)) (Nat.le_trans (hlen2 k (by omega)) (by omega)) (hr.ext hx1 hrQ) (hc3.ext hx1 hc4) ?_
      by_cases hge : q * 2 ^ k ≤ Y
      · have hcmp : (0 : Int) ≤ Dg.cmpI (Y : Int) ((q * 2 ^ k : Nat) : Int) := by
          unfold Dg.cmpI; rw [if_neg (by omega)]; split <;> omega
        rw [if_pos hge] at hnext
        simp (disch := omega) only [sN, ↓reduceIte, Nat.reduceEqDiff, Nat.reduceAdd, Nat.reduceMul, Nat.reduceSub, reduceCtorEq, e_none, e_some, e_bindS, h0, h6, h8, h11, h12, hix, rD1, hc1, Option.bind_some, Option.map_some]
        refine call_sub (Nat.le_trans hYl (by omega)) hge (hr.ext hx1 hrQ) (hc3.ext hx1 hc4) ?_
        intro w row ho hfl hw hwc
        have rQ2 : Vh.rowAt (H1 ++ [some row]) Q = rw_ (ints .i64 ((Dg.ql a q (j + 1)).set j (2 * (X : Int)))) := by rw [row_left (by omega), rQ1]
        have gQ2 : (ints .i64 ((Dg.ql a q (j + 1)).set j (2 * (X : Int))))[j]? = some (.int .i64 (2 * (X : Int))) := by
          rw [ints_get (by rw [List.length_set]; omega)]
          simp [List.getD_eq_getElem?_getD, hqll, hjla]
        simp (disch := omega) only [sN, ↓reduceIte, Nat.reduceEqDiff, Nat.reduceAdd, Nat.reduceMul, Nat.reduceSub, reduceCtorEq, e_none, e_some, e_bindS, h0, h6, h8, h11, h12, rQ2, rw_, gQ2, Option.bind_some, Option.map_some]
        rw [x_store (r := Q) (off := j) (k := .i64) (b := 2 * (X : Int) + 1) (l := (Dg.ql a q (j + 1)).set j (2 * (X : Int))) (by simp only [e_upd, e_putS, e_putN, e_t, e_c, Nat.reduceEqDiff, ↓reduceIte, reduceCtorEq, Nat.reduceAdd]) (by simp only [e_upd, e_putS, e_putN, e_t, e_c, Nat.reduceEqDiff, ↓reduceIte, reduceCtorEq, Nat.reduceAdd]) rQ2 (by rw [List.length_set]; omega), List.set_set]
        have hx3 : Ext H ((H1 ++ [some row]).set Q (rw_ (ints .i64 ((Dg.ql a q (j + 1)).set j (2 * (X : Int) + 1))))) Q := (hx1.trans Ext.app).trans Ext.set
        have hw3 : AtD ((H1 ++ [some row]).set Q (rw_ (ints .i64 ((Dg.ql a q (j + 1)).set j (2 * (X : Int) + 1))))) w (Y - q * 2 ^ k) H1.length := hw.ext Ext.set (by omega)
        simp (disch := omega) only [sN, ↓reduceIte, Nat.reduceEqDiff, Nat.reduceAdd, Nat.reduceMul, Nat.reduceSub, reduceCtorEq, e_none, e_some, e_bindS, h0, h6, h8, h11, h12]
        refine loop_keep (m := 8 - (t + 1)) (by omega) ⟨t + 1, H1.length, rfl, by omega, ?_, ?_, ?_, ?_, ?_, ?_, ?_, ?_, ?_, hdbl.ext hx3, ?_, by omega⟩
        · simp only [e_upd, e_putS, e_putN, e_t, e_c, Nat.reduceEqDiff, ↓reduceIte, reduceCtorEq, Nat.reduceAdd, h0]
        · simp only [e_upd, e_putS, e_putN, e_t, e_c, Nat.reduceEqDiff, ↓reduceIte, reduceCtorEq, Nat.reduceAdd, h6]
        · simp only [e_upd, e_putS, e_putN, e_t, e_c, Nat.reduceEqDiff, ↓reduceIte, reduceCtorEq, Nat.reduceAdd, h8]
        · simp only [e_upd, e_putS, e_putN, e_t, e_c, Nat.reduceEqDiff, ↓reduceIte, reduceCtorEq, Nat.reduceAdd, h11]
        · simp only [e_upd, e_putS, e_putN, e_t, e_c, Nat.reduceEqDiff, ↓reduceIte, reduceCtorEq, Nat.reduceAdd]; congr 1; omega
        · rw [hx3.2 0 l0 (by omega), r0]
        · rw [hx3.2 1 l1 (by omega), r1]
        · rw [hx3.2 D lD hDQ, rD]
        · have e : (((Dg.trial q x0 (t + 1)).1 : Nat) : Int) = 2 * (X : Int) + 1 := by rw [hnext]; show ((2 * X + 1 : Nat) : Int) = _; omega
          rw [row_set0 (by rw [List.length_append]; omega), e]; rfl
        · rw [hnext]; simp only [e_upd, e_putS, e_putN, e_t, e_c, Nat.reduceEqDiff, ↓reduceIte, reduceCtorEq, Nat.reduceAdd]; exact hw3
      · have hcmp : Dg.cmpI (Y : Int) ((q * 2 ^ k : Nat) : Int) < 0 := by
          unfold Dg.cmpI; rw [if_pos (by omega)]; omega
        rw [if_neg hge] at hnext
        simp (disch := omega) only [sN, ↓reduceIte, Nat.reduceEqDiff, Nat.reduceAdd, Nat.reduceMul, Nat.reduceSub, reduceCtorEq, e_none, e_some, e_bindS, h0, h6, h8, h11, h12]
        refine loop_keep (m := 8 - (t + 1)) (by omega) ⟨t + 1, rr, rfl, by omega, ?_, ?_, ?_, ?_, ?_, ?_, ?_, ?_, ?_, hdbl.ext hx1, ?_, hrQ⟩
        · simp only [e_upd, e_putS, e_putN, e_t, e_c, Nat.reduceEqDiff, ↓reduceIte, reduceCtorEq, Nat.reduceAdd, h0]
        · simp only [e_upd, e_putS, e_putN, e_t, e_c, Nat.reduceEqDiff, ↓reduceIte, reduceCtorEq, Nat.reduceAdd, h6]
        · simp only [e_upd, e_putS, e_putN, e_t, e_c, Nat.reduceEqDiff, ↓reduceIte, reduceCtorEq, Nat.reduceAdd, h8]
        · simp only [e_upd, e_putS, e_putN, e_t, e_c, Nat.reduceEqDiff, ↓reduceIte, reduceCtorEq, Nat.reduceAdd, h11]
        · simp only [e_upd, e_putS, e_putN, e_t, e_c, Nat.reduceEqDiff, ↓reduceIte, reduceCtorEq, Nat.reduceAdd]; congr 1; omega
        · rw [hx1.2 0 l0 (by omega), r0]
        · rw [hx1.2 1 l1 (by omega), r1]
        · rw [rD1]
        · have e : (((Dg.trial q x0 (t + 1)).1 : Nat) : Int) = 2 * (X : Int) := by rw [hnext]; show ((2 * X : Nat) : Int) = _; omega
          rw [rQ1, e]; rfl
        · rw [hnext]; simp only [e_upd, e_putS, e_putN, e_t, e_c, Nat.reduceEqDiff, ↓reduceIte, reduceCtorEq, Nat.reduceAdd]; exact hr.ext hx1 hrQ
    · obtain rfl : t = 8 := by omega
      have h12' : s 12 = .int .i64 (-1) := h12
      simp (disch := omega) only [sN, ↓reduceIte, Nat.reduceEqDiff, Nat.reduceAdd, Nat.reduceMul, Nat.reduceSub, reduceCtorEq, e_none, e_some, e_bindS, h0, h6, h8, h11, h12']
      refine loop_keep (m := j) (by omega) ⟨j, rr, rfl, by omega, ?_, ?_, ?_, ?_, r0, r1, rD, ?_, hdbl, ?_, hrQ⟩
      · simp only [e_upd, e_putS, e_putN, e_t, e_c, Nat.reduceEqDiff, ↓reduceIte, reduceCtorEq, Nat.reduceAdd, h0]
      · simp only [e_upd, e_putS, e_putN, e_t, e_c, Nat.reduceEqDiff, ↓reduceIte, reduceCtorEq, Nat.reduceAdd, h6]
      · simp only [e_upd, e_putS, e_putN, e_t, e_c, Nat.reduceEqDiff, ↓reduceIte, reduceCtorEq, Nat.reduceAdd, h8]
      · simp only [e_upd, e_putS, e_putN, e_t, e_c, Nat.reduceEqDiff, ↓reduceIte, reduceCtorEq, Nat.reduceAdd]
      · rw [rQ, hte.1, ← hqd, Dg.ql_set (by omega)]
      · rw [hmm, ← hte.2.1]; simp only [e_upd, e_putS, e_putN, e_t, e_c, Nat.reduceEqDiff, ↓reduceIte, reduceCtorEq, Nat.reduceAdd]; exact hr
end Go.Proofs.YtjmceapnhmeflaaDoor

