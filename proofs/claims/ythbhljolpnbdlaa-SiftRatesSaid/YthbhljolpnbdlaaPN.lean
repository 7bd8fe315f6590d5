/- Numbers to the base 256: division, a digit at a time. -/
import Derived.Test.YthbhljolpnbdlaaPK
import Derived.Test.YthbhljolpnbdlaaVX
import Derived.Test.YthbhljolpnbdlaaPM
set_option linter.unusedSimpArgs false
set_option linter.unusedVariables false
namespace Go.Dg

/-- a digit of the quotient, and what is left: behind t of eight trials -/
def trial (b x0 : Nat) : Nat → Nat × Nat
  | 0 => (0, x0)
  | t + 1 => if b * 2 ^ (7 - t) ≤ (trial b x0 t).2 then (2 * (trial b x0 t).1 + 1, (trial b x0 t).2 - b * 2 ^ (7 - t)) else (2 * (trial b x0 t).1, (trial b x0 t).2)
theorem trial_sum {b x0 : Nat} (h : x0 < b * 256) : ∀ t, t ≤ 8 → x0 = b * ((trial b x0 t).1 * 2 ^ (8 - t)) + (trial b x0 t).2 ∧ (trial b x0 t).2 < b * 2 ^ (8 - t) ∧ (trial b x0 t).1 < 2 ^ t
  | 0, _ => by simp [trial]; omega
  | t + 1, ht => by
    obtain ⟨h1, h2, h3⟩ := trial_sum h t (by omega)
    have e : 2 ^ (8 - t) = 2 * 2 ^ (8 - (t + 1)) := by
      rw [show 8 - t = (8 - (t + 1)) + 1 by omega, Nat.pow_succ, Nat.mul_comm]
    have e2 : 7 - t = 8 - (t + 1) := by omega
    rw [e] at h1 h2
    have et : trial b x0 (t + 1) = if b * 2 ^ (7 - t) ≤ (trial b x0 t).2 then (2 * (trial b x0 t).1 + 1, (trial b x0 t).2 - b * 2 ^ (7 - t)) else (2 * (trial b x0 t).1, (trial b x0 t).2) := rfl
    rw [et, e2]
    clear et
    obtain ⟨q, hq⟩ : ∃ q, (trial b x0 t).1 = q := ⟨_, rfl⟩
    obtain ⟨x, hx⟩ : ∃ x, (trial b x0 t).2 = x := ⟨_, rfl⟩
    rw [hq] at h1 h3 ⊢
    rw [hx] at h1 h2 ⊢
    generalize 2 ^ (8 - (t + 1)) = w at *
    have e3 : 2 ^ (t + 1) = 2 * 2 ^ t := by rw [Nat.pow_succ, Nat.mul_comm]
    rw [e3]
    have e4 : b * (q * (2 * w)) = b * (2 * q * w) := by rw [← Nat.mul_assoc q, Nat.mul_comm q 2]
    have e5 : b * (2 * w) = b * w + b * w := by rw [Nat.two_mul, Nat.mul_add]
    rw [e4] at h1
    rw [e5] at h2
    split
    · rename_i hc
      have e6 : b * ((2 * q + 1) * w) = b * (2 * q * w) + b * w := by rw [Nat.add_mul, Nat.one_mul, Nat.mul_add]
      simp only
      rw [e6]
      omega
    · rename_i hc
      simp only
      omega
/-- the digit and the rest -/
theorem trial_end {b x0 : Nat} (h : x0 < b * 256) : (trial b x0 8).1 = x0 / b ∧ (trial b x0 8).2 = x0 % b ∧ x0 / b < 256 := by
  obtain ⟨h1, h2, h3⟩ := trial_sum h 8 (Nat.le_refl 8)
  simp only [Nat.sub_self, Nat.pow_zero, Nat.mul_one] at h1 h2
  have hb : 0 < b := by
    rcases Nat.eq_zero_or_pos b with rfl | h0
    · omega
    · exact h0
  generalize (trial b x0 8).1 = q at *
  generalize (trial b x0 8).2 = x at *
  have hq : x0 / b = q := by
    rw [h1, Nat.mul_add_div hb, Nat.div_eq_of_lt h2, Nat.add_zero]
  have hr : x0 % b = x := by
    rw [h1, Nat.mul_add_mod, Nat.mod_eq_of_lt h2]
  refine ⟨hq.symm, hr.symm, ?_⟩
  rw [hq]; exact h3
theorem trial_le {b x0 : Nat} (h : x0 < b * 256) (t : Nat) (ht : t ≤ 8) : (trial b x0 t).2 ≤ x0 := by
  obtain ⟨h1, _⟩ := trial_sum h t ht
  omega
end Go.Dg



/- Numbers to the base 256: long division. -/
namespace Go.Dg

theorem dl_drop {l : List Int} (h : DL l) (i : Nat) : DL (l.drop i) := fun j => by
  have := h (i + j)
  simpa [List.getD_eq_getElem?_getD, List.getElem?_drop] using this
/-- the number of the digits from i on -/
def up (a : List Int) (i : Nat) : Nat := (num (a.drop i)).toNat
theorem up_num {a : List Int} (h : DL a) (i : Nat) : num (a.drop i) = (up a i : Int) := by
  have := num_nonneg (dl_drop h i)
  simp only [up]; omega
theorem up_over {a : List Int} {i : Nat} (h : a.length ≤ i) : up a i = 0 := by
  simp [up, List.drop_eq_nil_of_le h, num, nv]
theorem drop_getD {a : List Int} {i : Nat} (h : i < a.length) : a.drop i = a.getD i 0 :: a.drop (i + 1) := by
  rw [List.drop_eq_getElem_cons h]
  congr 1
  simp [List.getD_eq_getElem?_getD, h]
theorem up_step {a : List Int} (ha : DL a) {i : Nat} (h : i < a.length) : up a i = (a.getD i 0).toNat + 256 * up a (i + 1) := by
  have h1 := up_num ha i
  rw [drop_getD h, num_cons, up_num ha (i + 1)] at h1
  have := ha i
  omega
/-- a digit of the quotient -/
def qd (a : List Int) (b i : Nat) : Nat := (256 * (up a (i + 1) % b) + (a.getD i 0).toNat) / b
theorem qd_lt {a : List Int} (ha : DL a) {b : Nat} (hb : 0 < b) (i : Nat) : 256 * (up a (i + 1) % b) + (a.getD i 0).toNat < b * 256 := by
  have h1 := Nat.mod_lt (up a (i + 1)) hb
  have := ha i
  omega
theorem up_div {a : List Int} (ha : DL a) {b : Nat} (hb : 0 < b) {i : Nat} (h : i < a.length) : up a i / b = qd a b i + 256 * (up a (i + 1) / b) ∧ up a i % b = (256 * (up a (i + 1) % b) + (a.getD i 0).toNat) % b := by
  have h1 := Nat.div_add_mod (up a (i + 1)) b
  rw [up_step ha h]
  unfold qd
  generalize up a (i + 1) = u at *
  generalize (a.getD i 0).toNat = d at *
  have e : d + 256 * u = b * (256 * (u / b)) + (256 * (u % b) + d) := by
    have : 256 * u = 256 * (b * (u / b)) + 256 * (u % b) := by omega
    rw [this, Nat.mul_left_comm]; omega
  constructor
  · rw [e, Nat.mul_add_div hb]; omega
  · rw [e, Nat.mul_add_mod]
/-- the quotient's digits from i on -/
def ql (a : List Int) (b i : Nat) : List Int := (List.range a.length).map fun j => if i ≤ j then (qd a b j : Int) else 0
theorem ql_length {a : List Int} {b i : Nat} : (ql a b i).length = a.length := by simp [ql]
theorem ql_get {a : List Int} {b i j : Nat} (h : j < a.length) : (ql a b i).getD j 0 = if i ≤ j then (qd a b j : Int) else 0 := by simp [ql, h]
theorem qd_le {a : List Int} (ha : DL a) {b : Nat} (hb : 0 < b) (i : Nat) : qd a b i < 256 := (trial_end (qd_lt ha hb i)).2.2
theorem ql_dl {a : List Int} (ha : DL a) {b : Nat} (hb : 0 < b) (i : Nat) : DL (ql a b i) := fun j => by
  rcases Nat.lt_or_ge j a.length with h | h
  · rw [ql_get h]; have := qd_le ha hb j; split <;> omega
  · rw [List.getD_eq_getElem?_getD, List.getElem?_eq_none (by rw [ql_length]; exact h)]; simp
theorem ql_set {a : List Int} {b i : Nat} (h : i < a.length) : (ql a b (i + 1)).set i (qd a b i : Int) = ql a b i := by
  apply List.ext_getElem
  · simp [ql_length]
  · intro j h1 h2
    simp only [List.getElem_set]
    rw [ql_length] at h2
    split
    · rename_i e; subst e
      simp [ql]
    · rename_i e
      simp only [ql, List.getElem_map, List.getElem_range]
      by_cases h3 : i + 1 ≤ j
      · rw [if_pos h3, if_pos (by omega)]
      · rw [if_neg h3, if_neg (by omega)]
theorem ql_num {a : List Int} (ha : DL a) {b : Nat} (hb : 0 < b) : num (ql a b 0) = ((up a 0 / b : Nat) : Int) := by
  have key : ∀ k, k ≤ a.length → num ((ql a b 0).drop (a.length - k)) = ((up a (a.length - k) / b : Nat) : Int) := by
    intro k
    induction k with
    | zero =>
      intro _
      rw [Nat.sub_zero, List.drop_eq_nil_of_le (by rw [ql_length]; omega), up_over (Nat.le_refl _)]
      simp [num, nv]
    | succ k ih =>
      intro hk
      have hi : a.length - (k + 1) < a.length := by omega
      have e : a.length - (k + 1) + 1 = a.length - k := by omega
      rw [drop_getD (by rw [ql_length]; exact hi), num_cons, e, ih (by omega), (up_div ha hb hi).1, ql_get hi, if_pos (Nat.zero_le _), e]
      omega
  have := key a.length (Nat.le_refl _)
  rwa [Nat.sub_self, List.drop_zero] at this
/-- digits that are too few for the divisor -/
theorem up_small {a d : List Int} (ha : DL a) (hd : DL d) (hn : tz d d.length = d.length) {b : Nat} (hb : num d = b) (h0 : 0 < d.length) {i : Nat} (h : a.length ≤ i + (d.length - 1)) : up a i < b := by
  have h1 := (nv_bound (dl_drop ha i) (a.drop i).length).2
  have h2 := nv_ge hd (k := d.length - 1) (by
    have := tz_last d d.length (by omega)
    rwa [hn] at this)
  rw [show d.length - 1 + 1 = d.length by omega] at h2
  have h3 : DB ^ (a.drop i).length ≤ DB ^ (d.length - 1) := DB_mono (by rw [List.length_drop]; omega)
  have h4 := up_num ha i
  simp only [num] at h4 hb
  omega
/-- the quotient's first digits are zeros -/
theorem ql_start {a d : List Int} (ha : DL a) (hd : DL d) (hn : tz d d.length = d.length) {b : Nat} (hb : num d = b) (h0 : 0 < d.length) {i : Nat} (h : a.length ≤ i + (d.length - 1)) : ql a b i = List.replicate a.length 0 := by
  apply List.ext_getElem
  · simp [ql_length]
  · intro j h1 h2
    rw [ql_length] at h1
    simp only [ql, List.getElem_map, List.getElem_range, List.getElem_replicate]
    split
    · rename_i hij
      have hs1 := up_small ha hd hn hb h0 (i := j) (by omega)
      have hs2 := up_small ha hd hn hb h0 (i := j + 1) (by omega)
      have hst := up_step ha h1
      have : qd a b j = 0 := by
        unfold qd
        rw [Nat.mod_eq_of_lt hs2]
        exact Nat.div_eq_of_lt (by omega)
      rw [this]; rfl
    · rfl
end Go.Dg



/- Numbers to the base 256 that lie somewhere in a heap. -/
-- NEWSET
namespace Go.Proofs.Ythbhljolpnbdlaa.S1
open Go Go.Vh

/-- The digits of n lie in the row r. -/
def AtD (H : AHeap) (v : AV) (n r : Nat) : Prop := ∃ κ row, okS κ (Dg.dg n).length ∧ v = mkS κ r 0 (Dg.dg n).length ∧ Vh.rowAt H r = some row ∧ row.cells.take (Dg.dg n).length = ints .i64 (Dg.dg n)
theorem AtD.lt {H : AHeap} {v : AV} {n r : Nat} (h : AtD H v n r) : r < H.length := by
  obtain ⟨_, _, _, _, h, _⟩ := h; exact row_lt h
theorem AtD.keep {H H' : AHeap} {v : AV} {n r : Nat} (h : AtD H v n r) (he : Vh.rowAt H' r = Vh.rowAt H r) : AtD H' v n r := by
  obtain ⟨κ, row, h1, h2, h3, h4⟩ := h
  exact ⟨κ, row, h1, h2, by rw [he, h3], h4⟩
theorem mkS_cell {κ : SK} {r o n : Nat} : (mkS κ r o n).cell = true := by cases κ <;> rfl
theorem flat_row {row : ARow} {σ : Sig} (h : row.cells.all AV.flat = true) (ho : row.own = true) : renRow σ (some row) = some row := by
  simp only [renRow, Option.map_some, flatL_ren h, ho, if_true]
  cases row; simp only at ho; subst ho; rfl
theorem AtD.len {H : AHeap} {v : AV} {n r : Nat} {row : ARow} (h : row.cells.take (Dg.dg n).length = ints .i64 (Dg.dg n)) : (Dg.dg n).length ≤ row.cells.length := by
  have := congrArg List.length h
  simp only [List.length_take, ints_length] at this
  omega
/-- Rows are only added, but for one. -/
def Ext (H H' : AHeap) (Q : Nat) : Prop := H.length ≤ H'.length ∧ ∀ i, i < H.length → i ≠ Q → Vh.rowAt H' i = Vh.rowAt H i
theorem Ext.refl {H : AHeap} {Q : Nat} : Ext H H Q := ⟨Nat.le_refl _, fun _ _ _ => rfl⟩
theorem Ext.trans {H H' H'' : AHeap} {Q : Nat} (h : Ext H H' Q) (h' : Ext H' H'' Q) : Ext H H'' Q :=
  ⟨Nat.le_trans h.1 h'.1, fun i hi hq => by rw [h'.2 i (Nat.lt_of_lt_of_le hi h.1) hq, h.2 i hi hq]⟩
theorem row_left {H R : AHeap} {i : Nat} (h : i < H.length) : Vh.rowAt (H ++ R) i = Vh.rowAt H i := by
  simp only [Vh.rowAt]; rw [List.getElem?_append_left h]
theorem Ext.app {H R : AHeap} {Q : Nat} : Ext H (H ++ R) Q := ⟨by simp, fun i hi _ => row_left hi⟩
theorem Ext.set {H : AHeap} {Q : Nat} {x : Option ARow} : Ext H (H.set Q x) Q := ⟨by simp, fun i _ hq => row_other0 (Ne.symm hq)⟩
theorem AtD.ext {H H' : AHeap} {v : AV} {n r Q : Nat} (h : AtD H v n r) (he : Ext H H' Q) (hq : r ≠ Q) : AtD H' v n r := h.keep (he.2 r h.lt hq)

section
variable {f : FuncId} {K : St → AHeap → Prop} {d : Option Nat} {s : St} {H : AHeap}
/-- A call with two numbers, which answers a new one. -/
theorem call_DD {x y n : Nat} {u v : AV} {a b : Nat} (h : ∀ κ κ', okS κ (Dg.dg x).length → okS κ' (Dg.dg y).length → ACalls Try.prog f [mkS κ 0 0 (Dg.dg x).length, mkS κ' 1 0 (Dg.dg y).length] [ro (ints .i64 (Dg.dg x)), ro (ints .i64 (Dg.dg y))] (List.range 2) (DNew [ro (ints .i64 (Dg.dg x)), ro (ints .i64 (Dg.dg y))] n))
    (hu : AtD H u x a) (hv : AtD H v y b) (hK : ∀ w row, row.own = true → row.cells.all AV.flat = true → AtD (H ++ [some row]) w n H.length → w.cell = true → K (putI d s w) (H ++ [some row])) : thenC Try.prog K d s H [u, v] (.func f []) := by
  obtain ⟨κ, ra, h1, rfl, h3, h4⟩ := hu
  obtain ⟨κ', rb, k1, rfl, k3, k4⟩ := hv
  refine call_cc (da := 0) (db := 0) (rest := []) (h κ κ' h1 k1) ints_flat ints_flat rfl h3 k3 (by rw [ints_length, Nat.zero_add]; exact AtD.len (H := H) (v := .any) (r := 0) h4) (by rw [ints_length, Nat.zero_add]; exact AtD.len (H := H) (v := .any) (r := 0) k4) (by rw [List.drop_zero, ints_length, h4]) (by rw [List.drop_zero, ints_length, k4]) rfl ?_
  rintro v0 H0' ⟨κ2, row, q1, rfl, rfl, q4, q5, q6⟩
  rw [n_mkS0 (r' := H.length) (by simp [sig]), show ([ro (ints .i64 (Dg.dg x)), ro (ints .i64 (Dg.dg y))] ++ [some row]).drop 2 = [some row] from rfl, List.map_cons, List.map_nil, flat_row q6 q4]
  exact hK _ row q4 q6 ⟨κ2, row, q1, rfl, by simp [Vh.rowAt], q5⟩ mkS_cell
/-- Two numbers are compared. -/
theorem call_cmp {x y : Nat} {u v : AV} {a b : Nat} (hx : (Dg.dg x).length ≤ 1000000) (hy : (Dg.dg y).length ≤ 1000000) (hu : AtD H u x a) (hv : AtD H v y b) (hK : K (putI d s (.int .i64 (Dg.cmpI x y))) H) : thenC Try.prog K d s H [u, v] (.func 117 []) := by
  obtain ⟨κ, ra, h1, rfl, h3, h4⟩ := hu
  obtain ⟨κ', rb, k1, rfl, k3, k4⟩ := hv
  have hc := rcompare_calls κ κ' (Dg.dg x) (Dg.dg y) h1 k1 hx hy (Dg.dg_dl x) (Dg.dg_dl y) (Dg.dg_tz x) (Dg.dg_tz y)
  rw [Dg.dg_num, Dg.dg_num] at hc
  refine call_cc (da := 0) (db := 0) (rest := []) hc ints_flat ints_flat rfl h3 k3 (by rw [ints_length, Nat.zero_add]; exact AtD.len (H := H) (v := .any) (r := 0) h4) (by rw [ints_length, Nat.zero_add]; exact AtD.len (H := H) (v := .any) (r := 0) k4) (by rw [List.drop_zero, ints_length, h4]) (by rw [List.drop_zero, ints_length, k4]) rfl ?_
  rintro v0 H0' ⟨rfl, rfl⟩
  rw [n_int, show ([ro (ints .i64 (Dg.dg x)), ro (ints .i64 (Dg.dg y))]).drop 2 = [] from rfl, List.map_nil, List.append_nil]
  exact hK
theorem call_add {x y : Nat} {u v : AV} {a b : Nat} (hx : (Dg.dg x).length ≤ 100000) (hy : (Dg.dg y).length ≤ 100000) (hu : AtD H u x a) (hv : AtD H v y b) (hK : ∀ w row, row.own = true → row.cells.all AV.flat = true → AtD (H ++ [some row]) w (x + y) H.length → w.cell = true → K (putI d s w) (H ++ [some row])) : thenC Try.prog K d s H [u, v] (.func 142 []) :=
  call_DD (fun κ κ' h1 h2 => radd_calls κ κ' (Dg.dg x) (Dg.dg y) x y h1 h2 hx hy (Dg.dg_dl x) (Dg.dg_dl y) (Dg.dg_num x) (Dg.dg_num y)) hu hv hK
theorem call_mul {x y : Nat} {u v : AV} {a b : Nat} (hx : (Dg.dg x).length ≤ 100000) (hy : (Dg.dg y).length ≤ 100000) (hu : AtD H u x a) (hv : AtD H v y b) (hK : ∀ w row, row.own = true → row.cells.all AV.flat = true → AtD (H ++ [some row]) w (x * y) H.length → w.cell = true → K (putI d s w) (H ++ [some row])) : thenC Try.prog K d s H [u, v] (.func 119 []) :=
  call_DD (fun κ κ' h1 h2 => rmul_calls κ κ' (Dg.dg x) (Dg.dg y) x y h1 h2 hx hy (Dg.dg_dl x) (Dg.dg_dl y) (Dg.dg_num x) (Dg.dg_num y)) hu hv hK
theorem call_sub {x y : Nat} {u v : AV} {a b : Nat} (hx : (Dg.dg x).length ≤ 100000) (hle : y ≤ x) (hu : AtD H u x a) (hv : AtD H v y b) (hK : ∀ w row, row.own = true → row.cells.all AV.flat = true → AtD (H ++ [some row]) w (x - y) H.length → w.cell = true → K (putI d s w) (H ++ [some row])) : thenC Try.prog K d s H [u, v] (.func 159 []) :=
  call_DD (fun κ κ' h1 h2 => rsub_calls κ κ' (Dg.dg x) (Dg.dg y) x y h1 h2 hx (Dg.len_le (Dg.dg_dl x) (Dg.dg_dl y) (Dg.dg_tz y) (by rw [Dg.dg_num, Dg.dg_num]; omega)) (Dg.dg_dl x) (Dg.dg_dl y) (Dg.dg_num x) (Dg.dg_num y) hle) hu hv hK
theorem call_small {n : Nat} (hn : n ≤ 9223372036854775807) (hK : ∀ w row, row.own = true → row.cells.all AV.flat = true → AtD (H ++ [some row]) w n H.length → w.cell = true → K (putI d s w) (H ++ [some row])) : thenC Try.prog K d s H [.int .i64 (n : Int)] (.func 140 []) := by
  refine call_fr (rsmall_calls n hn) rfl rfl ?_
  rintro v new ⟨κ2, row, q1, rfl, rfl, q4, q5, q6⟩
  rw [n_mkS0 (r' := H.length) (by simp [sig]), show ([] ++ [some row] : AHeap) = [some row] from rfl, List.map_cons, List.map_nil, flat_row q6 q4]
  exact hK _ row q4 q6 ⟨κ2, row, q1, by simp, by simp [Vh.rowAt], q5⟩ mkS_cell
/-- A list that lies in a row of its own is trimmed. -/
theorem call_trimD {κ : SK} {r : Nat} {b : Bool} {l : List Int} {n : Nat} (hk : okS κ l.length) (hm : l.length ≤ 1000000) (hr : Vh.rowAt H r = some ⟨true, b, ints .i64 l⟩) (hl : Dg.DL l) (hn : Dg.num l = n) (hK : ∀ w, AtD H w n r → w.cell = true → K (putI d s w) H) : thenC Try.prog K d s H [mkS κ r 0 l.length] (.func 126 []) := by
  refine call_ints (κ := κ) (l := l) (r := r) (row := ⟨true, b, ints .i64 l⟩) (rtrim_calls κ l hk (by omega)) rfl hr (by rw [← ints_length (k := .i64) (l := l), List.take_length]) rfl ?_
  rintro v0 H0' ⟨rfl, rfl⟩
  rw [n_mkS0 (r' := r) rfl, show ([ro (ints .i64 l)] : AHeap).drop 1 = [] from rfl, List.map_nil, List.append_nil]
  refine hK _ ?_ mkS_cell
  have ht := Dg.trim_dg hl
  rw [hn, Int.toNat_natCast, ← tz_dg] at ht
  have hle := tz_le l l.length
  have hll : tz l l.length = (Dg.dg n).length := by
    have := congrArg List.length ht
    rw [List.length_take] at this
    omega
  refine ⟨κ, ⟨true, b, ints .i64 l⟩, ?_, by rw [hll], hr, ?_⟩
  · rw [← hll]; cases κ <;> simp only [okS] at * <;> omega
  · rw [ints_take, ← hll, ht]
end
end Go.Proofs.Ythbhljolpnbdlaa.S1



/- Contracts: the reference's long division. -/
-- NEWSET
namespace Go.Dg
theorem dg_lt (n : Nat) : n < 256 ^ (dg n).length := by
  have h := (nv_bound (dg_dl n) (dg n).length).2
  have h2 := dg_num n
  simp only [num] at h2
  rw [h2] at h
  have e : DB ^ (dg n).length = ((256 ^ (dg n).length : Nat) : Int) := by rw [Int.natCast_pow]; rfl
  rw [e] at h
  exact_mod_cast h
theorem dg_mul_len {n x : Nat} (h : x < n * 256) : (dg x).length ≤ (dg n).length + 1 := by
  refine dg_len_le ?_
  have := dg_lt n
  rw [Nat.pow_succ]
  exact Nat.lt_of_lt_of_le h (Nat.mul_le_mul_right _ (Nat.le_of_lt this))
theorem dl_cons {z : Int} {l : List Int} (hz : 0 ≤ z ∧ z ≤ 255) (h : DL l) : DL (z :: l) := fun i => by
  cases i with
  | zero => simpa using hz
  | succ i => simpa using h i
theorem ql_set0 {a : List Int} {b i : Nat} (h : i < a.length) : (ql a b (i + 1)).set i 0 = ql a b (i + 1) := by
  apply List.ext_getElem
  · simp
  · intro j h1 h2
    simp only [List.getElem_set]
    split
    · rename_i e; subst e
      simp [ql]
      omega
    · rfl
theorem pow_le8 {j : Nat} (h : j ≤ 7) : 2 ^ j ≤ 128 := Nat.le_trans (Nat.pow_le_pow_right (by omega) h) (by decide)
end Go.Dg
namespace Go.Proofs.Ythbhljolpnbdlaa.S1
open Go Go.Vh

section
variable {s : St} {H : AHeap}
theorem AtD.src {v : AV} {n r : Nat} (h : AtD H v n r) : alen v = some (Dg.dg n).length ∧ asrc 1 v H = some (ints .i64 (Dg.dg n)) := by
  obtain ⟨κ, row, h1, rfl, h3, h4⟩ := h
  have hl := AtD.len (H := H) (v := .any) (r := 0) h4
  refine ⟨k_len h1 (Nat.le_refl _), ?_⟩
  generalize hd : Dg.dg n = l at *
  by_cases h0 : l.length = 0
  · obtain rfl : l = [] := List.eq_nil_of_length_eq_zero h0
    cases κ <;> simp [mkS, asrc, ints]
  · cases κ with
    | nil => simp only [okS] at h1; omega
    | cap c => simp [mkS, asrc, h0, cellsAt, h3, hl, h4]
    | u => simp [mkS, asrc, h0, cellsAt, h3, hl, h4]
theorem slLo {κ : SK} {n x : Nat} {l : List Int} (hk : okS κ n) (hl : l.length = n) (hx : x ≤ n) : ∃ u, aslice 1 (mkS κ 0 0 n) (some (.int .i64 (x : Int))) none = some u ∧ alen u = some (n - x) ∧ ∀ H, Vh.rowAt H 0 = some ⟨false, false, ints .i64 l⟩ → asrc 1 u H = some (ints .i64 (l.drop x)) := by
  have hd : (ints .i64 l).drop x = ints .i64 (l.drop x) := by simp [ints]
  cases κ with
  | nil =>
    simp only [okS] at hk
    obtain rfl : x = 0 := by omega
    obtain rfl : l = [] := List.eq_nil_of_length_eq_zero (by omega)
    exact ⟨.nilslice, by simp [mkS, aslice, ahi, abound], by simp [alen, hk], fun H _ => by simp [asrc, ints]⟩
  | cap c =>
    refine ⟨.slice 0 x (n - x) (c - x), by simp [mkS, aslice, ahi, abound, hx], rfl, fun H hr => ?_⟩
    by_cases h0 : n - x = 0
    · simp [asrc, h0, List.drop_eq_nil_of_le (show l.length ≤ x by omega), ints]
    · simp only [asrc, Nat.mul_one, if_neg h0, cellsAt, hr, Option.bind_some]
      rw [if_pos (by rw [ints_length]; omega), hd, List.take_of_length_le (by rw [ints_length, List.length_drop]; omega)]
  | u =>
    refine ⟨.sliceU 0 x (n - x) 1, by simp [mkS, aslice, ahi, abound, hx], rfl, fun H hr => ?_⟩
    by_cases h0 : n - x = 0
    · simp [asrc, h0, List.drop_eq_nil_of_le (show l.length ≤ x by omega), ints]
    · simp only [asrc, Nat.mul_one, if_neg h0, if_true, cellsAt, hr, Option.bind_some]
      rw [if_pos (by rw [ints_length]; omega), hd, List.take_of_length_le (by rw [ints_length, List.length_drop]; omega)]
/-- An append to a new slice of nothing. -/
theorem x_appE {x y : Opd} {r a : Nat} {u : AV} {xs : List Int} (hx : evo s x = .slice r 0 0 0) (hy : evo s y = u) (hl : alen u = some a) (hs : asrc 1 u H = some (ints .i64 xs)) (hb : a ≤ 1000000) :
    ieff (.append 1 8 x y) s H = some (mkS .u H.length 0 a, H ++ [sl (ints .i64 xs)]) := by
  simp only [ieff, hx, hy, hl, hs, Option.bind_some, aappend, Nat.zero_add]
  rw [if_pos (by omega)]
  simp [anew, ints_cell, sl, mkS]
/-- An append to a new slice of one number. -/
theorem x_app1 {x y : Opd} {L n rr : Nat} {z : Int} {v : AV} (hL : Vh.rowAt H L = rw_ [.int .i64 z]) (hv : AtD H v n rr) (hb : (Dg.dg n).length ≤ 1000000) :
    ∃ κ2 r2 sk R, (∀ s : St, evo s x = .slice L 0 1 1 → evo s y = v → ieff (.append 1 8 x y) s H = some (mkS κ2 r2 0 (z :: Dg.dg n).length, H ++ R)) ∧ okS κ2 (z :: Dg.dg n).length ∧ Vh.rowAt (H ++ R) r2 = some ⟨true, sk, ints .i64 (z :: Dg.dg n)⟩ ∧ L ≤ r2 := by
  obtain ⟨h1, h2⟩ := hv.src
  have hlt := row_lt (show Vh.rowAt H L = some ⟨true, false, [.int .i64 z]⟩ from hL)
  generalize Dg.dg n = l at *
  by_cases h0 : l.length = 0
  · obtain rfl : l = [] := List.eq_nil_of_length_eq_zero h0
    refine ⟨.cap 1, L, false, [], fun s hx hy => ?_, Nat.le_refl 1, by rw [List.append_nil, hL]; rfl, Nat.le_refl _⟩
    have hset : H.set L (some ⟨true, false, [.int .i64 z]⟩) = H := by
      apply List.ext_getElem?
      intro i
      rw [List.getElem?_set]
      by_cases e : L = i
      · subst e; rw [if_pos rfl, if_pos hlt]
        have hL' := hL
        rw [show rw_ [AV.int .i64 z] = some ⟨true, false, [.int .i64 z]⟩ from rfl, rowAt_some] at hL'
        exact hL'.symm
      · rw [if_neg e]
    have hi : ints .i64 ([] : List Int) = [] := rfl
    rw [hi] at h2
    simp only [ieff, hx, hy, h1, h2, Option.bind_some, aappend, List.length_nil, Nat.add_zero]
    rw [if_pos (by omega), if_neg (by omega), if_neg (by omega)]
    simp only [aput, hL, rw_, Option.bind_some]
    rw [if_pos ⟨trivial, by simp, rfl⟩]
    simp [splice, hset, mkS]
  · refine ⟨.u, H.length, true, [sl (ints .i64 (z :: l))], fun s hx hy => ?_, trivial, by simp [Vh.rowAt, sl], by omega⟩
    simp only [ieff, hx, hy, h1, h2, Option.bind_some, aappend]
    rw [if_pos (by omega), if_neg (by omega), if_pos (by omega)]
    simp only [cellsAt, hL, rw_, Option.bind_some]
    rw [if_pos (by simp)]
    simp [anew, sl, mkS, ints, Nat.add_comm, AV.cell]
end

/-- The doubles of a number: a row of slices. -/
def Dbl (H : AHeap) (q D k Q : Nat) (cells : List AV) : Prop := cells.length = k ∧ ∀ j, j < k → ∃ c r, cells[j]? = some c ∧ c.cell = true ∧ AtD H c (q * 2 ^ j) r ∧ r ≠ Q
theorem Dbl.ext {H H' : AHeap} {q D k Q : Nat} {cells : List AV} (h : Dbl H q D k Q cells) (he : Ext H H' Q) : Dbl H' q D k Q cells :=
  ⟨h.1, fun j hj => by obtain ⟨c, r, h1, h2, h3, h4⟩ := h.2 j hj; exact ⟨c, r, h1, h2, h3.ext he h4, h4⟩⟩

/-- the slice of the doubles -/
def dblS (D k : Nat) : AV := if k = 1 then .slice D 0 1 1 else .sliceU D 0 k 1
theorem dblS_idx {D k j : Nat} (h : j < k) : aindexAddr 1 (dblS D k) (.int .i64 (j : Int)) = some (.ptr D j) := by
  unfold dblS; split
  · subst k; simp [aindexAddr]; omega
  · simp [aindexAddr]; omega
theorem x_appD {s : St} {H : AHeap} {x y : Opd} {D k r : Nat} {cells : List AV} {c : AV} (hx : evo s x = dblS D k) (hy : evo s y = .slice r 0 1 1) (hD : Vh.rowAt H D = some ⟨true, decide (k ≠ 1), cells⟩) (hn : cells.length = k) (hk : 1 ≤ k) (hk8 : k ≤ 1000) (hr : Vh.rowAt H r = some ⟨true, false, [c]⟩) (hc : c.cell = true) (hall : cells.all AV.cell = true) :
    ieff (.append 1 24 x y) s H = some (dblS H.length (k + 1), (if k = 1 then H else H.set D none) ++ [sl (cells ++ [c])]) := by
  have hsrc : alen (.slice r 0 1 1) = some 1 ∧ asrc 1 (.slice r 0 1 1) H = some [c] := ⟨rfl, by simp [asrc, cellsAt, hr]⟩
  have hd : dblS H.length (k + 1) = .sliceU H.length 0 (k + 1) 1 := by unfold dblS; rw [if_neg (by omega)]
  rw [hd]
  by_cases h1 : k = 1
  · subst h1
    simp only [ieff, hx, hy, hsrc.1, hsrc.2, Option.bind_some, dblS, if_true, aappend]
    rw [if_pos (by omega), if_neg (by omega), if_pos (by omega)]
    simp only [cellsAt, hD, Option.bind_some]
    rw [if_pos (by omega)]
    have ht : cells.take 1 = cells := List.take_of_length_le (by omega)
    simp [anew, sl, ht, hc]
    simpa using hall
  · rw [if_neg h1]
    have hx' : evo s x = .sliceU D 0 k 1 := by rw [hx]; unfold dblS; rw [if_neg h1]
    rw [x_appU (q := D) (n := k) (r := r) (m := 1) (c := 1) (row := ⟨true, false, [c]⟩) (xs := [c]) (old := cells) hx' hy (by rw [hD]; simp [h1]) hn hr rfl (by simp) (by omega) (by simp [hc])]
end Go.Proofs.Ythbhljolpnbdlaa.S1


