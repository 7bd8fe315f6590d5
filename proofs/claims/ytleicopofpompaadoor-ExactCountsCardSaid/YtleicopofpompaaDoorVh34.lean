/- Rows of bytes; what is appended within the room; loops over strings. -/
import Derived.Test.YtleicopofpompaaDoorVY
set_option linter.unusedSimpArgs false
set_option linter.unusedVariables false
namespace Go.Vh
open Go
variable {s : St} {H : AHeap}

/-- n bytes. -/
def ut (n : Nat) (q : Nat → Nat) : List AV := (List.range n).map fun i => AV.int .u8 ((q i : Nat) : Int)

theorem ut_length {n q} : (ut n q).length = n := by simp [ut]
theorem ut_get {n q i} (h : i < n) : (ut n q)[i]? = some (.int .u8 ((q i : Nat) : Int)) := by simp [ut, h]
theorem ut_flat {n q} : (ut n q).all AV.flat = true := by simp [ut, AV.flat]
theorem ut_ren {σ : Sig} {n q} : renL σ (ut n q) = ut n q := flatL_ren ut_flat
theorem ut_cell {n q} : (ut n q).all AV.cell = true := by simp [ut, AV.cell]
theorem ut_congr {n q q'} (h : ∀ i, i < n → q i = q' i) : ut n q = ut n q' := by
  unfold ut
  apply List.map_congr_left
  intro i hi
  rw [h i (by simpa using hi)]
theorem ut_set {n q i x} (h : i < n) : (ut n q).set i (.int .u8 ((x : Nat) : Int)) = ut n fun j => if j = i then x else q j := by
  apply List.ext_getElem?
  intro j
  rcases Nat.lt_or_ge j n with hj | hj
  · rw [ut_get hj]
    by_cases e : j = i
    · subst e; rw [List.getElem?_set_self (by rw [ut_length]; omega)]; simp
    · rw [List.getElem?_set_ne (Ne.symm e), ut_get hj]; simp [e]
  · rw [List.getElem?_eq_none (by rw [List.length_set, ut_length]; omega), List.getElem?_eq_none (by rw [ut_length]; omega)]
theorem ut_const {n x} : List.replicate n (AV.int .u8 ((x : Nat) : Int)) = ut n fun _ => x := by
  apply List.ext_getElem?
  intro j
  rcases Nat.lt_or_ge j n with hj | hj
  · rw [ut_get hj]; simp [hj]
  · rw [List.getElem?_eq_none (by simp; omega), List.getElem?_eq_none (by rw [ut_length]; omega)]
theorem ut_take {n q m} (h : m ≤ n) : (ut n q).take m = ut m q := by
  apply List.ext_getElem?
  intro i
  rcases Nat.lt_or_ge i m with hi | hi
  · rw [List.getElem?_take_of_lt hi, ut_get (by omega), ut_get hi]
  · rw [List.getElem?_eq_none (by rw [List.length_take, ut_length]; omega), List.getElem?_eq_none (by rw [ut_length]; omega)]

theorem x_makeU {x : Opd} {n : Nat} {bytes : Nat} (h : evo s x = .int .i64 (n : Int)) (h1 : bytes * n ≤ 281474976710656) (h2 : n ≤ 9223372036854775807) :
    ieff (.makeSlice (.int .u8 0) bytes x x) s H = some (.slice H.length 0 n n, H ++ [rw_ (ut n fun _ => 0)]) := by
  have hb : 0 ≤ (n : Int) ∧ (n : Int) ≤ n ∧ (bytes : Int) * (n : Int) ≤ 281474976710656 ∧ (n : Int) ≤ 9223372036854775807 := by
    refine ⟨by omega, by omega, ?_, by omega⟩
    have : ((bytes * n : Nat) : Int) ≤ 281474976710656 := by omega
    simpa using this
  have e := ut_const (n := n) (x := 0)
  have hc := ut_cell (n := n) (q := fun _ => 0)
  rw [← e] at hc ⊢
  simp only [ieff, h]
  rw [if_pos hb]
  simp only [Int.toNat_natCast, anew, rw_]
  rw [show ((0 : Nat) : Int) = 0 from rfl] at hc
  rw [if_pos hc]
  rfl
theorem x_putU {x v : Opd} {r off : Nat} {b : Nat} {n : Nat} {q : Nat → Nat} (hx : evo s x = .ptr r off) (hv : evo s v = .int .u8 (b : Int)) (hr : Vh.rowAt H r = some ⟨true, false, ut n q⟩) (ho : off < n) :
    ieff (.store 1 x v) s H = some (.any, H.set r (rw_ (ut n fun j => if j = off then b else q j))) := by
  have hs : splice (ut n q) off [.int .u8 (b : Int)] = (ut n q).set off (.int .u8 (b : Int)) := by
    rw [splice, List.set_eq_take_append_cons_drop, if_pos (by rw [ut_length]; omega)]
    simp
  simp only [ieff, hx, hv]
  simp only [aparts, List.length_singleton, if_true, aput, hr, Option.bind_some]
  rw [if_pos ⟨trivial, by rw [ut_length]; omega, rfl⟩, hs, ut_set ho]
  rfl

/-- An empty slice with room. -/
theorem x_makeR {x y : Opd} {n : Nat} {bytes : Nat} (h0 : evo s y = .int .i64 0) (h : evo s x = .int .i64 (n : Int)) (h1 : bytes * n ≤ 281474976710656) (h2 : n ≤ 9223372036854775807) :
    ieff (.makeSlice (.bool false) bytes y x) s H = some (.slice H.length 0 0 n, H ++ [rw_ (bt n fun _ => false)]) := by
  have hb : 0 ≤ (0 : Int) ∧ (0 : Int) ≤ n ∧ (bytes : Int) * (n : Int) ≤ 281474976710656 ∧ (n : Int) ≤ 9223372036854775807 := by
    refine ⟨by omega, by omega, ?_, by omega⟩
    have : ((bytes * n : Nat) : Int) ≤ 281474976710656 := by omega
    simpa using this
  simp only [ieff, h, h0]
  rw [if_pos hb]
  simp [anew, bt_const, bt_cell, rw_]

theorem bt_splice {n m o : Nat} {g h : Nat → Bool} (ho : o + m ≤ n) : splice (bt n g) o (bt m h) = bt n fun i => if o ≤ i ∧ i < o + m then h (i - o) else g i := by
  have e1 : ((bt n g).take o).length = o := by rw [List.length_take, bt_length]; omega
  have e2 : (bt m h).length = m := bt_length
  apply List.ext_getElem?
  intro i
  unfold splice
  rw [e2]
  rcases Nat.lt_or_ge i o with h1 | h1
  · rw [List.append_assoc, List.getElem?_append_left (by omega), List.getElem?_take_of_lt h1, bt_get (by omega), bt_get (by omega), if_neg (by omega)]
  · rcases Nat.lt_or_ge i (o + m) with h2 | h2
    · rw [List.append_assoc, List.getElem?_append_right (by omega), e1, List.getElem?_append_left (by omega), bt_get (by omega), bt_get (by omega), if_pos ⟨h1, h2⟩]
    · have e3 : ((bt n g).take o ++ bt m h).length = o + m := by rw [List.length_append, e1, e2]
      rcases Nat.lt_or_ge i n with h3 | h3
      · rw [List.getElem?_append_right (by omega), e3, List.getElem?_drop, show o + m + (i - (o + m)) = i by omega, bt_get h3, bt_get h3, if_neg (by omega)]
      · rw [List.getElem?_eq_none (by rw [List.length_append, e3, List.length_drop, bt_length]; omega), List.getElem?_eq_none (by rw [bt_length]; omega)]

/-- An append that fits. -/
theorem x_appS {bytes : Nat} {x y : Opd} {r q n m c c' : Nat} {row : ARow} {g h : Nat → Bool} (hx : evo s x = .slice r 0 n c) (hy : evo s y = .slice q 0 m c') (hq : Vh.rowAt H q = some row) (hc : row.cells.take m = bt m h) (hm : m ≤ row.cells.length)
    (hr : Vh.rowAt H r = some ⟨true, false, bt c g⟩) (hb : (n + m) * bytes ≤ 70368744177664) (hfit : n + m ≤ c) (hpos : 0 < m) :
    ieff (.append 1 bytes x y) s H = some (.slice r 0 (n + m) c, H.set r (rw_ (bt c fun i => if n ≤ i ∧ i < n + m then h (i - n) else g i))) := by
  simp only [ieff, hx, hy, l_slice, src_at hq hc hm, Option.bind_some, aappend, if_pos hb]
  rw [if_neg (by omega), if_neg (by omega)]
  simp only [aput, hr, Option.bind_some]
  rw [if_pos ⟨trivial, by rw [bt_length, bt_length]; omega, bt_cell⟩]
  simp only [Nat.mul_one, Nat.zero_add]
  rw [bt_splice hfit]
  rfl

theorem b_or1 {x : Nat} (hx : 2 * x + 1 < 2 ^ 64) : abin .or (.int .u64 ((2 * x : Nat) : Int)) (.int .u64 1) = some (.int .u64 ((2 * x + 1 : Nat) : Int)) := by
  have e : 2 * x ||| 1 = 2 * x + 1 := by
    have := Nat.two_pow_add_eq_or_of_lt (i := 1) (b := 1) (by decide) x
    simpa using this.symm
  have : abits .or .u64 ((2 * x : Nat) : Int) ((1 : Nat) : Int) = ((2 * x + 1 : Nat) : Int) := by
    show IntKind.u64.wrap ((BitVec.ofInt 64 ((2 * x : Nat) : Int) ||| BitVec.ofInt 64 ((1 : Nat) : Int)).toNat : Int) = _
    rw [BitVec.ofInt_natCast, BitVec.ofInt_natCast, BitVec.toNat_or, BitVec.toNat_ofNat, BitVec.toNat_ofNat, Nat.mod_eq_of_lt (by omega), Nat.mod_eq_of_lt (by decide), e, IntKind.wrap_u64]
    omega
  simp only [abin, aint, if_true]
  rw [show (1 : Int) = ((1 : Nat) : Int) from rfl, this]

theorem e_strLoop {P : Program} {n0 : Nat} {A B : List IStep} {x : Opd} {it id d : Nat} {rest : IR} {Q s H} : iwp P n0 (.strLoop A x it id d B rest) Q s H =
    iops P A (fun s H => strThen (fun str => ∃ I : Nat → St → AHeap → Prop, I 0 (upd s it (.ptr H.length 0)) (H ++ [some ⟨false, false, []⟩]) ∧
      ∀ pos s H, I pos s H → (∃ r, s it = .ptr r 0) ∧ iops P B (fun s1 H1 => iwp P H.length rest (strPost str pos it (s it) id n0 I Q) s1 H1) (upd s d (letter str pos)) H) (evo s x)) s H := rfl
theorem p_slice3 {sz x lo hi mx} : ipure (.slice3 sz x lo hi mx) s = aslice3 sz (evo s x) (lo.map (evo s)) (evo s hi) (evo s mx) := rfl
theorem x_toStr {x} : ieff (.bytesToStr x) s H = (match alen (evo s x) with | some _ => (asrc 1 (evo s x) H).bind fun l => (abytes l).map fun ns => (.str (strOfNums ns), H) | none => none) := rfl
def nums (n : Nat) (q : Nat → Nat) : List Int := (List.range n).map fun i => ((q i : Nat) : Int)
theorem abytes_map {q : Nat → Nat} : ∀ l : List Nat, abytes (l.map fun i => AV.int .u8 ((q i : Nat) : Int)) = some (l.map fun i => ((q i : Nat) : Int))
  | [] => rfl
  | a :: l => by simp only [List.map_cons, abytes, abytes_map l, Option.map_some]
theorem abytes_ut {n q} : abytes (ut n q) = some (nums n q) := abytes_map _
/-- The string of bytes. -/
theorem x_strK {κ : SK} {x : Opd} {r n : Nat} {row : ARow} {q : Nat → Nat} (hx : evo s x = mkS κ r 0 n) (hk : okS κ n) (hr : Vh.rowAt H r = some row) (hc : row.cells.take n = ut n q) (hm : n ≤ row.cells.length) :
    ieff (.bytesToStr x) s H = some (.str (strOfNums (nums n q)), H) := by
  have h1 : asrc 1 (mkS κ r 0 n) H = some (ut n q) := by
    cases κ with
    | nil =>
      have : n = 0 := hk
      subst this; rfl
    | cap c => exact src_at hr hc hm
    | u =>
      by_cases h0 : n = 0
      · subst h0; rfl
      · simp only [mkS, asrc, if_true, Nat.mul_one, if_neg h0, cellsAt, hr, Option.bind_some, Nat.zero_add, List.drop_zero]
        rw [if_pos hm, hc]
  rw [x_toStr, hx]
  simp only [k_len hk (Nat.le_refl n), h1, Option.bind_some, abytes_ut, Option.map_some]
theorem wu8 {x : Int} (h : 0 ≤ x) (h' : x ≤ 255) : IntKind.u8.wrap x = x := by rw [IntKind.wrap_u8]; omega
end Go.Vh
