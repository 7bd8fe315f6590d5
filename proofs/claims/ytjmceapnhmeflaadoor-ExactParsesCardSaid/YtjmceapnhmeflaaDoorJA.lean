/- Contracts: slices.Reverse of bytes. -/
import Derived.Test.YtjmceapnhmeflaaDoorVX
import Derived.Test.YtjmceapnhmeflaaDoorIrF
import Derived.Test.YtjmceapnhmeflaaDoorVY
import Derived.Test.YtjmceapnhmeflaaDoorFI
set_option linter.unusedSimpArgs false
set_option linter.unusedVariables false
-- NEWSET
namespace Go.Proofs.YtjmceapnhmeflaaDoor
open Go Go.Vh

/-- the first i and the last i have changed their places -/
def rv (l : List Int) (i : Nat) : List Int := (List.range l.length).map fun t => if t < i ∨ l.length ≤ t + i then l.getD (l.length - 1 - t) 0 else l.getD t 0
theorem rv_length (l : List Int) (i : Nat) : (rv l i).length = l.length := by simp [rv]
theorem rv_get {l : List Int} {i t : Nat} (h : t < l.length) : (rv l i).getD t 0 = if t < i ∨ l.length ≤ t + i then l.getD (l.length - 1 - t) 0 else l.getD t 0 := by
  simp [rv, List.getD_eq_getElem?_getD, h]
theorem rv_step {l : List Int} {i : Nat} (h : i + i + 1 < l.length) : ((rv l i).set i (l.getD (l.length - 1 - i) 0)).set (l.length - 1 - i) (l.getD i 0) = rv l (i + 1) := by
  apply List.ext_getElem
  · simp [rv_length]
  · intro t h1 h2
    simp only [List.length_set, rv_length] at h1
    simp only [List.getElem_set]
    have e1 := rv_get (l := l) (i := i) h1
    have e2 := rv_get (l := l) (i := i + 1) h1
    rw [List.getD_eq_getElem?_getD, List.getElem?_eq_getElem (by rw [rv_length]; exact h1), Option.getD_some] at e1 e2
    rw [e2]
    by_cases ha : l.length - 1 - i = t
    · subst ha
      rw [if_pos rfl, if_pos (by omega)]
      congr 1; omega
    · rw [if_neg ha]
      by_cases hb : i = t
      · subst hb
        rw [if_pos rfl, if_pos (by omega)]
      · rw [if_neg hb, e1]
        by_cases hc : t < i ∨ l.length ≤ t + i
        · rw [if_pos hc, if_pos (by omega)]
        · rw [if_neg hc, if_neg (by omega)]
theorem rv_zero (l : List Int) : rv l 0 = l := by
  apply List.ext_getElem
  · simp [rv_length]
  · intro t h1 h2
    have e1 := rv_get (l := l) (i := 0) h2
    rw [List.getD_eq_getElem?_getD, List.getElem?_eq_getElem h1, Option.getD_some] at e1
    rw [e1, if_neg (by omega)]
    simp [List.getD_eq_getElem?_getD, h2]
theorem rv_end {l : List Int} {i : Nat} (h : l.length ≤ i + i + 1) : rv l i = l.reverse := by
  apply List.ext_getElem
  · simp [rv_length]
  · intro t h1 h2
    rw [rv_length] at h1
    have e1 := rv_get (l := l) (i := i) h1
    rw [List.getD_eq_getElem?_getD, List.getElem?_eq_getElem (by rw [rv_length]; exact h1), Option.getD_some] at e1
    rw [e1, List.getElem_reverse]
    have hg : l.getD (l.length - 1 - t) 0 = l[l.length - 1 - t] := by simp [List.getD_eq_getElem?_getD, show l.length - 1 - t < l.length by omega]
    split
    · exact hg
    · rw [← hg]; congr 1; omega

theorem reverse_calls (κ : SK) (sk : Bool) (l : List Int) (hk : okS κ l.length) (hm : l.length ≤ 1000000) :
    ACalls Tryd.prog 113 [mkS κ 0 0 l.length] [some ⟨true, sk, ints .u8 l⟩] (List.range 1) fun v H => v = .tuple [] ∧ H = [some ⟨true, sk, ints .u8 l.reverse⟩] := by
  refine ACalls.body Tryd.func113 ent_reverse ir_reverse_ok rs_reverse_ok Tryd.ntmps113 (by simp) rfl ?_
  unfold ir_reverse
  have e0 : s0 [mkS κ 0 0 l.length] 0 = mkS κ 0 0 l.length := rfl
  simp (disch := omega) only [sN, ↓reduceIte, Nat.reduceEqDiff, Nat.reduceAdd, Nat.reduceMul, Nat.reduceSub, reduceCtorEq, e_none, e_some, e_bindS, e0, k_len hk]
  refine ⟨fun m s H => ∃ i : Nat, m = l.length - i ∧ (i + i ≤ l.length + 1) ∧ s 0 = mkS κ 0 0 l.length ∧ s 2 = .int .i64 (i : Int) ∧ s 3 = .int .i64 ((l.length : Int) - 1 - (i : Int)) ∧ H = [some ⟨true, sk, ints .u8 (rv l i)⟩], l.length, ⟨0, rfl, by omega, ?_, ?_, ?_, ?_⟩, ?_⟩
  · simp only [e_upd, e_putS, e_putN, e_t, e_c, Nat.reduceEqDiff, ↓reduceIte, reduceCtorEq, Nat.reduceAdd, e0]
  · simp only [e_upd, e_putS, e_putN, e_t, e_c, Nat.reduceEqDiff, ↓reduceIte, reduceCtorEq, Nat.reduceAdd]; rfl
  · simp only [e_upd, e_putS, e_putN, e_t, e_c, Nat.reduceEqDiff, ↓reduceIte, reduceCtorEq, Nat.reduceAdd]; simp
  · rw [rv_zero]
  rintro m s H ⟨i, rfl, hi, h0, h2, h3, rfl⟩
  by_cases hlt : (i : Int) < (l.length : Int) - 1 - (i : Int)
  · have hj : (l.length : Int) - 1 - (i : Int) = ((l.length - 1 - i : Nat) : Int) := by omega
    have r0 : Vh.rowAt [some (⟨true, sk, ints .u8 (rv l i)⟩ : ARow)] 0 = some ⟨true, sk, ints .u8 (rv l i)⟩ := rfl
    have g1 : (ints .u8 (rv l i))[l.length - 1 - i]? = some (.int .u8 (l.getD (l.length - 1 - i) 0)) := by
      have := rv_get (l := l) (i := i) (t := l.length - 1 - i) (by omega)
      rw [if_neg (by omega)] at this
      rw [← this, ints_get (by rw [rv_length]; omega)]
    have g2 : (ints .u8 (rv l i))[i]? = some (.int .u8 (l.getD i 0)) := by
      have := rv_get (l := l) (i := i) (t := i) (by omega)
      rw [if_neg (by omega)] at this
      rw [← this, ints_get (by rw [rv_length]; omega)]
    rw [hj] at h3 hlt
    simp (disch := omega) only [sN, ↓reduceIte, Nat.reduceEqDiff, Nat.reduceAdd, Nat.reduceMul, Nat.reduceSub, reduceCtorEq, e_none, e_some, e_bindS, h0, h2, h3, k_idx hk, r0, g1, g2, Option.bind_some, Option.map_some, Int.toNat_natCast]
    rw [x_storeS (r := 0) (off := i) (k := .u8) (b := l.getD (l.length - 1 - i) 0) (l := rv l i) (sk := sk) (by simp only [e_upd, e_putS, e_putN, e_t, e_c, Nat.reduceEqDiff, ↓reduceIte, reduceCtorEq, Nat.reduceAdd]) (by simp only [e_upd, e_putS, e_putN, e_t, e_c, Nat.reduceEqDiff, ↓reduceIte, reduceCtorEq, Nat.reduceAdd]) rfl (by rw [rv_length]; omega)]
    simp (disch := omega) only [sN, ↓reduceIte, Nat.reduceEqDiff, Nat.reduceAdd, Nat.reduceMul, Nat.reduceSub, reduceCtorEq, e_none, e_some, e_bindS, h0, h2, h3, k_idx hk, Int.toNat_natCast]
    rw [x_storeS (r := 0) (off := l.length - 1 - i) (k := .u8) (b := l.getD i 0) (l := (rv l i).set i (l.getD (l.length - 1 - i) 0)) (sk := sk) (by simp only [e_upd, e_putS, e_putN, e_t, e_c, Nat.reduceEqDiff, ↓reduceIte, reduceCtorEq, Nat.reduceAdd]) (by simp only [e_upd, e_putS, e_putN, e_t, e_c, Nat.reduceEqDiff, ↓reduceIte, reduceCtorEq, Nat.reduceAdd]) rfl (by rw [List.length_set, rv_length]; omega)]
    rw [rv_step (by omega)]
    simp (disch := omega) only [sN, ↓reduceIte, Nat.reduceEqDiff, Nat.reduceAdd, Nat.reduceMul, Nat.reduceSub, reduceCtorEq, e_none, e_some, e_bindS, h0, h2, h3]
    refine loop_keep (m := l.length - (i + 1)) (by omega) ⟨i + 1, rfl, by omega, ?_, ?_, ?_, rfl⟩
    · simp only [e_upd, e_putS, e_putN, e_t, e_c, Nat.reduceEqDiff, ↓reduceIte, reduceCtorEq, Nat.reduceAdd, h0]
    · simp only [e_upd, e_putS, e_putN, e_t, e_c, Nat.reduceEqDiff, ↓reduceIte, reduceCtorEq, Nat.reduceAdd]; rfl
    · simp only [e_upd, e_putS, e_putN, e_t, e_c, Nat.reduceEqDiff, ↓reduceIte, reduceCtorEq, Nat.reduceAdd]; congr 1; omega
  · simp (disch := omega) only [sN, ↓reduceIte, Nat.reduceEqDiff, Nat.reduceAdd, Nat.reduceMul, Nat.reduceSub, reduceCtorEq, e_none, e_some, e_bindS, h0, h2, h3]
    refine ret_keep (by simp) ?_
    rw [rv_end (by omega)]
    exact ⟨rfl, rfl⟩
end Go.Proofs.YtjmceapnhmeflaaDoor


/- Contracts: strings.TrimLeft, of one byte. -/
-- NEWSET
namespace Go.Proofs.YtjmceapnhmeflaaDoor
open Go Go.Vh

def Bytes (l : List Int) : Prop := ∀ x ∈ l, 0 ≤ x ∧ x ≤ 255
theorem str_size (l : List Int) : (strOfNums l).size = l.length := by simp [strOfNums, ByteArray.size]
theorem u8_nat {x : Int} (h : 0 ≤ x ∧ x ≤ 255) : (((UInt8.ofNat x.toNat).toNat : Nat) : Int) = x := by
  rw [UInt8.toNat_ofNat']
  have : x.toNat % 2 ^ 8 = x.toNat := Nat.mod_eq_of_lt (by omega)
  rw [this]; omega
theorem str_get {l : List Int} {i : Nat} (hb : Bytes l) (h : i < l.length) : ((strOfNums l)[i]?).map (fun c => AV.int .u8 ((c.toNat : Nat) : Int)) = some (.int .u8 (l.getD i 0)) := by
  have h1 : i < (strOfNums l).size := by rw [str_size]; exact h
  have h2 : (strOfNums l)[i]? = some (UInt8.ofNat (l.getD i 0).toNat) := by
    rw [getElem?_pos (strOfNums l) i h1]
    congr 1
    show (strOfNums l).data[i] = _
    simp [strOfNums, List.getD_eq_getElem?_getD, h]
  rw [h2, Option.map_some, u8_nat]
  have : l.getD i 0 = l[i] := by simp [List.getD_eq_getElem?_getD, h]
  rw [this]
  exact hb _ (List.getElem_mem h)
theorem str_tail (x : Int) (l : List Int) : (strOfNums (x :: l)).extract 1 (l.length + 1) = strOfNums l := by
  apply ByteArray.ext
  simp [strOfNums, ByteArray.data_extract]
  exact List.take_of_length_le (by simp)
theorem p_lenStrN {s : St} {x : Opd} {l : List Int} (h : evo s x = .str (strOfNums l)) : ipure (.lenStr x) s = some (.int .i64 (l.length : Int)) := by
  simp only [ipure, h, str_size]
theorem p_idxStrN {s : St} {x y : Opd} {k : IntKind} {l : List Int} {i : Nat} (h : evo s x = .str (strOfNums l)) (hy : evo s y = .int k (i : Int)) (hb : Bytes l) (hi : i < l.length) : ipure (.indexStr x y) s = some (.int .u8 (l.getD i 0)) := by
  simp only [ipure, h, hy]
  rw [if_pos (by omega), Int.toNat_natCast]
  exact str_get hb hi
theorem p_tailStr {s : St} {x : Opd} {a : Int} {l : List Int} (h : evo s x = .str (strOfNums (a :: l))) : ipure (.sliceStr x (some (.c (.int .i64 1))) none) s = some (.str (strOfNums l)) := by
  have := str_tail a l
  simp only [ipure, asliceStr, h, Option.map_some, Option.map_none, e_c, ahi, abound, str_size]
  simp
  rw [if_pos (by omega)]
  simp [this]
def tl48 : List Int → List Int
  | [] => []
  | a :: l => if a = 48 then tl48 l else a :: l
theorem trimLeftByte_calls (l : List Int) (hb : Bytes l) (hm : l.length ≤ 1000000) : ACalls Tryd.prog 134 [.str (strOfNums l), .int .u8 48] [] (List.range 0) fun v H => v = .str (strOfNums (tl48 l)) ∧ H = [] := by
  refine ACalls.body Tryd.func134 ent_trimLeftByte ir_trimLeftByte_ok rs_trimLeftByte_ok Tryd.ntmps134 (by simp) rfl ?_
  unfold ir_trimLeftByte
  have e0 : s0 [.str (strOfNums l), .int .u8 48] 0 = .str (strOfNums l) := rfl
  have e1 : s0 [.str (strOfNums l), .int .u8 48] 1 = .int .u8 48 := rfl
  simp (disch := omega) only [sN, ↓reduceIte, Nat.reduceEqDiff, Nat.reduceAdd, Nat.reduceMul, Nat.reduceSub, reduceCtorEq, e_none, e_some, e_bindS, e0, e1]
  refine ⟨fun m s H => ∃ r : List Int, m = r.length ∧ r.length ≤ 1000000 ∧ Bytes r ∧ tl48 r = tl48 l ∧ s 0 = .str (strOfNums r) ∧ s 1 = .int .u8 48 ∧ H = [], l.length, ⟨l, rfl, hm, hb, rfl, ?_, ?_, rfl⟩, ?_⟩
  · simp only [e_upd, e_putS, e_putN, e_t, e_c, Nat.reduceEqDiff, ↓reduceIte, reduceCtorEq, Nat.reduceAdd, e0]
  · simp only [e_upd, e_putS, e_putN, e_t, e_c, Nat.reduceEqDiff, ↓reduceIte, reduceCtorEq, Nat.reduceAdd, e1]
  rintro m s H ⟨r, rfl, hr, hbr, ht, h0, h1, rfl⟩
  simp (disch := omega) only [sN, ↓reduceIte, Nat.reduceEqDiff, Nat.reduceAdd, Nat.reduceMul, Nat.reduceSub, reduceCtorEq, e_none, e_some, e_bindS, h0, h1]
  rw [p_lenStrN (l := r) (by simp only [e_upd, e_putS, e_putN, e_t, e_c, Nat.reduceEqDiff, ↓reduceIte, reduceCtorEq, Nat.reduceAdd])]
  cases r with
  | nil =>
    simp (disch := omega) only [sN, ↓reduceIte, Nat.reduceEqDiff, Nat.reduceAdd, Nat.reduceMul, Nat.reduceSub, reduceCtorEq, e_none, e_some, e_bindS, h0, h1, List.length_nil, Int.natCast_zero]
    refine ret_keep (by simp) ⟨?_, rfl⟩
    rw [← ht]
    simp only [e_upd, e_putS, e_putN, e_t, e_c, Nat.reduceEqDiff, ↓reduceIte, reduceCtorEq, Nat.reduceAdd]; rfl
  | cons a r =>
    have hp : (0 : Int) < (((a :: r).length : Nat) : Int) := by simp
    simp (disch := omega) only [sN, ↓reduceIte, Nat.reduceEqDiff, Nat.reduceAdd, Nat.reduceMul, Nat.reduceSub, reduceCtorEq, e_none, e_some, e_bindS, h0, h1]
    rw [p_idxStrN (l := a :: r) (i := 0) (k := .i64) (by simp only [e_upd, e_putS, e_putN, e_t, e_c, Nat.reduceEqDiff, ↓reduceIte, reduceCtorEq, Nat.reduceAdd]) (by simp only [e_upd, e_putS, e_putN, e_t, e_c, Nat.reduceEqDiff, ↓reduceIte, reduceCtorEq, Nat.reduceAdd, Int.natCast_zero]) hbr (by simp)]
    have hg : (a :: r).getD 0 0 = a := rfl
    have hba := hbr a (List.mem_cons_self)
    rw [hg]
    by_cases ha : a = 48
    · subst ha
      simp (disch := omega) only [sN, ↓reduceIte, Nat.reduceEqDiff, Nat.reduceAdd, Nat.reduceMul, Nat.reduceSub, reduceCtorEq, e_none, e_some, e_bindS, h0, h1, beq_self_eq_true]
      rw [p_tailStr (a := 48) (l := r) (by simp only [e_upd, e_putS, e_putN, e_t, e_c, Nat.reduceEqDiff, ↓reduceIte, reduceCtorEq, Nat.reduceAdd])]
      simp (disch := omega) only [sN, ↓reduceIte, Nat.reduceEqDiff, Nat.reduceAdd, Nat.reduceMul, Nat.reduceSub, reduceCtorEq, e_none, e_some, e_bindS]
      refine loop_keep (m := r.length) (by simp) ⟨r, rfl, by simp at hr; omega, fun x hx => hbr x (List.mem_cons_of_mem _ hx), ?_, ?_, ?_, rfl⟩
      · rw [← ht]; simp [tl48]
      · simp only [e_upd, e_putS, e_putN, e_t, e_c, Nat.reduceEqDiff, ↓reduceIte, reduceCtorEq, Nat.reduceAdd]
      · simp only [e_upd, e_putS, e_putN, e_t, e_c, Nat.reduceEqDiff, ↓reduceIte, reduceCtorEq, Nat.reduceAdd, h1]
    · have hne : (a == (48 : Int)) = false := by simpa using ha
      simp (disch := omega) only [sN, ↓reduceIte, Nat.reduceEqDiff, Nat.reduceAdd, Nat.reduceMul, Nat.reduceSub, reduceCtorEq, e_none, e_some, e_bindS, h0, h1, hne]
      refine ret_keep (by simp) ⟨?_, rfl⟩
      rw [← ht]
      simp only [e_upd, e_putS, e_putN, e_t, e_c, Nat.reduceEqDiff, ↓reduceIte, reduceCtorEq, Nat.reduceAdd]
      simp [tl48, ha]
theorem eql_empty {l : List Int} (h : l ≠ []) : abin .eql (.str (strOfNums l)) (.str ⟨#[]⟩) = some (.bool false) := by
  show some (AV.bool ((strOfNums l).toList == (⟨#[]⟩ : ByteArray).toList)) = _
  rw [ByteArray.toList_eq, ByteArray.toList_eq]
  cases l with
  | nil => exact absurd rfl h
  | cons a l => simp [strOfNums]
set_option maxRecDepth 20000 in
theorem trimLeft_calls (l : List Int) (hb : Bytes l) (hm : l.length ≤ 1000000) (hne : l ≠ []) : ACalls Tryd.prog 114 [.str (strOfNums l), .str ⟨#[48]⟩] [] (List.range 0) fun v H => v = .str (strOfNums (tl48 l)) ∧ H = [] := by
  refine ACalls.body Tryd.func114 ent_trimLeft ir_trimLeft_ok rs_trimLeft_ok Tryd.ntmps114 (by simp) rfl ?_
  unfold ir_trimLeft
  have e0 : s0 [.str (strOfNums l), .str ⟨#[48]⟩] 0 = .str (strOfNums l) := rfl
  have e1 : s0 [.str (strOfNums l), .str ⟨#[48]⟩] 1 = .str (strOfNums [48]) := rfl
  have q0 := eql_empty hne
  have q1 := eql_empty (l := [48]) (by simp)
  simp (disch := omega) only [sN, ↓reduceIte, Nat.reduceEqDiff, Nat.reduceAdd, Nat.reduceMul, Nat.reduceSub, reduceCtorEq, e_none, e_some, e_bindS, e0, e1, q0, q1]
  rw [p_lenStrN (l := [48]) (by simp only [e_upd, e_putS, e_putN, e_t, e_c, Nat.reduceEqDiff, ↓reduceIte, reduceCtorEq, Nat.reduceAdd])]
  have h1 : (([48] : List Int).length : Int) = 1 := rfl
  simp (disch := omega) only [sN, ↓reduceIte, Nat.reduceEqDiff, Nat.reduceAdd, Nat.reduceMul, Nat.reduceSub, reduceCtorEq, e_none, e_some, e_bindS, e0, e1, h1, beq_self_eq_true]
  rw [p_idxStrN (l := [48]) (i := 0) (k := .i64) (by simp only [e_upd, e_putS, e_putN, e_t, e_c, Nat.reduceEqDiff, ↓reduceIte, reduceCtorEq, Nat.reduceAdd]) (by simp only [e_upd, e_putS, e_putN, e_t, e_c, Nat.reduceEqDiff, ↓reduceIte, reduceCtorEq, Nat.reduceAdd]; rfl) (fun x hx => by simp at hx; omega) (by simp)]
  simp (disch := omega) only [sN, ↓reduceIte, Nat.reduceEqDiff, Nat.reduceAdd, Nat.reduceMul, Nat.reduceSub, reduceCtorEq, e_none, e_some, e_bindS, e0, e1]
  rw [show ([48] : List Int).getD 0 0 = 48 from rfl]
  simp (disch := omega) only [sN, ↓reduceIte, Nat.reduceEqDiff, Nat.reduceAdd, Nat.reduceMul, Nat.reduceSub, reduceCtorEq, e_none, e_some, e_bindS, e0, e1]
  rw [p_idxStrN (l := [48]) (i := 0) (k := .i64) (by simp only [e_upd, e_putS, e_putN, e_t, e_c, Nat.reduceEqDiff, ↓reduceIte, reduceCtorEq, Nat.reduceAdd]) (by simp only [e_upd, e_putS, e_putN, e_t, e_c, Nat.reduceEqDiff, ↓reduceIte, reduceCtorEq, Nat.reduceAdd]; rfl) (fun x hx => by simp at hx; omega) (by simp)]
  rw [show ([48] : List Int).getD 0 0 = 48 from rfl]
  simp (disch := omega) only [sN, ↓reduceIte, Nat.reduceEqDiff, Nat.reduceAdd, Nat.reduceMul, Nat.reduceSub, reduceCtorEq, e_none, e_some, e_bindS, e0, e1, List.map_cons, List.map_nil]
  refine call_do (trimLeftByte_calls l hb hm) [] rfl rfl rfl rfl trivial ?_
  rintro v0 H0' ⟨rfl, rfl⟩
  rw [m_merge, m_nil]
  simp (disch := omega) only [sN, ↓reduceIte, Nat.reduceEqDiff, Nat.reduceAdd, Nat.reduceMul, Nat.reduceSub, reduceCtorEq, e_none, e_some, e_bindS, List.map_nil, List.append_nil]
  refine ret_keep (by simp) ⟨?_, by simp⟩
  simp only [e_upd, e_putS, e_putN, e_t, e_c, Nat.reduceEqDiff, ↓reduceIte, reduceCtorEq, Nat.reduceAdd]
  rfl
end Go.Proofs.YtjmceapnhmeflaaDoor


/- Numbers to the base 10, the lowest digit first. -/
namespace Go.Dt

def tz (l : List Int) : Nat → Nat
  | 0 => 0
  | k+1 => if l.getD k 0 = 0 then tz l k else k+1

theorem tz_le (l : List Int) : ∀ n, tz l n ≤ n
  | 0 => Nat.le_refl _
  | n + 1 => by unfold tz; split; exact Nat.le_succ_of_le (tz_le l n); exact Nat.le_refl _

theorem tz_zero (l : List Int) : ∀ n i, tz l n ≤ i → i < n → l.getD i 0 = 0
  | 0, i, _, h => by omega
  | n + 1, i, h1, h2 => by
    unfold tz at h1
    split at h1
    · rename_i hz
      rcases Nat.lt_or_ge i n with h | h
      · exact tz_zero l n i h1 h
      · obtain rfl : i = n := by omega
        exact hz
    · omega
theorem tz_last (l : List Int) : ∀ n, tz l n ≠ 0 → l.getD (tz l n - 1) 0 ≠ 0
  | 0, h => (h rfl).elim
  | n + 1, h => by
    unfold tz at h ⊢
    split
    · rename_i hz; rw [if_pos hz] at h; exact tz_last l n h
    · rename_i hz; simpa using hz
theorem tz_uniq (l : List Int) (n m : Nat) (h1 : m ≤ n) (h2 : m ≠ 0 → l.getD (m - 1) 0 ≠ 0) (h3 : ∀ i, m ≤ i → i < n → l.getD i 0 = 0) : tz l n = m := by
  rcases Nat.lt_trichotomy (tz l n) m with h | h | h
  · exact (h2 (by omega) (tz_zero l n (m - 1) (by omega) (by omega))).elim
  · exact h
  · exact (tz_last l n (by omega) (h3 _ (by omega) (by have := tz_le l n; omega))).elim
theorem getD_take (l : List Int) (n m i : Nat) (h : ∀ j, m ≤ j → j < n → l.getD j 0 = 0) (hn : l.length ≤ n) : (l.take m).getD i 0 = l.getD i 0 := by
  rcases Nat.lt_or_ge i m with h1 | h1
  · simp [List.getD_eq_getElem?_getD, List.getElem?_take, h1]
  · have e1 : (l.take m).getD i 0 = 0 := by
      rw [List.getD_eq_getElem?_getD, List.getElem?_eq_none (by rw [List.length_take]; omega)]; rfl
    rw [e1]
    rcases Nat.lt_or_ge i n with h2 | h2
    · exact (h i h1 h2).symm
    · rw [List.getD_eq_getElem?_getD, List.getElem?_eq_none (by omega)]; rfl

def DL (l : List Int) : Prop := ∀ i, 0 ≤ l.getD i 0 ∧ l.getD i 0 ≤ 9
theorem getD_set (l : List Int) (i j : Nat) (x : Int) : (l.set i x).getD j 0 = if i = j ∧ i < l.length then x else l.getD j 0 := by
  simp only [List.getD_eq_getElem?_getD, List.getElem?_set]
  by_cases h : i = j
  · subst h
    by_cases h2 : i < l.length
    · simp [h2]
    · simp [h2]
  · simp [h]
/-- one digit's worth -/
def DB : Int := 10
theorem DB_pos (k : Nat) : 0 < DB ^ k := Int.pow_pos (by decide)
/-- the number of the first k digits -/
def nv (l : List Int) : Nat → Int
  | 0 => 0
  | k + 1 => nv l k + l.getD k 0 * DB ^ k
theorem nv_bound {l : List Int} (h : DL l) : ∀ k, 0 ≤ nv l k ∧ nv l k < DB ^ k
  | 0 => by simp [nv]
  | k + 1 => by
    obtain ⟨h1, h2⟩ := nv_bound h k
    obtain ⟨h3, h4⟩ := h k
    have hp := DB_pos k
    simp only [nv]
    rw [Int.pow_succ]
    have h5 : l.getD k 0 * DB ^ k ≤ (DB - 1) * DB ^ k := Int.mul_le_mul_of_nonneg_right (by simp only [DB]; omega) (by omega)
    have h6 : 0 ≤ l.getD k 0 * DB ^ k := Int.mul_nonneg h3 (by omega)
    have h7 : (DB - 1) * DB ^ k = DB ^ k * DB - DB ^ k := by rw [Int.sub_mul, Int.mul_comm DB, Int.one_mul]
    omega
theorem nv_zeros (l : List Int) {n : Nat} : ∀ m, n ≤ m → (∀ i, n ≤ i → i < m → l.getD i 0 = 0) → nv l m = nv l n
  | 0, h, _ => by obtain rfl : n = 0 := by omega
                  rfl
  | m + 1, h, hz => by
    rcases Nat.eq_or_lt_of_le h with e | e
    · rw [e]
    · simp only [nv]
      rw [hz m (by omega) (by omega), nv_zeros l m (by omega) (fun i h1 h2 => hz i h1 (by omega))]
      omega
theorem nv_tz (l : List Int) (n : Nat) : nv l (tz l n) = nv l n := (nv_zeros l n (tz_le l n) (tz_zero l n)).symm
/-- beyond the list nothing comes -/
theorem nv_long (l : List Int) {m : Nat} (h : l.length ≤ m) : nv l m = nv l l.length := nv_zeros l m h fun i h1 _ => by
  rw [List.getD_eq_getElem?_getD, List.getElem?_eq_none h1]; rfl
theorem nv_congr {l l' : List Int} : ∀ k, (∀ i, i < k → l.getD i 0 = l'.getD i 0) → nv l k = nv l' k
  | 0, _ => rfl
  | k + 1, h => by simp only [nv]; rw [nv_congr k (fun i hi => h i (by omega)), h k (by omega)]
theorem nv_take (l : List Int) (n k : Nat) (h : k ≤ n) : nv (l.take n) k = nv l k := nv_congr k fun i hi => by
  simp [List.getD_eq_getElem?_getD, List.getElem?_take, show i < n by omega]
/-- The number. -/
def num (l : List Int) : Int := nv l l.length
theorem num_nonneg {l : List Int} (h : DL l) : 0 ≤ num l := (nv_bound h _).1
theorem num_take {l : List Int} : num (l.take (tz l l.length)) = num l := by
  have := tz_le l l.length
  simp only [num, List.length_take, Nat.min_eq_left this]
  rw [nv_take l _ _ (Nat.le_refl _), nv_tz]
/-- A number that has its last digit is at least that. -/
theorem nv_ge {l : List Int} (h : DL l) {k : Nat} (hk : l.getD k 0 ≠ 0) : DB ^ k ≤ nv l (k + 1) := by
  obtain ⟨h1, _⟩ := nv_bound h k
  obtain ⟨h3, _⟩ := h k
  have : 1 * DB ^ k ≤ l.getD k 0 * DB ^ k := Int.mul_le_mul_of_nonneg_right (by omega) (by have := DB_pos k; omega)
  simp only [nv]
  omega
theorem DB_mono {i j : Nat} (h : i ≤ j) : DB ^ i ≤ DB ^ j := by
  obtain ⟨d, rfl⟩ := Nat.exists_eq_add_of_le h
  have h1 := DB_pos i
  have h2 := DB_pos d
  have h3 : DB ^ i * 1 ≤ DB ^ i * DB ^ d := Int.mul_le_mul_of_nonneg_left (by omega) (by omega)
  rw [Int.pow_add]
  omega
/-- Numbers without zeros at the end: the longer one is greater. -/
theorem nv_len_lt {a b : List Int} (ha : DL a) (hb : DL b) {n m : Nat} (h : n < m) (hl : b.getD (m - 1) 0 ≠ 0) : nv a n < nv b m := by
  have h1 := (nv_bound ha n).2
  have h2 := nv_ge hb hl
  rw [show m - 1 + 1 = m by omega] at h2
  have h3 : DB ^ n ≤ DB ^ (m - 1) := DB_mono (by omega)
  omega
theorem nv_top_lt {a b : List Int} (ha : DL a) (hb : DL b) {k : Nat} (h : a.getD k 0 < b.getD k 0) : nv a (k + 1) < nv b (k + 1) := by
  have h1 := (nv_bound ha k).2
  have h2 := (nv_bound hb k).1
  have h3 : (a.getD k 0 + 1) * DB ^ k ≤ b.getD k 0 * DB ^ k := Int.mul_le_mul_of_nonneg_right (by omega) (by have := DB_pos k; omega)
  rw [Int.add_mul, Int.one_mul] at h3
  simp only [nv]
  omega
theorem nv_sum_eq {a b : List Int} {k : Nat} : ∀ n, k ≤ n → (∀ i, k ≤ i → i < n → a.getD i 0 = b.getD i 0) → nv a n - nv b n = nv a k - nv b k
  | 0, h, _ => by obtain rfl : k = 0 := by omega
                  rfl
  | n + 1, h, he => by
    rcases Nat.eq_or_lt_of_le h with e | e
    · rw [e]
    · have := nv_sum_eq n (by omega) (fun i h1 h2 => he i h1 (by omega))
      simp only [nv]
      rw [he n (by omega) (by omega)]
      omega
/-- Normal numbers are equal as lists if they are as numbers. -/
theorem num_inj {a b : List Int} (ha : DL a) (hb : DL b) (h : num a = num b) : a.take (tz a a.length) = b.take (tz b b.length) := by
  rw [← num_take (l := a), ← num_take (l := b)] at h
  have la : ((a.take (tz a a.length)).length) = tz a a.length := by rw [List.length_take]; have := tz_le a a.length; omega
  have lb : ((b.take (tz b b.length)).length) = tz b b.length := by rw [List.length_take]; have := tz_le b b.length; omega
  simp only [num, la, lb] at h
  rw [nv_take _ _ _ (Nat.le_refl _), nv_take _ _ _ (Nat.le_refl _)] at h
  have hl : tz a a.length = tz b b.length := by
    rcases Nat.lt_trichotomy (tz a a.length) (tz b b.length) with h1 | h1 | h1
    · have := nv_len_lt ha hb h1 (tz_last b b.length (by omega)); omega
    · exact h1
    · have := nv_len_lt hb ha h1 (tz_last a a.length (by omega)); omega
  rw [← hl] at h
  have key : ∀ n, nv a n = nv b n → ∀ i, i < n → a.getD i 0 = b.getD i 0 := by
    intro n
    induction n with
    | zero => intro _ i hi; omega
    | succ n ih =>
      intro he i hi
      have : a.getD n 0 = b.getD n 0 := by
        rcases Int.lt_trichotomy (a.getD n 0) (b.getD n 0) with h1 | h1 | h1
        · have := nv_top_lt ha hb h1; omega
        · exact h1
        · have := nv_top_lt hb ha h1; omega
      rcases Nat.lt_or_ge i n with h2 | h2
      · refine ih ?_ i h2
        simp only [nv, this] at he
        omega
      · obtain rfl : i = n := by omega
        exact this
  refine List.ext_getElem (by rw [la, lb, hl]) fun i hi hi' => ?_
  rw [la] at hi
  have := key _ h i hi
  have h1 := tz_le a a.length
  have h2 := tz_le b b.length
  simp only [List.getElem_take]
  simpa [List.getD_eq_getElem?_getD, show i < a.length by omega, show i < b.length by omega] using this

theorem dl_nil : DL [] := fun i => by simp
theorem nv_cons (x : Int) (l : List Int) : ∀ k, nv (x :: l) (k + 1) = x + 10 * nv l k
  | 0 => by simp [nv]
  | k + 1 => by
    have ih := nv_cons x l k
    rw [nv, ih, nv, Int.pow_succ]
    have e : (x :: l).getD (k + 1) 0 = l.getD k 0 := by simp
    rw [e, Int.mul_add, show DB = 10 from rfl, Int.mul_comm 10 (l.getD k 0 * 10 ^ k), Int.mul_assoc]
    omega
theorem num_cons (x : Int) (l : List Int) : num (x :: l) = x + 10 * num l := by
  simp only [num, List.length_cons]; exact nv_cons x l l.length
/-- the digits of a number -/
def dg : Nat → List Int
  | 0 => []
  | n + 1 => ((((n + 1) % 10 : Nat)) : Int) :: dg ((n + 1) / 10)
decreasing_by omega
theorem dg_zero : dg 0 = [] := by unfold dg; rfl
theorem dg_pos {n : Nat} (h : 0 < n) : dg n = ((n % 10 : Nat) : Int) :: dg (n / 10) := by
  cases n with
  | zero => omega
  | succ n => rw [dg]
theorem dg_dl : ∀ n, DL (dg n) := by
  intro n
  induction n using Nat.strongRecOn with
  | ind n ih =>
    rcases Nat.eq_zero_or_pos n with rfl | h
    · rw [dg_zero]; exact dl_nil
    · intro i
      rw [dg_pos h]
      cases i with
      | zero => simp; omega
      | succ i => simpa using ih (n / 10) (by omega) i
theorem dg_num : ∀ n, num (dg n) = (n : Int) := by
  intro n
  induction n using Nat.strongRecOn with
  | ind n ih =>
    rcases Nat.eq_zero_or_pos n with rfl | h
    · rw [dg_zero]; rfl
    · rw [dg_pos h, num_cons, ih (n / 10) (by omega)]; omega
theorem dg_last : ∀ n, 0 < n → (dg n).getD ((dg n).length - 1) 0 ≠ 0 := by
  intro n
  induction n using Nat.strongRecOn with
  | ind n ih =>
    intro h
    rw [dg_pos h]
    rcases Nat.eq_zero_or_pos (n / 10) with h0 | h0
    · rw [h0, dg_zero]; simp; omega
    · have := ih (n / 10) (by omega) h0
      have hl : 0 < (dg (n / 10)).length := by rw [dg_pos h0]; simp
      rw [show (((n % 10 : Nat) : Int) :: dg (n / 10)).length - 1 = ((dg (n / 10)).length - 1) + 1 by simp; omega]
      simpa using this
theorem dg_tz (n : Nat) : tz (dg n) (dg n).length = (dg n).length := by
  refine tz_uniq _ _ _ (Nat.le_refl _) (fun h => ?_) fun i h1 h2 => by omega
  rcases Nat.eq_zero_or_pos n with rfl | h0
  · rw [dg_zero] at h; simp at h
  · exact dg_last n h0
/-- What is trimmed is what its number has. -/
theorem trim_dg {l : List Int} (h : DL l) : l.take (tz l l.length) = dg (num l).toNat := by
  have hn := num_nonneg h
  have := num_inj h (dg_dl (num l).toNat) (by rw [dg_num]; omega)
  rw [this, dg_tz, List.take_length]
theorem norm_dg {l : List Int} (h : DL l) (hz : tz l l.length = l.length) : l = dg (num l).toNat := by
  have := trim_dg h
  rwa [hz, List.take_length] at this
theorem dg_len_le {n k : Nat} (h : n < 10 ^ k) : (dg n).length ≤ k := by
  rcases Nat.lt_or_ge k (dg n).length with h1 | h1
  · exfalso
    have h0 : 0 < n := by
      rcases Nat.eq_zero_or_pos n with rfl | h0
      · rw [dg_zero] at h1; simp at h1
      · exact h0
    have hge := nv_ge (dg_dl n) (dg_last n h0)
    rw [show (dg n).length - 1 + 1 = (dg n).length by omega] at hge
    have hnum := dg_num n
    simp only [num] at hnum
    rw [hnum] at hge
    have hm : DB ^ k ≤ DB ^ ((dg n).length - 1) := DB_mono (by omega)
    have e : DB ^ k = ((10 ^ k : Nat) : Int) := by rw [Int.natCast_pow]; rfl
    rw [e] at hm
    have : ((n : Nat) : Int) < ((10 ^ k : Nat) : Int) := by exact_mod_cast h
    omega
  · exact h1

theorem getD_snoc (l : List Int) (x : Int) (i : Nat) : (l ++ [x]).getD i 0 = if i = l.length then x else l.getD i 0 := by
  simp only [List.getD_eq_getElem?_getD, List.getElem?_append]
  by_cases h : i < l.length
  · rw [if_pos h, if_neg (by omega)]
  · rw [if_neg h]
    by_cases h2 : i = l.length
    · subst h2; simp
    · rw [if_neg h2, List.getElem?_eq_none (by simp; omega), List.getElem?_eq_none (by omega)]
theorem nv_snoc (l : List Int) (x : Int) : nv (l ++ [x]) (l.length + 1) = nv l l.length + x * DB ^ l.length := by
  simp only [nv]
  rw [getD_snoc, if_pos rfl, nv_congr (l := l ++ [x]) (l' := l) l.length fun i hi => by rw [getD_snoc, if_neg (by omega)]]
end Go.Dt


/- Contracts: exact's digits: the decimal text of a number. -/
-- NEWSET
namespace Go.Proofs.YtjmceapnhmeflaaDoor
open Go Go.Vh

/-- the bytes of digits -/
def tb (D : List Int) : List Int := D.map fun x => 48 + x
theorem tb_length (D : List Int) : (tb D).length = D.length := by simp [tb]
theorem tb_bytes {D : List Int} (h : Dt.DL D) : Bytes (tb D) := fun x hx => by
  simp only [tb, List.mem_map] at hx
  obtain ⟨a, ha, rfl⟩ := hx
  obtain ⟨i, hi, rfl⟩ := List.getElem_of_mem ha
  have := h i
  rw [List.getD_eq_getElem?_getD, List.getElem?_eq_getElem hi, Option.getD_some] at this
  omega
theorem tl48_tb {D : List Int} : ∀ k, k ≤ D.length → tl48 (tb (D.take k)).reverse = (tb (D.take (Dt.tz D k))).reverse
  | 0, _ => by simp [tb, tl48, Dt.tz]
  | k + 1, h => by
    have hk : k < D.length := by omega
    have e : D.take (k + 1) = D.take k ++ [D.getD k 0] := by
      rw [List.take_add_one]; simp [hk]
    have e2 : (tb (D.take (k + 1))).reverse = (48 + D.getD k 0) :: (tb (D.take k)).reverse := by
      rw [e]; simp [tb]
    rw [e2]
    unfold tl48 Dt.tz
    by_cases hz : D.getD k 0 = 0
    · rw [if_pos (by omega), if_pos hz, tl48_tb k (by omega)]
    · rw [if_neg (by omega), if_neg hz, e2]
/-- the decimal text of a number, as bytes -/
def txN (n : Nat) : List Int := if n = 0 then [48] else (tb (Dt.dg n)).reverse
theorem txN_of {D : List Int} (h : Dt.DL D) {n : Nat} (hn : Dt.num D = (n : Int)) (h0 : n ≠ 0) : tl48 (tb D).reverse = txN n := by
  have h1 := tl48_tb (D := D) D.length (Nat.le_refl _)
  rw [List.take_length] at h1
  rw [h1, Dt.trim_dg h, hn, Int.toNat_natCast, txN, if_neg h0]
theorem dt_snoc (l : List Int) (x : Int) : Dt.num (l ++ [x]) = Dt.num l + x * 10 ^ l.length := by
  have := Dt.nv_snoc l x
  simp only [Dt.num, List.length_append, List.length_singleton]
  exact this
theorem dl_snoc {l : List Int} {x : Int} (h : Dt.DL l) (hx : 0 ≤ x ∧ x ≤ 9) : Dt.DL (l ++ [x]) := fun i => by
  rw [Dt.getD_snoc]; split
  · exact hx
  · exact h i
theorem tb_snoc (l : List Int) (x : Int) : tb (l ++ [x]) = tb l ++ [48 + x] := by simp [tb]

/-- A text that is appended to. -/
def TextAt (H : AHeap) (t : AV) (T : List Int) (q : Nat) : Prop := (T = [] ∧ t = .nilslice) ∨ (T ≠ [] ∧ t = .sliceU q 0 T.length 1 ∧ Vh.rowAt H q = some ⟨true, true, ints .u8 T⟩)
theorem x_text {s : St} {H : AHeap} {x y : Opd} {t : AV} {T : List Int} {q r c : Nat} {b : Int} (ht : TextAt H t T q) (hx : evo s x = t) (hy : evo s y = .slice r 0 1 c) (hr : Vh.rowAt H r = some ⟨true, false, [.int .u8 b]⟩) (hT : T.length ≤ 1000000) :
    ∃ H', ieff (.append 1 1 x y) s H = some (.sliceU H.length 0 (T ++ [b]).length 1, H') ∧ TextAt H' (.sliceU H.length 0 (T ++ [b]).length 1) (T ++ [b]) H.length ∧ H'.length = H.length + 1 ∧ ∀ i, i < H.length → (T = [] ∨ i ≠ q) → Vh.rowAt H' i = Vh.rowAt H i := by
  rcases ht with ⟨rfl, rfl⟩ | ⟨hne, rfl, hq⟩
  · refine ⟨H ++ [sl [.int .u8 b]], ?_, .inr ⟨by simp, rfl, by simp [Vh.rowAt, sl, ints]⟩, by simp, fun i hi _ => rowAt_append_left hi⟩
    show ieff (.append 1 1 x y) s H = some (.sliceU H.length 0 1 1, _)
    exact x_appN (bytes := 1) (m := 1) hx hy hr rfl (by simp) (by omega) rfl
  · refine ⟨H.set q none ++ [sl (ints .u8 T ++ [.int .u8 b])], ?_, .inr ⟨by simp, rfl, ?_⟩, by simp, fun i hi hiq => ?_⟩
    · have := x_appU (bytes := 1) hx hy hq (ints_length) hr (xs := [.int .u8 b]) rfl (by simp) (by omega) rfl
      rw [this]; simp
    · simp [Vh.rowAt, sl, ints]
    · rw [rowAt_append_left (by simpa using hi), row_other0 (by rcases hiq with h | h; exact absurd h hne; exact Ne.symm h)]

theorem abytes_ints : ∀ l : List Int, abytes (ints .u8 l) = some l
  | [] => rfl
  | a :: l => by
    show (abytes (ints .u8 l)).map _ = _
    rw [abytes_ints l]; rfl
theorem x_strI {s : St} {H : AHeap} {x : Opd} {q n : Nat} {sk : Bool} {l : List Int} (hx : evo s x = .sliceU q 0 n 1) (hn : n = l.length) (hr : Vh.rowAt H q = some ⟨true, sk, ints .u8 l⟩) (h0 : l ≠ []) :
    ieff (.bytesToStr x) s H = some (.str (strOfNums l), H) := by
  subst hn
  have hl : l.length ≠ 0 := by simpa using h0
  have h1 : asrc 1 (.sliceU q 0 l.length 1) H = some (ints .u8 l) := by
    simp only [asrc, if_true, Nat.mul_one, if_neg hl, cellsAt, hr, Option.bind_some, Nat.zero_add, List.drop_zero]
    rw [if_pos (by rw [ints_length]; exact Nat.le_refl _), ← ints_length (k := .u8) (l := l), List.take_length]
  rw [x_toStr, hx]
  simp only [l_sliceU, h1, Option.bind_some, abytes_ints, Option.map_some]

theorem call_rev {K : St → AHeap → Prop} {d : Option Nat} {s : St} {H : AHeap} {a : Nat} {sk : Bool} {l : List Int} (hm : l.length ≤ 1000000) (hr : Vh.rowAt H a = some ⟨true, sk, ints .u8 l⟩) (hK : K (putI d s (.tuple [])) (H.set a (some ⟨true, sk, ints .u8 l.reverse⟩))) : thenC Tryd.prog K d s H [.sliceU a 0 l.length 1] (.func 113 []) := by
  have hs : sig [(a, 0)] H.length 0 = some (a, 0) := rfl
  refine call_do (reverse_calls .u sk l okS_u hm) [(a, 0)] rfl ?_ rfl ?_ ⟨⟨_, hr, ?_, ?_, flatL_under ints_flat, ?_⟩, trivial⟩ fun v0 H0' ⟨e1, e2⟩ => ?_
  · simp [underL, mkS_under]
  · rw [n_lcons, n_mkS0 hs, n_lnil]; rfl
  · simp
  · simp only [List.drop_zero]
    rw [flatL_ren ints_flat, List.take_length]
  · intro _; exact ⟨rfl, rfl, rfl, rfl⟩
  · subst e1; subst e2
    rw [n_tuple, n_lnil]
    simpa [merge, mergeGo, renRow, Vh.rowAt, ints_ren] using hK
end Go.Proofs.YtjmceapnhmeflaaDoor

