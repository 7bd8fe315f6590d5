/- Contracts: exact's isNumber. -/
import Derived.Test.YtjmceapnhmeflaaDoorVX
import Derived.Test.YtjmceapnhmeflaaDoorJA
import Derived.Test.YtjmceapnhmeflaaDoorIrF
import Derived.Test.YtjmceapnhmeflaaDoorFI
import Derived.Test.YtjmceapnhmeflaaDoorJB
import Derived.Test.YtjmceapnhmeflaaDoorFE
set_option linter.unusedSimpArgs false
set_option linter.unusedVariables false
-- NEWSET
namespace Go.Proofs.YtjmceapnhmeflaaDoor
open Go Go.Vh

/-- all bytes are digits -/
def dgs (l : List Int) : Bool := decide (∀ i, i < l.length → 48 ≤ l.getD i 0 ∧ l.getD i 0 ≤ 57)
/-- the text of a number that is not too long for one -/
def isN (l : List Int) : Bool := decide (0 < l.length ∧ l.length ≤ 617 ∧ (l.length = 1 ∨ l.getD 0 0 ≠ 48)) && dgs l
theorem isN_no {l : List Int} (h : ¬ (0 < l.length ∧ l.length ≤ 617 ∧ (l.length = 1 ∨ l.getD 0 0 ≠ 48))) : isN l = false := by
  unfold isN; rw [decide_eq_false h]; rfl
theorem dgs_no {l : List Int} {i : Nat} (h : i < l.length) (hx : ¬ (48 ≤ l.getD i 0 ∧ l.getD i 0 ≤ 57)) : isN l = false := by
  have : dgs l = false := decide_eq_false fun hh => hx (hh i h)
  unfold isN; rw [this, Bool.and_false]

theorem bytes_at {l : List Int} (hb : Bytes l) {i : Nat} (h : i < l.length) : 0 ≤ l.getD i 0 ∧ l.getD i 0 ≤ 255 := by
  have : l.getD i 0 = l[i] := by simp [List.getD_eq_getElem?_getD, h]
  rw [this]; exact hb _ (List.getElem_mem h)

set_option maxHeartbeats 1000000 in
theorem isNumber_calls (l : List Int) (hb : Bytes l) (hm : l.length ≤ 9223372036854775807) : ACalls Tryd.prog 65 [.str (strOfNums l)] [] (List.range 0) fun v H => v = .bool (isN l) ∧ H = [] := by
  refine ACalls.body Tryd.func65 ent_isNumber ir_isNumber_ok rs_isNumber_ok Tryd.ntmps65 (by simp) rfl ?_
  unfold ir_isNumber
  have e0 : s0 [.str (strOfNums l)] 0 = .str (strOfNums l) := rfl
  simp (disch := omega) only [sN, ↓reduceIte, Nat.reduceEqDiff, Nat.reduceAdd, Nat.reduceMul, Nat.reduceSub, reduceCtorEq, e_none, e_some, e_bindS, e0]
  rw [p_lenStrN (l := l) (by simp only [e_upd, e_putS, e_putN, e_t, e_c, Nat.reduceEqDiff, ↓reduceIte, reduceCtorEq, Nat.reduceAdd])]
  by_cases h0 : l.length = 0
  · have hz : (((l.length : Nat) : Int) == 0) = true := by rw [h0]; rfl
    simp (disch := omega) only [sN, ↓reduceIte, Nat.reduceEqDiff, Nat.reduceAdd, Nat.reduceMul, Nat.reduceSub, reduceCtorEq, e_none, e_some, e_bindS, e0, hz]
    refine ret_keep (by simp) ⟨?_, rfl⟩
    rw [isN_no (by omega)]
    simp only [e_upd, e_putS, e_putN, e_t, e_c, Nat.reduceEqDiff, ↓reduceIte, reduceCtorEq, Nat.reduceAdd]
  have hz : (((l.length : Nat) : Int) == 0) = false := by simpa using h0
  simp (disch := omega) only [sN, ↓reduceIte, Nat.reduceEqDiff, Nat.reduceAdd, Nat.reduceMul, Nat.reduceSub, reduceCtorEq, e_none, e_some, e_bindS, e0, hz]
  rw [p_lenStrN (l := l) (by simp only [e_upd, e_putS, e_putN, e_t, e_c, Nat.reduceEqDiff, ↓reduceIte, reduceCtorEq, Nat.reduceAdd])]
  by_cases h1 : l.length ≤ 617
  case neg =>
    simp (disch := omega) only [sN, ↓reduceIte, Nat.reduceEqDiff, Nat.reduceAdd, Nat.reduceMul, Nat.reduceSub, reduceCtorEq, e_none, e_some, e_bindS, e0]
    refine ret_keep (by simp) ⟨?_, rfl⟩
    rw [isN_no (by omega)]
    simp only [e_upd, e_putS, e_putN, e_t, e_c, Nat.reduceEqDiff, ↓reduceIte, reduceCtorEq, Nat.reduceAdd]
  simp (disch := omega) only [sN, ↓reduceIte, Nat.reduceEqDiff, Nat.reduceAdd, Nat.reduceMul, Nat.reduceSub, reduceCtorEq, e_none, e_some, e_bindS, e0]
  rw [p_lenStrN (l := l) (by simp only [e_upd, e_putS, e_putN, e_t, e_c, Nat.reduceEqDiff, ↓reduceIte, reduceCtorEq, Nat.reduceAdd])]
  by_cases h2 : l.length = 1
  · have h2' : ((l.length : Nat) : Int) = 1 := by omega
    simp (disch := omega) only [sN, ↓reduceIte, Nat.reduceEqDiff, Nat.reduceAdd, Nat.reduceMul, Nat.reduceSub, reduceCtorEq, e_none, e_some, e_bindS, e0]
    rw [p_lenStrN (l := l) (by simp only [e_upd, e_putS, e_putN, e_t, e_c, Nat.reduceEqDiff, ↓reduceIte, reduceCtorEq, Nat.reduceAdd])]
    simp (disch := omega) only [sN, ↓reduceIte, Nat.reduceEqDiff, Nat.reduceAdd, Nat.reduceMul, Nat.reduceSub, reduceCtorEq, e_none, e_some, e_bindS, e0]
    refine ⟨fun m s H => ∃ i : Nat, m = l.length - i ∧ i ≤ l.length ∧ (∀ j, j < i → 48 ≤ l.getD j 0 ∧ l.getD j 0 ≤ 57) ∧ s 0 = .str (strOfNums l) ∧ s 23 = .int .i64 ((l.length : Nat) : Int) ∧ s 24 = .int .i64 (i : Int) ∧ H = [], l.length, ⟨0, rfl, by omega, fun j h => by omega, ?_, ?_, ?_, rfl⟩, ?_⟩
    · simp only [e_upd, e_putS, e_putN, e_t, e_c, Nat.reduceEqDiff, ↓reduceIte, reduceCtorEq, Nat.reduceAdd, e0]
    · simp only [e_upd, e_putS, e_putN, e_t, e_c, Nat.reduceEqDiff, ↓reduceIte, reduceCtorEq, Nat.reduceAdd]
    · simp only [e_upd, e_putS, e_putN, e_t, e_c, Nat.reduceEqDiff, ↓reduceIte, reduceCtorEq, Nat.reduceAdd]; rfl
    rintro m s H ⟨i, rfl, hi, hall, k0, k23, k24, rfl⟩
    by_cases hlt : i < l.length
    · have hbi := bytes_at hb hlt
      simp (disch := omega) only [sN, ↓reduceIte, Nat.reduceEqDiff, Nat.reduceAdd, Nat.reduceMul, Nat.reduceSub, reduceCtorEq, e_none, e_some, e_bindS, k0, k23, k24]
      rw [p_idxStrN (l := l) (i := i) (k := .i64) (by simp only [e_upd, e_putS, e_putN, e_t, e_c, Nat.reduceEqDiff, ↓reduceIte, reduceCtorEq, Nat.reduceAdd, k0]) (by simp only [e_upd, e_putS, e_putN, e_t, e_c, Nat.reduceEqDiff, ↓reduceIte, reduceCtorEq, Nat.reduceAdd, k24]) hb hlt]
      by_cases q1 : 48 ≤ l.getD i 0
      · simp (disch := omega) only [sN, ↓reduceIte, Nat.reduceEqDiff, Nat.reduceAdd, Nat.reduceMul, Nat.reduceSub, reduceCtorEq, e_none, e_some, e_bindS, k0, k23, k24]
        rw [p_idxStrN (l := l) (i := i) (k := .i64) (by simp only [e_upd, e_putS, e_putN, e_t, e_c, Nat.reduceEqDiff, ↓reduceIte, reduceCtorEq, Nat.reduceAdd, k0]) (by simp only [e_upd, e_putS, e_putN, e_t, e_c, Nat.reduceEqDiff, ↓reduceIte, reduceCtorEq, Nat.reduceAdd, k24]) hb hlt]
        by_cases q2 : l.getD i 0 ≤ 57
        · simp (disch := omega) only [sN, ↓reduceIte, Nat.reduceEqDiff, Nat.reduceAdd, Nat.reduceMul, Nat.reduceSub, reduceCtorEq, e_none, e_some, e_bindS, k0, k23, k24]
          refine loop_keep (m := l.length - (i + 1)) (by omega) ⟨i + 1, rfl, by omega, fun j hj => ?_, ?_, ?_, ?_, rfl⟩
          · rcases Nat.lt_or_ge j i with h | h
            · exact hall j h
            · obtain rfl : j = i := by omega
              exact ⟨q1, q2⟩
          · simp only [e_upd, e_putS, e_putN, e_t, e_c, Nat.reduceEqDiff, ↓reduceIte, reduceCtorEq, Nat.reduceAdd, k0]
          · simp only [e_upd, e_putS, e_putN, e_t, e_c, Nat.reduceEqDiff, ↓reduceIte, reduceCtorEq, Nat.reduceAdd, k23]
          · simp only [e_upd, e_putS, e_putN, e_t, e_c, Nat.reduceEqDiff, ↓reduceIte, reduceCtorEq, Nat.reduceAdd]; rfl
        · simp (disch := omega) only [sN, ↓reduceIte, Nat.reduceEqDiff, Nat.reduceAdd, Nat.reduceMul, Nat.reduceSub, reduceCtorEq, e_none, e_some, e_bindS, k0, k23, k24]
          refine ret_keep (by simp) ⟨?_, rfl⟩
          rw [dgs_no hlt (by omega)]
          simp only [e_upd, e_putS, e_putN, e_t, e_c, Nat.reduceEqDiff, ↓reduceIte, reduceCtorEq, Nat.reduceAdd]
      · simp (disch := omega) only [sN, ↓reduceIte, Nat.reduceEqDiff, Nat.reduceAdd, Nat.reduceMul, Nat.reduceSub, reduceCtorEq, e_none, e_some, e_bindS, k0, k23, k24]
        refine ret_keep (by simp) ⟨?_, rfl⟩
        rw [dgs_no hlt (by omega)]
        simp only [e_upd, e_putS, e_putN, e_t, e_c, Nat.reduceEqDiff, ↓reduceIte, reduceCtorEq, Nat.reduceAdd]
    · simp (disch := omega) only [sN, ↓reduceIte, Nat.reduceEqDiff, Nat.reduceAdd, Nat.reduceMul, Nat.reduceSub, reduceCtorEq, e_none, e_some, e_bindS, k0, k23, k24]
      refine ret_keep (by simp) ⟨?_, rfl⟩
      have hd : dgs l = true := decide_eq_true fun j hj => hall j (by omega)
      have hN : isN l = true := by unfold isN; rw [hd, Bool.and_true]; exact decide_eq_true ⟨by omega, h1, .inl h2⟩
      rw [hN]
      simp only [e_upd, e_putS, e_putN, e_t, e_c, Nat.reduceEqDiff, ↓reduceIte, reduceCtorEq, Nat.reduceAdd]
  · simp (disch := omega) only [sN, ↓reduceIte, Nat.reduceEqDiff, Nat.reduceAdd, Nat.reduceMul, Nat.reduceSub, reduceCtorEq, e_none, e_some, e_bindS, e0]
    rw [p_idxStrN (l := l) (i := 0) (k := .i64) (by simp only [e_upd, e_putS, e_putN, e_t, e_c, Nat.reduceEqDiff, ↓reduceIte, reduceCtorEq, Nat.reduceAdd, e0]) (by simp only [e_upd, e_putS, e_putN, e_t, e_c, Nat.reduceEqDiff, ↓reduceIte, reduceCtorEq, Nat.reduceAdd]; rfl) hb (by omega)]
    by_cases h3 : l.getD 0 0 = 48
    · have hq : (l.getD 0 0 == (48 : Int)) = true := by rw [h3]; rfl
      simp (disch := omega) only [sN, ↓reduceIte, Nat.reduceEqDiff, Nat.reduceAdd, Nat.reduceMul, Nat.reduceSub, reduceCtorEq, e_none, e_some, e_bindS, e0, hq]
      refine ret_keep (by simp) ⟨?_, rfl⟩
      rw [isN_no (by omega)]
      simp only [e_upd, e_putS, e_putN, e_t, e_c, Nat.reduceEqDiff, ↓reduceIte, reduceCtorEq, Nat.reduceAdd]
    · have hq : (l.getD 0 0 == (48 : Int)) = false := by simpa using h3
      simp (disch := omega) only [sN, ↓reduceIte, Nat.reduceEqDiff, Nat.reduceAdd, Nat.reduceMul, Nat.reduceSub, reduceCtorEq, e_none, e_some, e_bindS, e0, hq]
      rw [p_lenStrN (l := l) (by simp only [e_upd, e_putS, e_putN, e_t, e_c, Nat.reduceEqDiff, ↓reduceIte, reduceCtorEq, Nat.reduceAdd])]
      simp (disch := omega) only [sN, ↓reduceIte, Nat.reduceEqDiff, Nat.reduceAdd, Nat.reduceMul, Nat.reduceSub, reduceCtorEq, e_none, e_some, e_bindS, e0]
      refine ⟨fun m s H => ∃ i : Nat, m = l.length - i ∧ i ≤ l.length ∧ (∀ j, j < i → 48 ≤ l.getD j 0 ∧ l.getD j 0 ≤ 57) ∧ s 0 = .str (strOfNums l) ∧ s 23 = .int .i64 ((l.length : Nat) : Int) ∧ s 24 = .int .i64 (i : Int) ∧ H = [], l.length, ⟨0, rfl, by omega, fun j h => by omega, ?_, ?_, ?_, rfl⟩, ?_⟩
      · simp only [e_upd, e_putS, e_putN, e_t, e_c, Nat.reduceEqDiff, ↓reduceIte, reduceCtorEq, Nat.reduceAdd, e0]
      · simp only [e_upd, e_putS, e_putN, e_t, e_c, Nat.reduceEqDiff, ↓reduceIte, reduceCtorEq, Nat.reduceAdd]
      · simp only [e_upd, e_putS, e_putN, e_t, e_c, Nat.reduceEqDiff, ↓reduceIte, reduceCtorEq, Nat.reduceAdd]; rfl
      rintro m s H ⟨i, rfl, hi, hall, k0, k23, k24, rfl⟩
      by_cases hlt : i < l.length
      · have hbi := bytes_at hb hlt
        simp (disch := omega) only [sN, ↓reduceIte, Nat.reduceEqDiff, Nat.reduceAdd, Nat.reduceMul, Nat.reduceSub, reduceCtorEq, e_none, e_some, e_bindS, k0, k23, k24]
        rw [p_idxStrN (l := l) (i := i) (k := .i64) (by simp only [e_upd, e_putS, e_putN, e_t, e_c, Nat.reduceEqDiff, ↓reduceIte, reduceCtorEq, Nat.reduceAdd, k0]) (by simp only [e_upd, e_putS, e_putN, e_t, e_c, Nat.reduceEqDiff, ↓reduceIte, reduceCtorEq, Nat.reduceAdd, k24]) hb hlt]
        by_cases q1 : 48 ≤ l.getD i 0
        · simp (disch := omega) only [sN, ↓reduceIte, Nat.reduceEqDiff, Nat.reduceAdd, Nat.reduceMul, Nat.reduceSub, reduceCtorEq, e_none, e_some, e_bindS, k0, k23, k24]
          rw [p_idxStrN (l := l) (i := i) (k := .i64) (by simp only [e_upd, e_putS, e_putN, e_t, e_c, Nat.reduceEqDiff, ↓reduceIte, reduceCtorEq, Nat.reduceAdd, k0]) (by simp only [e_upd, e_putS, e_putN, e_t, e_c, Nat.reduceEqDiff, ↓reduceIte, reduceCtorEq, Nat.reduceAdd, k24]) hb hlt]
          by_cases q2 : l.getD i 0 ≤ 57
          · simp (disch := omega) only [sN, ↓reduceIte, Nat.reduceEqDiff, Nat.reduceAdd, Nat.reduceMul, Nat.reduceSub, reduceCtorEq, e_none, e_some, e_bindS, k0, k23, k24]
            refine loop_keep (m := l.length - (i + 1)) (by omega) ⟨i + 1, rfl, by omega, fun j hj => ?_, ?_, ?_, ?_, rfl⟩
            · rcases Nat.lt_or_ge j i with h | h
              · exact hall j h
              · obtain rfl : j = i := by omega
                exact ⟨q1, q2⟩
            · simp only [e_upd, e_putS, e_putN, e_t, e_c, Nat.reduceEqDiff, ↓reduceIte, reduceCtorEq, Nat.reduceAdd, k0]
            · simp only [e_upd, e_putS, e_putN, e_t, e_c, Nat.reduceEqDiff, ↓reduceIte, reduceCtorEq, Nat.reduceAdd, k23]
            · simp only [e_upd, e_putS, e_putN, e_t, e_c, Nat.reduceEqDiff, ↓reduceIte, reduceCtorEq, Nat.reduceAdd]; rfl
          · simp (disch := omega) only [sN, ↓reduceIte, Nat.reduceEqDiff, Nat.reduceAdd, Nat.reduceMul, Nat.reduceSub, reduceCtorEq, e_none, e_some, e_bindS, k0, k23, k24]
            refine ret_keep (by simp) ⟨?_, rfl⟩
            rw [dgs_no hlt (by omega)]
            simp only [e_upd, e_putS, e_putN, e_t, e_c, Nat.reduceEqDiff, ↓reduceIte, reduceCtorEq, Nat.reduceAdd]
        · simp (disch := omega) only [sN, ↓reduceIte, Nat.reduceEqDiff, Nat.reduceAdd, Nat.reduceMul, Nat.reduceSub, reduceCtorEq, e_none, e_some, e_bindS, k0, k23, k24]
          refine ret_keep (by simp) ⟨?_, rfl⟩
          rw [dgs_no hlt (by omega)]
          simp only [e_upd, e_putS, e_putN, e_t, e_c, Nat.reduceEqDiff, ↓reduceIte, reduceCtorEq, Nat.reduceAdd]
      · simp (disch := omega) only [sN, ↓reduceIte, Nat.reduceEqDiff, Nat.reduceAdd, Nat.reduceMul, Nat.reduceSub, reduceCtorEq, e_none, e_some, e_bindS, k0, k23, k24]
        refine ret_keep (by simp) ⟨?_, rfl⟩
        have hd : dgs l = true := decide_eq_true fun j hj => hall j (by omega)
        have hN : isN l = true := by unfold isN; rw [hd, Bool.and_true]; exact decide_eq_true ⟨by omega, h1, .inr h3⟩
        rw [hN]
        simp only [e_upd, e_putS, e_putN, e_t, e_c, Nat.reduceEqDiff, ↓reduceIte, reduceCtorEq, Nat.reduceAdd]
end Go.Proofs.YtjmceapnhmeflaaDoor


/- Contracts: exact's value: the number of a text. -/
-- NEWSET
namespace Go.Proofs.YtjmceapnhmeflaaDoor
open Go Go.Vh

/-- the number of the first k digits -/
def vd (l : List Int) : Nat → Int
  | 0 => 0
  | k + 1 => vd l k * 10 + (l.getD k 0 - 48)
theorem dgs_at {l : List Int} (h : dgs l = true) {i : Nat} (hi : i < l.length) : 48 ≤ l.getD i 0 ∧ l.getD i 0 ≤ 57 := of_decide_eq_true h i hi
theorem vd_lt {l : List Int} (h : dgs l = true) : ∀ k, k ≤ l.length → 0 ≤ vd l k ∧ vd l k < BB ^ k
  | 0, _ => ⟨Int.le_refl _, by simp [vd]⟩
  | k + 1, hk => by
    obtain ⟨h1, h2⟩ := vd_lt h k (by omega)
    obtain ⟨h3, h4⟩ := dgs_at h (i := k) (by omega)
    rw [vd, Int.pow_succ]
    have hb : BB = 4294967296 := rfl
    have hp := BB_pos k
    generalize BB ^ k = P at *
    rw [hb]
    omega
theorem in_mulSmall {x f more : Int} (hf : 0 ≤ f ∧ f ≤ 4294967295) (hmo : 0 ≤ more ∧ more ≤ 4294967295) : In1 108 x 100000 [.int .u32 f, .int .u32 more] (UpN (x * f + more)) := fun κ l h1 h2 h3 h4 =>
  ⟨_, (mulSmall_fresh κ l h1 (by omega) h3 hf hmo).mono fun v H h => by rw [h4] at h; exact fresh_up h⟩

set_option maxHeartbeats 1000000 in
theorem value_calls (H0 : AHeap) {row0 : ARow} (hr0 : Vh.rowAt H0 0 = some row0) (l : List Int) (hb : Bytes l) (hd : dgs l = true) (hm : l.length ≤ 5000) : ACalls Tryd.prog 67 [.str (strOfNums l)] H0 (List.range H0.length) fun v H => Base H0 H ∧ NumV H v (vd l l.length) H0.length := by
  refine ACalls.body Tryd.func67 ent_value ir_value_ok rs_value_ok Tryd.ntmps67 (by simp) rfl ?_
  unfold ir_value
  have e0 : s0 [.str (strOfNums l)] 0 = .str (strOfNums l) := rfl
  simp (disch := omega) only [sN, ↓reduceIte, Nat.reduceEqDiff, Nat.reduceAdd, Nat.reduceMul, Nat.reduceSub, reduceCtorEq, e_none, e_some, e_bindS, e0]
  rw [p_lenStrN (l := l) (by simp only [e_upd, e_putS, e_putN, e_t, e_c, Nat.reduceEqDiff, ↓reduceIte, reduceCtorEq, Nat.reduceAdd])]
  simp (disch := omega) only [sN, ↓reduceIte, Nat.reduceEqDiff, Nat.reduceAdd, Nat.reduceMul, Nat.reduceSub, reduceCtorEq, e_none, e_some, e_bindS, e0]
  refine ⟨fun m s H => ∃ (i : Nat) (w : AV), m = l.length - i ∧ i ≤ l.length ∧ Base H0 H ∧ NumV H w (vd l i) H0.length ∧ s 0 = .str (strOfNums l) ∧ s 3 = w ∧ s 6 = .int .i64 ((l.length : Nat) : Int) ∧ s 7 = .int .i64 (i : Int), l.length, ⟨0, .nilslice, rfl, by omega, Base.refl, .nil, ?_, ?_, ?_, ?_⟩, ?_⟩
  · simp only [e_upd, e_putS, e_putN, e_t, e_c, Nat.reduceEqDiff, ↓reduceIte, reduceCtorEq, Nat.reduceAdd, e0]
  · simp only [e_upd, e_putS, e_putN, e_t, e_c, Nat.reduceEqDiff, ↓reduceIte, reduceCtorEq, Nat.reduceAdd]
  · simp only [e_upd, e_putS, e_putN, e_t, e_c, Nat.reduceEqDiff, ↓reduceIte, reduceCtorEq, Nat.reduceAdd]
  · simp only [e_upd, e_putS, e_putN, e_t, e_c, Nat.reduceEqDiff, ↓reduceIte, reduceCtorEq, Nat.reduceAdd]; rfl
  rintro m s H ⟨i, w, rfl, hi, hB, hN, k0, k3, k6, k7⟩
  by_cases hlt : i < l.length
  · have hdi := dgs_at hd hlt
    obtain ⟨v0, v1⟩ := vd_lt hd i hi
    simp (disch := omega) only [sN, ↓reduceIte, Nat.reduceEqDiff, Nat.reduceAdd, Nat.reduceMul, Nat.reduceSub, reduceCtorEq, e_none, e_some, e_bindS, k0, k3, k6, k7]
    rw [p_idxStrN (l := l) (i := i) (k := .i64) (by simp only [e_upd, e_putS, e_putN, e_t, e_c, Nat.reduceEqDiff, ↓reduceIte, reduceCtorEq, Nat.reduceAdd, k0]) (by simp only [e_upd, e_putS, e_putN, e_t, e_c, Nat.reduceEqDiff, ↓reduceIte, reduceCtorEq, Nat.reduceAdd, k7]) hb hlt]
    have w1 : IntKind.u8.wrap (l.getD i 0 - 48) = l.getD i 0 - 48 := by rw [IntKind.wrap_u8]; omega
    have w2 : IntKind.u32.wrap (l.getD i 0 - 48) = l.getD i 0 - 48 := wu32 (by omega) (by omega)
    simp (disch := omega) only [sN, ↓reduceIte, Nat.reduceEqDiff, Nat.reduceAdd, Nat.reduceMul, Nat.reduceSub, reduceCtorEq, e_none, e_some, e_bindS, k0, k3, k6, k7, w1, w2, List.map_cons, List.map_nil]
    obtain ⟨r, hA⟩ := (hN.normAt (hB.row hr0)).at (Int.lt_of_lt_of_le v1 (BB_mono (show i ≤ 100000 by omega)))
    refine call_in1 (in_mulSmall (f := 10) (more := l.getD i 0 - 48) (by omega) (by omega)) rfl hA (hk_N fun R w' n' => ?_)
    simp (disch := omega) only [sN, ↓reduceIte, Nat.reduceEqDiff, Nat.reduceAdd, Nat.reduceMul, Nat.reduceSub, reduceCtorEq, e_none, e_some, e_bindS, k0, k3, k6, k7]
    refine loop_keep (m := l.length - (i + 1)) (by omega) ⟨i + 1, w', rfl, by omega, hB.app, n'.le hB.1, ?_, ?_, ?_, ?_⟩
    · simp only [e_upd, e_putS, e_putN, e_t, e_c, Nat.reduceEqDiff, ↓reduceIte, reduceCtorEq, Nat.reduceAdd, k0]
    · simp only [e_upd, e_putS, e_putN, e_t, e_c, Nat.reduceEqDiff, ↓reduceIte, reduceCtorEq, Nat.reduceAdd]
    · simp only [e_upd, e_putS, e_putN, e_t, e_c, Nat.reduceEqDiff, ↓reduceIte, reduceCtorEq, Nat.reduceAdd, k6]
    · simp only [e_upd, e_putS, e_putN, e_t, e_c, Nat.reduceEqDiff, ↓reduceIte, reduceCtorEq, Nat.reduceAdd]; rfl
  · obtain rfl : i = l.length := by omega
    simp (disch := omega) only [sN, ↓reduceIte, Nat.reduceEqDiff, Nat.reduceAdd, Nat.reduceMul, Nat.reduceSub, reduceCtorEq, e_none, e_some, e_bindS, k0, k3, k6, k7]
    refine ret_keep hB.1 ?_
    rw [rs_value, q_tmp, q_then]
    refine ⟨hB, ?_⟩
    simp only [e_upd, e_putS, e_putN, e_t, e_c, Nat.reduceEqDiff, ↓reduceIte, reduceCtorEq, Nat.reduceAdd]
    exact hN
end Go.Proofs.YtjmceapnhmeflaaDoor


/- Contracts: exact's Parse and Text. -/
-- NEWSET
namespace Go.Proofs.YtjmceapnhmeflaaDoor
open Go Go.Vh

def psE (l : List Int) : Int := if isN l then (if vd l l.length < BB ^ 64 then 0 else 8) else 6
def psN (l : List Int) : Int := if psE l = 0 then vd l l.length else 0
theorem isN_of {l : List Int} (h : isN l = true) : (0 < l.length ∧ l.length ≤ 617 ∧ (l.length = 1 ∨ l.getD 0 0 ≠ 48)) ∧ dgs l = true := by
  unfold isN at h
  rw [Bool.and_eq_true, decide_eq_true_eq] at h
  exact h

set_option maxHeartbeats 1000000 in
theorem xParse_calls (H0 : AHeap) {row0 : ARow} (hr0 : Vh.rowAt H0 0 = some row0) (l : List Int) (hb : Bytes l) (hm : l.length ≤ 9223372036854775807) : ACalls Tryd.prog 19 [.str (strOfNums l)] H0 (List.range H0.length) fun v H => Base H0 H ∧ ∃ w, v = .tuple [w, .int .i64 (psE l)] ∧ NumV H w (psN l) H0.length := by
  refine ACalls.body Tryd.func19 ent_xParse ir_xParse_ok rs_xParse_ok Tryd.ntmps19 (by simp) rfl ?_
  unfold ir_xParse
  have e0 : s0 [.str (strOfNums l)] 0 = .str (strOfNums l) := rfl
  simp (disch := omega) only [sN, ↓reduceIte, Nat.reduceEqDiff, Nat.reduceAdd, Nat.reduceMul, Nat.reduceSub, reduceCtorEq, e_none, e_some, e_bindS, e0, List.map_cons, List.map_nil]
  refine call_sc (isNumber_calls l hb hm) rfl rfl (fun _ => rfl) ?_
  by_cases hN : isN l = true
  · obtain ⟨⟨h1, h2, _⟩, hd⟩ := isN_of hN
    have hE : psE l = if vd l l.length < BB ^ 64 then 0 else 8 := by unfold psE; rw [if_pos hN]
    have hV : psN l = if vd l l.length < BB ^ 64 then vd l l.length else 0 := by
      unfold psN; rw [hE]; split <;> simp_all
    rw [hN, hE, hV]
    simp (disch := omega) only [sN, ↓reduceIte, Nat.reduceEqDiff, Nat.reduceAdd, Nat.reduceMul, Nat.reduceSub, reduceCtorEq, e_none, e_some, e_bindS, e0, List.map_cons, List.map_nil]
    refine ⟨_, (value_calls H0 hr0 l hb hd (by omega)).g.mono ?_⟩
    rintro w H ⟨hB, hW⟩
    have hv := vd_lt hd l.length (Nat.le_refl _)
    simp (disch := omega) only [sN, ↓reduceIte, Nat.reduceEqDiff, Nat.reduceAdd, Nat.reduceMul, Nat.reduceSub, reduceCtorEq, e_none, e_some, e_bindS, List.map_cons, List.map_nil]
    refine call_fit hW (hB.row hr0) hv.2 (by omega) fun w' hw' => ?_
    simp (disch := omega) only [sN, ↓reduceIte, Nat.reduceEqDiff, Nat.reduceAdd, Nat.reduceMul, Nat.reduceSub, reduceCtorEq, e_none, e_some, e_bindS, List.getElem?_cons_zero, List.getElem?_cons_succ]
    refine ret_keep hB.1 ?_
    rw [rs_xParse, q_tmp2, q_then]
    refine ⟨hB, w', ?_, hw'⟩
    simp only [e_upd, e_putS, e_putN, e_t, e_c, Nat.reduceEqDiff, ↓reduceIte, reduceCtorEq, Nat.reduceAdd]
  · have hN' : isN l = false := by simpa using hN
    have hE : psE l = 6 := by unfold psE; rw [hN']; rfl
    have hV : psN l = 0 := by unfold psN; rw [hE]; rfl
    rw [hN', hE, hV]
    simp (disch := omega) only [sN, ↓reduceIte, Nat.reduceEqDiff, Nat.reduceAdd, Nat.reduceMul, Nat.reduceSub, reduceCtorEq, e_none, e_some, e_bindS]
    refine ret_keep (Nat.le_refl _) ?_
    rw [rs_xParse, q_tmp2, q_then]
    refine ⟨Base.refl, .nilslice, ?_, .nil⟩
    simp only [e_upd, e_putS, e_putN, e_t, e_c, Nat.reduceEqDiff, ↓reduceIte, reduceCtorEq, Nat.reduceAdd]

end Go.Proofs.YtjmceapnhmeflaaDoor

