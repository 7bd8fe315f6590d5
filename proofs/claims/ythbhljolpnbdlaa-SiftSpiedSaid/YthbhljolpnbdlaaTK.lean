/- Contracts of stage 4: notes; a list of integers wherever it lies; what is known. -/
import Derived.Test.YthbhljolpnbdlaaVX
import Derived.Test.YthbhljolpnbdlaaTJ
import Derived.Test.YthbhljolpnbdlaaSIr6
set_option linter.unusedSimpArgs false
set_option linter.unusedVariables false
-- NEWSET
namespace Go.Proofs.Ythbhljolpnbdlaa
open Go Go.Vh

structure Not where
  sl : Int
  how : Int
  ba : Int
  bit : Bool
  deriving Inhabited
def ncell (p : Not) : List AV := [.int .i64 p.sl, .int .i64 p.how, .int .i64 p.ba, .bool p.bit]
def ncells (L : List Not) : List AV := L.flatMap ncell
theorem ncell_len {p : Not} : (ncell p).length = 4 := rfl
theorem ncell_cell {p : Not} : (ncell p).all AV.cell = true := rfl
theorem ncells_len : ∀ {L : List Not}, (ncells L).length = L.length * 4
  | [] => rfl
  | p :: L => by
    have := ncells_len (L := L)
    simp only [ncells, List.flatMap_cons, List.length_append, List.length_cons, ncell_len] at this ⊢
    omega
theorem note_at : ∀ {L : List Not} {i : Nat}, i < L.length → ((ncells L).drop (i * 4)).take 4 = ncell (L.getD i default) ∧ i * 4 + 4 ≤ (ncells L).length
  | [], i, h => by simp at h
  | p :: L, 0, h => by
    refine ⟨?_, by rw [ncells_len, List.length_cons]; omega⟩
    simp only [ncells, List.flatMap_cons, Nat.zero_mul, List.drop_zero, List.getD_cons_zero]
    exact List.take_left' ncell_len
  | p :: L, i + 1, h => by
    have h' : i < L.length := by simpa using h
    obtain ⟨h1, h2⟩ := note_at h'
    refine ⟨?_, by rw [ncells_len] at *; simp; omega⟩
    rw [show (i + 1) * 4 = 4 + i * 4 by omega, ← List.drop_drop]
    simp only [ncells, List.flatMap_cons, List.getD_cons_succ]
    rw [List.drop_left' ncell_len]
    exact h1
theorem note_get {L : List Not} {i j : Nat} (h : i < L.length) (hj : j < 4) : (ncells L)[i * 4 + j]? = (ncell (L.getD i default))[j]? := by
  rw [← (note_at h).1, List.getElem?_take, List.getElem?_drop, if_pos hj]
theorem k_idx4 {κ : SK} {N n r off : Nat} {k : IntKind} {x : Int} (hk : okS κ N) (h : n ≤ N) (h0 : 0 ≤ x) (h1 : x < n) : aindexAddr 4 (mkS κ r off n) (.int k x) = some (.ptr r (off + x.toNat * 4)) := by
  cases κ with
  | nil => simp only [okS] at hk; omega
  | cap c => simp [mkS, aindexAddr, h0, h1]
  | u => simp [mkS, aindexAddr, h0, h1]

/-- the error of a note; m slots -/
def nA (m : Nat) (x : Not) : Int := if (1 ≤ x.how ∧ x.how ≤ 3) ∧ (x.ba = 0 ∨ x.ba = 1) then (if 0 ≤ x.sl ∧ x.sl < m then 0 else 3) else 2
def nE (m : Nat) (N : List Not) : Int := fst0 (N.map (nA m))
theorem nE_getD {m : Nat} {N : List Not} {j : Nat} (h : j < N.length) : (N.map (nA m)).getD j 0 = nA m (N.getD j default) := by
  simp [List.getD_eq_getElem?_getD, h]
theorem nE_hit {m : Nat} {N : List Not} {i : Nat} (hi : i < N.length) (h : ∀ j, j < i → nA m (N.getD j default) = 0) (he : nA m (N.getD i default) ≠ 0) : nE m N = nA m (N.getD i default) := by
  unfold nE
  rw [fst0_drop (i := i) fun j hj => by rw [nE_getD (by omega)]; exact h j hj]
  rw [List.drop_eq_getElem_cons (by simpa using hi)]
  have : (N.map (nA m))[i]'(by simpa using hi) = nA m (N.getD i default) := by simp [List.getD_eq_getElem?_getD, hi]
  rw [this]
  simp only [fst0]
  rw [if_neg he]
theorem nE_zero {m : Nat} {N : List Not} (h : ∀ j, j < N.length → nA m (N.getD j default) = 0) : nE m N = 0 := by
  unfold nE
  rw [fst0_drop (i := N.length) fun j hj => by rw [nE_getD (by omega)]; exact h j hj]
  rw [List.drop_eq_nil_of_le (by simp)]
  rfl
/-- does a note tell of slot j? -/
def nk (L : List Pul) (x : Not) (j : Nat) : Bool := decide (x.sl = j ∧ (x.how = 2 ∨ x.ba = (L.getD j default).ba))
def kn (L : List Pul) (N : List Not) (i : Nat) (j : Nat) : Bool := (List.range i).any fun t => nk L (N.getD t default) j
theorem kn_succ {L : List Pul} {N : List Not} {i j : Nat} : kn L N (i + 1) j = (kn L N i j || nk L (N.getD i default) j) := by
  simp [kn, List.range_succ]

/-- the indexes that are true -/
def trL (f : Nat → Bool) : Nat → List Int
  | 0 => []
  | i + 1 => trL f i ++ (if f i then [(i : Int)] else [])
theorem trL_len {f : Nat → Bool} : ∀ n, (trL f n).length ≤ n
  | 0 => by simp [trL]
  | n + 1 => by
    have := trL_len (f := f) n
    simp only [trL, List.length_append]
    split <;> simp <;> omega
theorem trL_mem {f : Nat → Bool} {x : Int} : ∀ {n}, x ∈ trL f n ↔ ∃ i, i < n ∧ f i = true ∧ x = i
  | 0 => by simp [trL]
  | n + 1 => by
    simp only [trL, List.mem_append, trL_mem (n := n)]
    constructor
    · rintro (⟨i, h1, h2, h3⟩ | h)
      · exact ⟨i, by omega, h2, h3⟩
      · by_cases hf : f n = true
        · simp only [hf, if_true, List.mem_singleton] at h
          exact ⟨n, by omega, hf, h⟩
        · simp [hf] at h
    · rintro ⟨i, h1, h2, h3⟩
      by_cases hi : i = n
      · subst hi; right; simp [h2, h3]
      · left; exact ⟨i, by omega, h2, h3⟩
theorem trL_count {f : Nat → Bool} {x : Int} (h0 : 0 ≤ x) : ∀ {n : Nat}, x < (n : Int) → (trL f n).count x = if f x.toNat then 1 else 0
  | 0 => fun h => by omega
  | n + 1 => fun h1 => by
    simp only [trL, List.count_append]
    by_cases hx : x = n
    · subst hx
      have hz : (trL f n).count (n : Int) = 0 := by
        rw [List.count_eq_zero]
        intro h
        obtain ⟨i, h1, _, h3⟩ := trL_mem.1 h
        omega
      rw [hz, Int.toNat_natCast]
      by_cases hf : f n = true
      · simp [hf]
      · simp [hf]
    · rw [trL_count h0 (by omega : x < (n : Int))]
      have : (if f n = true then [(n : Int)] else []).count x = 0 := by
        rw [List.count_eq_zero]
        split
        · simp; exact hx
        · simp
      omega
theorem trL_incr {f : Nat → Bool} : ∀ {n}, (trL f n).Pairwise (· < ·)
  | 0 => List.Pairwise.nil
  | n + 1 => by
    simp only [trL]
    rw [List.pairwise_append]
    refine ⟨trL_incr, ?_, fun a ha b hb => ?_⟩
    · split <;> simp
    · obtain ⟨i, h1, _, h3⟩ := trL_mem.1 ha
      split at hb
      · simp only [List.mem_singleton] at hb; omega
      · simp at hb
theorem incr_get {l : List Int} (h : l.Pairwise (· < ·)) {i j : Nat} (hij : i < j) (hj : j < l.length) : l.getD i 0 < l.getD j 0 := by
  have := List.pairwise_iff_getElem.1 h i j (by omega) hj hij
  simpa [List.getD_eq_getElem?_getD, show i < l.length by omega, hj] using this

/-- a list of integers, wherever it lies -/
def Vi (H : AHeap) (v : AV) (l : List Int) : Prop := ∃ κ q, okS κ l.length ∧ v = mkS κ q 0 l.length ∧ (0 < l.length → ∃ row, Vh.rowAt H q = some row ∧ row.cells = ints .i64 l)
theorem Vi.base {H H' : AHeap} {v : AV} {l : List Int} (h : Vi H v l) (hb : Base H H') : Vi H' v l := by
  obtain ⟨κ, q, h1, h2, h3⟩ := h
  exact ⟨κ, q, h1, h2, fun hi => by obtain ⟨row, k1, k2⟩ := h3 hi; exact ⟨row, hb.row k1, k2⟩⟩
theorem Gs.vi {H0 H : AHeap} {v : AV} {l : List Int} (h : Gs H0 H v l) : Vi H v l := by
  rcases h with ⟨rfl, rfl⟩ | ⟨q, h1, rfl, _, h4⟩
  · exact ⟨.nil, 0, rfl, rfl, fun h => by simp at h⟩
  · exact ⟨.u, q, trivial, rfl, fun _ => ⟨_, h4, rfl⟩⟩
end Go.Proofs.Ythbhljolpnbdlaa


/- Contracts of stage 4: comparison, the binary search, pulses and notes are checked. -/
-- NEWSET
namespace Go.Proofs.Ythbhljolpnbdlaa
open Go Go.Vh

theorem isNaN_calls (H0 : AHeap) (b : Int) : ACalls Try.prog 100 [.int .i64 b] H0 (List.range H0.length) fun v H => v = .bool false ∧ H = H0 := by
  refine ACalls.body Try.func100 ent_isNaN ir_isNaN_ok rs_isNaN_ok Try.ntmps100 (by simp) rfl ?_
  unfold ir_isNaN
  have e0 : s0 [.int .i64 b] 0 = .int .i64 b := rfl
  simp (disch := omega) only [sN, ↓reduceIte, Nat.reduceEqDiff, Nat.reduceAdd, Nat.reduceMul, Nat.reduceSub, reduceCtorEq, e_none, e_some, e_bindS, e0]
  refine ret_keep (by simp) ⟨?_, rfl⟩
  simp only [e_upd, e_putS, e_putN, e_t, e_c, Nat.reduceEqDiff, ↓reduceIte, reduceCtorEq, Nat.reduceAdd]
theorem isNaN2_calls (H0 : AHeap) (b : Int) : ACalls Try.prog 129 [.int .i64 b] H0 (List.range H0.length) fun v H => v = .bool false ∧ H = H0 := by
  refine ACalls.body Try.func129 ent_isNaN2 ir_isNaN2_ok rs_isNaN2_ok Try.ntmps129 (by simp) rfl ?_
  unfold ir_isNaN2
  have e0 : s0 [.int .i64 b] 0 = .int .i64 b := rfl
  simp (disch := omega) only [sN, ↓reduceIte, Nat.reduceEqDiff, Nat.reduceAdd, Nat.reduceMul, Nat.reduceSub, reduceCtorEq, e_none, e_some, e_bindS, e0]
  refine ret_keep (by simp) ⟨?_, rfl⟩
  simp only [e_upd, e_putS, e_putN, e_t, e_c, Nat.reduceEqDiff, ↓reduceIte, reduceCtorEq, Nat.reduceAdd]
theorem cmpLess_calls (H0 : AHeap) (a b : Int) : ACalls Try.prog 99 [.int .i64 a, .int .i64 b] H0 (List.range H0.length) fun v H => v = .bool (decide (a < b)) ∧ H = H0 := by
  refine ACalls.body Try.func99 ent_cmpLess ir_cmpLess_ok rs_cmpLess_ok Try.ntmps99 (by simp) rfl ?_
  unfold ir_cmpLess
  have e0 : s0 [.int .i64 a, .int .i64 b] 0 = .int .i64 a := rfl
  have e1 : s0 [.int .i64 a, .int .i64 b] 1 = .int .i64 b := rfl
  simp (disch := omega) only [sN, ↓reduceIte, Nat.reduceEqDiff, Nat.reduceAdd, Nat.reduceMul, Nat.reduceSub, reduceCtorEq, e_none, e_some, e_bindS, e0, e1, List.map_cons, List.map_nil]
  refine ⟨_, (isNaN2_calls H0 a).g.mono ?_⟩
  rintro v H ⟨rfl, hH⟩
  rw [hH]
  by_cases h : a < b
  · simp (disch := omega) only [sN, ↓reduceIte, Nat.reduceEqDiff, Nat.reduceAdd, Nat.reduceMul, Nat.reduceSub, reduceCtorEq, e_none, e_some, e_bindS, e0, e1]
    refine ret_keep (by simp) ⟨?_, rfl⟩
    simp only [e_upd, e_putS, e_putN, e_t, e_c, Nat.reduceEqDiff, ↓reduceIte, reduceCtorEq, Nat.reduceAdd]; try simp [h]
  · simp (disch := omega) only [sN, ↓reduceIte, Nat.reduceEqDiff, Nat.reduceAdd, Nat.reduceMul, Nat.reduceSub, reduceCtorEq, e_none, e_some, e_bindS, e0, e1]
    refine ret_keep (by simp) ⟨?_, rfl⟩
    simp only [e_upd, e_putS, e_putN, e_t, e_c, Nat.reduceEqDiff, ↓reduceIte, reduceCtorEq, Nat.reduceAdd]; try simp [h]

theorem truth3_calls (H0 : AHeap) (b : Int) : ACalls Try.prog 69 [.int .i64 b] H0 (List.range H0.length) fun v H => v = .bool (decide (b = 0 ∨ b = 1)) ∧ H = H0 := by
  refine ACalls.body Try.func69 ent_truth3 ir_truth3_ok rs_truth3_ok Try.ntmps69 (by simp) rfl ?_
  unfold ir_truth3
  have e0 : s0 [.int .i64 b] 0 = .int .i64 b := rfl
  by_cases h0 : b = 0
  · subst h0
    simp (disch := omega) only [sN, ↓reduceIte, Nat.reduceEqDiff, Nat.reduceAdd, Nat.reduceMul, Nat.reduceSub, reduceCtorEq, e_none, e_some, e_bindS, e0]
    refine ret_keep (by simp) ⟨?_, rfl⟩
    simp only [e_upd, e_putS, e_putN, e_t, e_c, Nat.reduceEqDiff, ↓reduceIte, reduceCtorEq, Nat.reduceAdd]; rfl
  · by_cases h1 : b = 1
    · subst h1
      simp (disch := omega) only [sN, ↓reduceIte, Nat.reduceEqDiff, Nat.reduceAdd, Nat.reduceMul, Nat.reduceSub, reduceCtorEq, e_none, e_some, e_bindS, e0]
      refine ret_keep (by simp) ⟨?_, rfl⟩
      simp only [e_upd, e_putS, e_putN, e_t, e_c, Nat.reduceEqDiff, ↓reduceIte, reduceCtorEq, Nat.reduceAdd]; rfl
    · simp (disch := omega) only [sN, ↓reduceIte, Nat.reduceEqDiff, Nat.reduceAdd, Nat.reduceMul, Nat.reduceSub, reduceCtorEq, e_none, e_some, e_bindS, e0]
      refine ret_keep (by simp) ⟨?_, rfl⟩
      simp only [e_upd, e_putS, e_putN, e_t, e_c, Nat.reduceEqDiff, ↓reduceIte, reduceCtorEq, Nat.reduceAdd]; try simp [h0, h1]

theorem pulse3_calls (H0 : AHeap) (p : Pul) : ACalls Try.prog 101 [.agg (pcell p)] H0 (List.range H0.length) fun v H => v = .bool (okP p) ∧ Base H0 H := by
  refine ACalls.body Try.func101 ent_pulse3 ir_pulse3_ok rs_pulse3_ok Try.ntmps101 (by simp) rfl ?_
  unfold ir_pulse3
  have e0 : s0 [.agg (pcell p)] 0 = .agg (pcell p) := rfl
  simp (disch := omega) only [sN, ↓reduceIte, Nat.reduceEqDiff, Nat.reduceAdd, Nat.reduceMul, Nat.reduceSub, reduceCtorEq, e_none, e_some, e_bindS, e0]
  rw [x_boxN (l := pcell p) (by simp only [e_upd, e_putS, e_putN, e_t, e_c, Nat.reduceEqDiff, ↓reduceIte, reduceCtorEq, Nat.reduceAdd, e0]) pcell_cell]
  obtain ⟨b, bit, c, k, sn⟩ := p
  have hr : Vh.rowAt (H0 ++ [rw_ (pcell ⟨b, bit, c, k, sn⟩)]) H0.length = some ⟨true, false, [.int .i64 b, .bool bit, .int .i64 c, .int .i64 k, .bool sn]⟩ := by simp [Vh.rowAt, rw_, pcell]
  obtain ⟨H1, hH1⟩ : ∃ h, h = H0 ++ [rw_ (pcell ⟨b, bit, c, k, sn⟩)] := ⟨_, rfl⟩
  have hB : Base H0 H1 := by rw [hH1]; exact Base.one
  rw [← hH1] at hr ⊢
  simp (disch := omega) only [sN, ↓reduceIte, Nat.reduceEqDiff, Nat.reduceAdd, Nat.reduceMul, Nat.reduceSub, reduceCtorEq, e_none, e_some, e_bindS, p_fieldAddr, Nat.zero_add, hr, Option.bind_some, Option.map_some, List.getElem?_cons_zero, List.getElem?_cons_succ, List.map_cons, List.map_nil]
  refine ⟨_, (truth3_calls _ b).g.mono ?_⟩
  rintro v H ⟨rfl, hH⟩
  rw [hH]
  have fin : ∀ x : Bool, okP ⟨b, bit, c, k, sn⟩ = x → (AV.bool x = .bool (okP ⟨b, bit, c, k, sn⟩) ∧ Base H0 H1) := fun x hx => ⟨by rw [hx], hB⟩
  by_cases hb : b = 0 ∨ b = 1
  · rw [decide_eq_true hb]
    by_cases h0 : 0 ≤ c
    · by_cases h3 : c ≤ 2
      · by_cases h4 : 0 ≤ k
        · by_cases h5 : k ≤ 3
          · simp (disch := omega) only [sN, ↓reduceIte, Nat.reduceEqDiff, Nat.reduceAdd, Nat.reduceMul, Nat.reduceSub, reduceCtorEq, e_none, e_some, e_bindS, p_fieldAddr, Nat.zero_add, hr, Option.bind_some, Option.map_some, List.getElem?_cons_zero, List.getElem?_cons_succ]
            refine ret_keep hB.1 ?_
            simp only [rs_pulse3, q_tmp, q_then, e_upd, e_putS, e_putN, e_t, e_c, Nat.reduceEqDiff, ↓reduceIte, reduceCtorEq, Nat.reduceAdd]
            exact fin _ (by simp [okP, hb, h0, h3, h4, h5])
          · simp (disch := omega) only [sN, ↓reduceIte, Nat.reduceEqDiff, Nat.reduceAdd, Nat.reduceMul, Nat.reduceSub, reduceCtorEq, e_none, e_some, e_bindS, p_fieldAddr, Nat.zero_add, hr, Option.bind_some, Option.map_some, List.getElem?_cons_zero, List.getElem?_cons_succ]
            refine ret_keep hB.1 ?_
            simp only [rs_pulse3, q_tmp, q_then, e_upd, e_putS, e_putN, e_t, e_c, Nat.reduceEqDiff, ↓reduceIte, reduceCtorEq, Nat.reduceAdd]
            exact fin _ (by simp [okP, hb, h0, h3, h4, h5])
        · simp (disch := omega) only [sN, ↓reduceIte, Nat.reduceEqDiff, Nat.reduceAdd, Nat.reduceMul, Nat.reduceSub, reduceCtorEq, e_none, e_some, e_bindS, p_fieldAddr, Nat.zero_add, hr, Option.bind_some, Option.map_some, List.getElem?_cons_zero, List.getElem?_cons_succ]
          refine ret_keep hB.1 ?_
          simp only [rs_pulse3, q_tmp, q_then, e_upd, e_putS, e_putN, e_t, e_c, Nat.reduceEqDiff, ↓reduceIte, reduceCtorEq, Nat.reduceAdd]
          exact fin _ (by simp [okP, hb, h0, h3, h4])
      · simp (disch := omega) only [sN, ↓reduceIte, Nat.reduceEqDiff, Nat.reduceAdd, Nat.reduceMul, Nat.reduceSub, reduceCtorEq, e_none, e_some, e_bindS, p_fieldAddr, Nat.zero_add, hr, Option.bind_some, Option.map_some, List.getElem?_cons_zero, List.getElem?_cons_succ]
        refine ret_keep hB.1 ?_
        simp only [rs_pulse3, q_tmp, q_then, e_upd, e_putS, e_putN, e_t, e_c, Nat.reduceEqDiff, ↓reduceIte, reduceCtorEq, Nat.reduceAdd]
        exact fin _ (by simp [okP, hb, h0, h3])
    · simp (disch := omega) only [sN, ↓reduceIte, Nat.reduceEqDiff, Nat.reduceAdd, Nat.reduceMul, Nat.reduceSub, reduceCtorEq, e_none, e_some, e_bindS, p_fieldAddr, Nat.zero_add, hr, Option.bind_some, Option.map_some, List.getElem?_cons_zero, List.getElem?_cons_succ]
      refine ret_keep hB.1 ?_
      simp only [rs_pulse3, q_tmp, q_then, e_upd, e_putS, e_putN, e_t, e_c, Nat.reduceEqDiff, ↓reduceIte, reduceCtorEq, Nat.reduceAdd]
      exact fin _ (by simp [okP, hb, h0])
  · rw [decide_eq_false hb]
    simp (disch := omega) only [sN, ↓reduceIte, Nat.reduceEqDiff, Nat.reduceAdd, Nat.reduceMul, Nat.reduceSub, reduceCtorEq, e_none, e_some, e_bindS, p_fieldAddr, Nat.zero_add, hr, Option.bind_some, Option.map_some, List.getElem?_cons_zero, List.getElem?_cons_succ]
    refine ret_keep hB.1 ?_
    simp only [rs_pulse3, q_tmp, q_then, e_upd, e_putS, e_putN, e_t, e_c, Nat.reduceEqDiff, ↓reduceIte, reduceCtorEq, Nat.reduceAdd]
    exact fin _ (by simp [okP, hb])

theorem rpul3_calls (H0 : AHeap) {κ : SK} {n r : Nat} {L : List Pul} {row : ARow} (hk : okS κ n) (hl : L.length = n) (hn : n ≤ maxLen) (hr : Vh.rowAt H0 r = some row) (hc : row.cells = pcells L) :
    ACalls Try.prog 68 [mkS κ r 0 n] H0 (List.range H0.length) fun v H => v = .int .i64 (pE L) ∧ Base H0 H := by
  refine ACalls.body Try.func68 ent_rpul3 ir_rpul3_ok rs_rpul3_ok Try.ntmps68 (by simp) rfl ?_
  unfold ir_rpul3
  have e0 : s0 [mkS κ r 0 n] 0 = mkS κ r 0 n := rfl
  have hn' : (n : Int) ≤ 9223372036854775807 := by unfold maxLen at hn; omega
  by_cases hb : n ≤ 4096
  · simp (disch := omega) only [sN, ↓reduceIte, Nat.reduceEqDiff, Nat.reduceAdd, Nat.reduceMul, Nat.reduceSub, reduceCtorEq, e_none, e_some, e_bindS, e0, k_len hk]
    refine ⟨fun t s H => ∃ i : Nat, t = n - i ∧ i ≤ n ∧ (∀ j, j < i → okP (L.getD j default) = true) ∧ Base H0 H ∧ s 0 = mkS κ r 0 n ∧ s 3 = .int .i64 (i : Int), n, ⟨0, rfl, by omega, fun j h => by omega, Base.refl, ?_, ?_⟩, ?_⟩
    · simp only [e_upd, e_putS, e_putN, e_t, e_c, Nat.reduceEqDiff, ↓reduceIte, reduceCtorEq, Nat.reduceAdd, e0]
    · simp only [e_upd, e_putS, e_putN, e_t, e_c, Nat.reduceEqDiff, ↓reduceIte, reduceCtorEq, Nat.reduceAdd]; rfl
    rintro t s H ⟨i, rfl, hi, hS, hB, h0, h3⟩
    by_cases hlt : i < n
    · obtain ⟨c1, c2⟩ := pulse_at (L := L) (i := i) (by omega)
      obtain ⟨p, hp⟩ : ∃ p, p = L.getD i default := ⟨_, rfl⟩
      rw [← hp] at c1
      have hrH := hB.row hr
      have ia : aindexAddr 5 (mkS κ r 0 n) (.int .i64 (i : Int)) = some (.ptr r (i * 5)) := by
        rw [k_idx5 hk (Nat.le_refl n) (by omega) (by omega)]; simp
      simp (disch := omega) only [sN, ↓reduceIte, Nat.reduceEqDiff, Nat.reduceAdd, Nat.reduceMul, Nat.reduceSub, reduceCtorEq, e_none, e_some, e_bindS, h0, h3, k_len hk, ia]
      rw [x_loadNO (n := 5) (r := r) (off := i * 5) (l := pcell p) (by simp only [e_upd, e_putS, e_putN, e_t, e_c, Nat.reduceEqDiff, ↓reduceIte, reduceCtorEq, Nat.reduceAdd]) hrH (by rw [hc]; exact c1) (by rw [hc]; exact c2)]
      simp (disch := omega) only [sN, ↓reduceIte, Nat.reduceEqDiff, Nat.reduceAdd, Nat.reduceMul, Nat.reduceSub, reduceCtorEq, e_none, e_some, e_bindS, h0, h3, List.map_cons, List.map_nil]
      refine ⟨_, (pulse3_calls _ p).g.mono ?_⟩
      rintro v H' ⟨rfl, hB'⟩
      have hB2 := hB.trans hB'
      cases hok : okP p
      · simp (disch := omega) only [sN, ↓reduceIte, Nat.reduceEqDiff, Nat.reduceAdd, Nat.reduceMul, Nat.reduceSub, reduceCtorEq, e_none, e_some, e_bindS, h0, h3]
        refine ret_keep hB2.1 ⟨?_, hB2⟩
        have : pE L = 2 := by unfold pE; rw [if_pos (by omega), okPs_false (show i < L.length by omega) (by rw [← hp]; exact hok)]; rfl
        rw [this]
        simp only [e_upd, e_putS, e_putN, e_t, e_c, Nat.reduceEqDiff, ↓reduceIte, reduceCtorEq, Nat.reduceAdd]
      · simp (disch := omega) only [sN, ↓reduceIte, Nat.reduceEqDiff, Nat.reduceAdd, Nat.reduceMul, Nat.reduceSub, reduceCtorEq, e_none, e_some, e_bindS, h0, h3]
        refine loop_keep (m := n - (i + 1)) (by omega) ⟨i + 1, rfl, by omega, fun j hj => ?_, hB2, ?_, ?_⟩
        · rcases Nat.lt_or_ge j i with h | h
          · exact hS j h
          · obtain rfl : j = i := by omega
            rw [← hp]; exact hok
        · simp only [e_upd, e_putS, e_putN, e_t, e_c, Nat.reduceEqDiff, ↓reduceIte, reduceCtorEq, Nat.reduceAdd, h0]
        · simp only [e_upd, e_putS, e_putN, e_t, e_c, Nat.reduceEqDiff, ↓reduceIte, reduceCtorEq, Nat.reduceAdd]; first | done | rfl
    · obtain rfl : i = n := by omega
      have hce : pE L = 0 := by unfold pE; rw [if_pos (by omega), okPs_true (fun j hj => hS j (by omega))]; rfl
      rw [hce]
      simp (disch := omega) only [sN, ↓reduceIte, Nat.reduceEqDiff, Nat.reduceAdd, Nat.reduceMul, Nat.reduceSub, reduceCtorEq, e_none, e_some, e_bindS, h0, h3, k_len hk]
      refine ret_keep hB.1 ⟨?_, hB⟩
      simp only [e_upd, e_putS, e_putN, e_t, e_c, Nat.reduceEqDiff, ↓reduceIte, reduceCtorEq, Nat.reduceAdd]
  · have hce : pE L = 5 := by simp [pE, hl, hb]
    rw [hce]
    simp (disch := omega) only [sN, ↓reduceIte, Nat.reduceEqDiff, Nat.reduceAdd, Nat.reduceMul, Nat.reduceSub, reduceCtorEq, e_none, e_some, e_bindS, e0, k_len hk]
    refine ret_keep (by simp) ⟨?_, Base.refl⟩
    simp only [e_upd, e_putS, e_putN, e_t, e_c, Nat.reduceEqDiff, ↓reduceIte, reduceCtorEq, Nat.reduceAdd]

theorem ocheck_calls (H0 : AHeap) {κ : SK} {n r : Nat} {L : List Pul} {row : ARow} (hk : okS κ n) (hl : L.length = n) (hn : n ≤ maxLen) (hr : Vh.rowAt H0 r = some row) (hc : row.cells = pcells L) :
    ACalls Try.prog 97 [mkS κ r 0 n] H0 (List.range H0.length) fun v H => v = .int .i64 (pE L) ∧ Base H0 H := by
  refine ACalls.body Try.func97 ent_ocheck ir_ocheck_ok rs_ocheck_ok Try.ntmps97 (by simp) rfl ?_
  unfold ir_ocheck
  have e0 : s0 [mkS κ r 0 n] 0 = mkS κ r 0 n := rfl
  have hn' : (n : Int) ≤ 9223372036854775807 := by unfold maxLen at hn; omega
  by_cases hb : n ≤ 4096
  · simp (disch := omega) only [sN, ↓reduceIte, Nat.reduceEqDiff, Nat.reduceAdd, Nat.reduceMul, Nat.reduceSub, reduceCtorEq, e_none, e_some, e_bindS, e0, k_len hk, List.map_cons, List.map_nil]
    refine ⟨_, (allPs_calls H0 hk hl hb hr hc).g.mono ?_⟩
    rintro v H' ⟨rfl, hB'⟩
    cases hok : L.all okP
    · have hce : pE L = 2 := by unfold pE; rw [if_pos (by omega), hok]; rfl
      rw [hce]
      simp (disch := omega) only [sN, ↓reduceIte, Nat.reduceEqDiff, Nat.reduceAdd, Nat.reduceMul, Nat.reduceSub, reduceCtorEq, e_none, e_some, e_bindS]
      refine ret_keep hB'.1 ⟨?_, hB'⟩
      simp only [e_upd, e_putS, e_putN, e_t, e_c, Nat.reduceEqDiff, ↓reduceIte, reduceCtorEq, Nat.reduceAdd]
    · have hce : pE L = 0 := by unfold pE; rw [if_pos (by omega), hok]; rfl
      rw [hce]
      simp (disch := omega) only [sN, ↓reduceIte, Nat.reduceEqDiff, Nat.reduceAdd, Nat.reduceMul, Nat.reduceSub, reduceCtorEq, e_none, e_some, e_bindS]
      refine ret_keep hB'.1 ⟨?_, hB'⟩
      simp only [e_upd, e_putS, e_putN, e_t, e_c, Nat.reduceEqDiff, ↓reduceIte, reduceCtorEq, Nat.reduceAdd]
  · have hce : pE L = 5 := by simp [pE, hl, hb]
    rw [hce]
    simp (disch := omega) only [sN, ↓reduceIte, Nat.reduceEqDiff, Nat.reduceAdd, Nat.reduceMul, Nat.reduceSub, reduceCtorEq, e_none, e_some, e_bindS, e0, k_len hk]
    refine ret_keep (by simp) ⟨?_, Base.refl⟩
    simp only [e_upd, e_putS, e_putN, e_t, e_c, Nat.reduceEqDiff, ↓reduceIte, reduceCtorEq, Nat.reduceAdd]

theorem checkNote_calls (H0 : AHeap) (x : Not) (m : Nat) : ACalls Try.prog 98 [.agg (ncell x), .int .i64 (m : Int)] H0 (List.range H0.length) fun v H => v = .int .i64 (nA m x) ∧ Base H0 H := by
  refine ACalls.body Try.func98 ent_checkNote ir_checkNote_ok rs_checkNote_ok Try.ntmps98 (by simp) rfl ?_
  unfold ir_checkNote
  have e0 : s0 [.agg (ncell x), .int .i64 (m : Int)] 0 = .agg (ncell x) := rfl
  have e1 : s0 [.agg (ncell x), .int .i64 (m : Int)] 1 = .int .i64 (m : Int) := rfl
  simp (disch := omega) only [sN, ↓reduceIte, Nat.reduceEqDiff, Nat.reduceAdd, Nat.reduceMul, Nat.reduceSub, reduceCtorEq, e_none, e_some, e_bindS, e0, e1]
  rw [x_boxN (l := ncell x) (by simp only [e_upd, e_putS, e_putN, e_t, e_c, Nat.reduceEqDiff, ↓reduceIte, reduceCtorEq, Nat.reduceAdd, e0]) ncell_cell]
  obtain ⟨sl, how, ba, bit⟩ := x
  have hr : Vh.rowAt (H0 ++ [rw_ (ncell ⟨sl, how, ba, bit⟩)]) H0.length = some ⟨true, false, [.int .i64 sl, .int .i64 how, .int .i64 ba, .bool bit]⟩ := by simp [Vh.rowAt, rw_, ncell]
  obtain ⟨H1, hH1⟩ : ∃ h, h = H0 ++ [rw_ (ncell ⟨sl, how, ba, bit⟩)] := ⟨_, rfl⟩
  have hB : Base H0 H1 := by rw [hH1]; exact Base.one
  rw [← hH1] at hr ⊢
  have fin : ∀ e : Int, nA m ⟨sl, how, ba, bit⟩ = e → (AV.int .i64 e = .int .i64 (nA m ⟨sl, how, ba, bit⟩) ∧ Base H0 H1) := fun e he => ⟨by rw [he], hB⟩
  by_cases q0 : how < 1
  · simp (disch := omega) only [sN, ↓reduceIte, Nat.reduceEqDiff, Nat.reduceAdd, Nat.reduceMul, Nat.reduceSub, reduceCtorEq, e_none, e_some, e_bindS, e1, p_fieldAddr, Nat.zero_add, hr, Option.bind_some, Option.map_some, List.getElem?_cons_zero, List.getElem?_cons_succ]
    refine ret_keep hB.1 ?_
    simp only [rs_checkNote, q_tmp, q_then, e_upd, e_putS, e_putN, e_t, e_c, Nat.reduceEqDiff, ↓reduceIte, reduceCtorEq, Nat.reduceAdd]
    exact fin _ (by unfold nA; rw [if_neg (by dsimp only; omega)])
  · by_cases q1 : how > 3
    · simp (disch := omega) only [sN, ↓reduceIte, Nat.reduceEqDiff, Nat.reduceAdd, Nat.reduceMul, Nat.reduceSub, reduceCtorEq, e_none, e_some, e_bindS, e1, p_fieldAddr, Nat.zero_add, hr, Option.bind_some, Option.map_some, List.getElem?_cons_zero, List.getElem?_cons_succ]
      refine ret_keep hB.1 ?_
      simp only [rs_checkNote, q_tmp, q_then, e_upd, e_putS, e_putN, e_t, e_c, Nat.reduceEqDiff, ↓reduceIte, reduceCtorEq, Nat.reduceAdd]
      exact fin _ (by unfold nA; rw [if_neg (by dsimp only; omega)])
    · simp (disch := omega) only [sN, ↓reduceIte, Nat.reduceEqDiff, Nat.reduceAdd, Nat.reduceMul, Nat.reduceSub, reduceCtorEq, e_none, e_some, e_bindS, e1, p_fieldAddr, Nat.zero_add, hr, Option.bind_some, Option.map_some, List.getElem?_cons_zero, List.getElem?_cons_succ, List.map_cons, List.map_nil]
      refine ⟨_, (isBasis_calls _ ba).g.mono ?_⟩
      rintro v H ⟨rfl, hH⟩
      rw [hH]
      by_cases q2 : ba = 0 ∨ ba = 1
      · rw [decide_eq_true q2]
        by_cases q3 : sl < 0
        · simp (disch := omega) only [sN, ↓reduceIte, Nat.reduceEqDiff, Nat.reduceAdd, Nat.reduceMul, Nat.reduceSub, reduceCtorEq, e_none, e_some, e_bindS, e1, p_fieldAddr, Nat.zero_add, hr, Option.bind_some, Option.map_some, List.getElem?_cons_zero, List.getElem?_cons_succ]
          refine ret_keep hB.1 ?_
          simp only [rs_checkNote, q_tmp, q_then, e_upd, e_putS, e_putN, e_t, e_c, Nat.reduceEqDiff, ↓reduceIte, reduceCtorEq, Nat.reduceAdd]
          exact fin _ (by unfold nA; rw [if_pos (by dsimp only; omega), if_neg (by dsimp only; omega)])
        · by_cases q4 : sl ≥ m
          · simp (disch := omega) only [sN, ↓reduceIte, Nat.reduceEqDiff, Nat.reduceAdd, Nat.reduceMul, Nat.reduceSub, reduceCtorEq, e_none, e_some, e_bindS, e1, p_fieldAddr, Nat.zero_add, hr, Option.bind_some, Option.map_some, List.getElem?_cons_zero, List.getElem?_cons_succ]
            refine ret_keep hB.1 ?_
            simp only [rs_checkNote, q_tmp, q_then, e_upd, e_putS, e_putN, e_t, e_c, Nat.reduceEqDiff, ↓reduceIte, reduceCtorEq, Nat.reduceAdd]
            exact fin _ (by unfold nA; rw [if_pos (by dsimp only; omega), if_neg (by dsimp only; omega)])
          · simp (disch := omega) only [sN, ↓reduceIte, Nat.reduceEqDiff, Nat.reduceAdd, Nat.reduceMul, Nat.reduceSub, reduceCtorEq, e_none, e_some, e_bindS, e1, p_fieldAddr, Nat.zero_add, hr, Option.bind_some, Option.map_some, List.getElem?_cons_zero, List.getElem?_cons_succ]
            refine ret_keep hB.1 ?_
            simp only [rs_checkNote, q_tmp, q_then, e_upd, e_putS, e_putN, e_t, e_c, Nat.reduceEqDiff, ↓reduceIte, reduceCtorEq, Nat.reduceAdd]
            exact fin _ (by unfold nA; rw [if_pos (by dsimp only; omega), if_pos (by dsimp only; omega)])
      · rw [decide_eq_false q2]
        simp (disch := omega) only [sN, ↓reduceIte, Nat.reduceEqDiff, Nat.reduceAdd, Nat.reduceMul, Nat.reduceSub, reduceCtorEq, e_none, e_some, e_bindS, e1, p_fieldAddr, Nat.zero_add, hr, Option.bind_some, Option.map_some, List.getElem?_cons_zero, List.getElem?_cons_succ]
        refine ret_keep hB.1 ?_
        simp only [rs_checkNote, q_tmp, q_then, e_upd, e_putS, e_putN, e_t, e_c, Nat.reduceEqDiff, ↓reduceIte, reduceCtorEq, Nat.reduceAdd]
        exact fin _ (by unfold nA; rw [if_neg (by dsimp only; omega)])
end Go.Proofs.Ythbhljolpnbdlaa


/- Contracts of stage 4: the binary search. -/
-- NEWSET
namespace Go.Proofs.Ythbhljolpnbdlaa
open Go Go.Vh

theorem bs_in {l : List Int} {x : Int} {i n : Nat} (hp : l.Pairwise (· < ·)) (hn : l.length = n) (hi : i ≤ n) (hlo : ∀ k, k < i → l.getD k 0 < x) (hhi : ∀ k, i ≤ k → k < n → x ≤ l.getD k 0) : x ∈ l ↔ i < n ∧ l.getD i 0 = x := by
  constructor
  · intro h
    obtain ⟨k, hk, e⟩ := List.getElem_of_mem h
    have ek : l.getD k 0 = x := by simp [List.getD_eq_getElem?_getD, hk, e]
    have h1 : i ≤ k := by
      rcases Nat.lt_or_ge k i with h | h
      · have := hlo k h; omega
      · exact h
    rcases Nat.eq_or_lt_of_le h1 with h2 | h2
    · subst h2; exact ⟨by omega, ek⟩
    · have := incr_get hp h2 hk
      have := hhi i (Nat.le_refl i) (by omega)
      omega
  · rintro ⟨h1, h2⟩
    rw [← h2]
    have : l.getD i 0 = l[i]'(by omega) := by simp [List.getD_eq_getElem?_getD, show i < l.length by omega]
    rw [this]
    exact List.getElem_mem _

theorem b_half {a : Int} : abin .shr (.int .u64 a) (.int .u64 1) = some (.int .u64 (a / 2)) := by
  have := b_shr (k := .u64) (k' := .u64) (a := a) (n := 1) (by decide)
  exact this

set_option maxHeartbeats 1000000 in
theorem bsearch_calls (H0 : AHeap) {v : AV} {l : List Int} {x : Int} (hv : Vi H0 v l) (hp : l.Pairwise (· < ·)) (hlen : l.length ≤ 100000) :
    ACalls Try.prog 67 [v, .int .i64 x] H0 (List.range H0.length) fun w H => (∃ i : Int, w = .tuple [.int .i64 i, .bool (decide (x ∈ l))]) ∧ H = H0 := by
  refine ACalls.body Try.func67 ent_bsearch ir_bsearch_ok rs_bsearch_ok Try.ntmps67 (by simp) rfl ?_
  unfold ir_bsearch
  obtain ⟨κ, q, hk, rfl, hrow⟩ := hv
  obtain ⟨n, hn⟩ : ∃ n, l.length = n := ⟨_, rfl⟩
  rw [hn] at hk hlen hrow ⊢
  have e0 : s0 [mkS κ q 0 n, .int .i64 x] 0 = mkS κ q 0 n := rfl
  have e1 : s0 [mkS κ q 0 n, .int .i64 x] 1 = .int .i64 x := rfl
  simp (disch := omega) only [sN, ↓reduceIte, Nat.reduceEqDiff, Nat.reduceAdd, Nat.reduceMul, Nat.reduceSub, reduceCtorEq, e_none, e_some, e_bindS, e0, e1, k_len hk]
  refine ⟨fun t s H => ∃ i j : Nat, t = j - i ∧ i ≤ j ∧ j ≤ n ∧ (∀ k, k < i → l.getD k 0 < x) ∧ (∀ k, j ≤ k → k < n → x ≤ l.getD k 0) ∧ H = H0 ∧ s 0 = mkS κ q 0 n ∧ s 1 = .int .i64 x ∧ s 6 = .int .i64 n ∧ s 7 = .int .i64 (i : Int) ∧ s 8 = .int .i64 (j : Int), n, ⟨0, n, rfl, by omega, by omega, fun k h => by omega, fun k h h' => by omega, rfl, ?_, ?_, ?_, ?_, ?_⟩, ?_⟩
  · simp only [e_upd, e_putS, e_putN, e_t, e_c, Nat.reduceEqDiff, ↓reduceIte, reduceCtorEq, Nat.reduceAdd, e0]
  · simp only [e_upd, e_putS, e_putN, e_t, e_c, Nat.reduceEqDiff, ↓reduceIte, reduceCtorEq, Nat.reduceAdd, e1]
  · simp only [e_upd, e_putS, e_putN, e_t, e_c, Nat.reduceEqDiff, ↓reduceIte, reduceCtorEq, Nat.reduceAdd]
  · simp only [e_upd, e_putS, e_putN, e_t, e_c, Nat.reduceEqDiff, ↓reduceIte, reduceCtorEq, Nat.reduceAdd]; rfl
  · simp only [e_upd, e_putS, e_putN, e_t, e_c, Nat.reduceEqDiff, ↓reduceIte, reduceCtorEq, Nat.reduceAdd]
  rintro t s H ⟨i, j, rfl, hij, hj, hlo, hhi, hH, h0, h1, h6, h7, h8⟩
  rw [hH]
  by_cases hlt : i < j
  · obtain ⟨row, hr, hc⟩ := hrow (by omega)
    obtain ⟨h, hh⟩ : ∃ h : Nat, h = (i + j) / 2 := ⟨_, rfl⟩
    have hg : row.cells[h]? = some (.int .i64 (l.getD h 0)) := by rw [hc]; exact ints_get (by omega)
    have ia : aindexAddr 1 (mkS κ q 0 n) (.int .i64 (h : Int)) = some (.ptr q h) := by
      rw [k_idx hk (Nat.le_refl n) (by omega) (by omega)]; simp
    have hsh : ((i : Int) + j) / 2 = (h : Int) := by omega
    obtain ⟨y, hy⟩ : ∃ y, y = l.getD h 0 := ⟨_, rfl⟩
    rw [← hy] at hg
    simp (disch := omega) only [sN, ↓reduceIte, Nat.reduceEqDiff, Nat.reduceAdd, Nat.reduceMul, Nat.reduceSub, reduceCtorEq, e_none, e_some, e_bindS, h0, h1, h6, h7, h8, b_half, hsh, ia, hr, hg, Option.bind_some, List.map_cons, List.map_nil]
    refine ⟨_, (cmpLess_calls H0 y x).g.mono ?_⟩
    rintro w H2 ⟨rfl, hH2⟩
    rw [hH2]
    by_cases hc2 : y < x
    · rw [decide_eq_true hc2]
      simp (disch := omega) only [sN, ↓reduceIte, Nat.reduceEqDiff, Nat.reduceAdd, Nat.reduceMul, Nat.reduceSub, reduceCtorEq, e_none, e_some, e_bindS, h0, h1, h6, h7, h8]
      refine loop_keep (m := j - (h + 1)) (by omega) ⟨h + 1, j, rfl, by omega, hj, fun k hk2 => ?_, hhi, rfl, ?_, ?_, ?_, ?_, ?_⟩
      · rcases Nat.lt_or_ge k h with h' | h'
        · have := incr_get hp h' (by omega); omega
        · obtain rfl : k = h := by omega
          omega
      · simp only [e_upd, e_putS, e_putN, e_t, e_c, Nat.reduceEqDiff, ↓reduceIte, reduceCtorEq, Nat.reduceAdd, h0]
      · simp only [e_upd, e_putS, e_putN, e_t, e_c, Nat.reduceEqDiff, ↓reduceIte, reduceCtorEq, Nat.reduceAdd, h1]
      · simp only [e_upd, e_putS, e_putN, e_t, e_c, Nat.reduceEqDiff, ↓reduceIte, reduceCtorEq, Nat.reduceAdd, h6]
      · simp only [e_upd, e_putS, e_putN, e_t, e_c, Nat.reduceEqDiff, ↓reduceIte, reduceCtorEq, Nat.reduceAdd]; first | done | rfl
      · simp only [e_upd, e_putS, e_putN, e_t, e_c, Nat.reduceEqDiff, ↓reduceIte, reduceCtorEq, Nat.reduceAdd, h8]
    · rw [decide_eq_false hc2]
      simp (disch := omega) only [sN, ↓reduceIte, Nat.reduceEqDiff, Nat.reduceAdd, Nat.reduceMul, Nat.reduceSub, reduceCtorEq, e_none, e_some, e_bindS, h0, h1, h6, h7, h8]
      refine loop_keep (m := h - i) (by omega) ⟨i, h, rfl, by omega, by omega, hlo, fun k hk2 hkn => ?_, rfl, ?_, ?_, ?_, ?_, ?_⟩
      · rcases Nat.lt_or_ge h k with h' | h'
        · have := incr_get hp h' (by omega); omega
        · obtain rfl : k = h := by omega
          omega
      · simp only [e_upd, e_putS, e_putN, e_t, e_c, Nat.reduceEqDiff, ↓reduceIte, reduceCtorEq, Nat.reduceAdd, h0]
      · simp only [e_upd, e_putS, e_putN, e_t, e_c, Nat.reduceEqDiff, ↓reduceIte, reduceCtorEq, Nat.reduceAdd, h1]
      · simp only [e_upd, e_putS, e_putN, e_t, e_c, Nat.reduceEqDiff, ↓reduceIte, reduceCtorEq, Nat.reduceAdd, h6]
      · simp only [e_upd, e_putS, e_putN, e_t, e_c, Nat.reduceEqDiff, ↓reduceIte, reduceCtorEq, Nat.reduceAdd, h7]
      · simp only [e_upd, e_putS, e_putN, e_t, e_c, Nat.reduceEqDiff, ↓reduceIte, reduceCtorEq, Nat.reduceAdd]
  · obtain rfl : i = j := by omega
    have hin := bs_in hp hn hj hlo hhi
    by_cases hin2 : i < n
    · obtain ⟨row, hr, hc⟩ := hrow (by omega)
      have hg : row.cells[i]? = some (.int .i64 (l.getD i 0)) := by rw [hc]; exact ints_get (by omega)
      have ia : aindexAddr 1 (mkS κ q 0 n) (.int .i64 (i : Int)) = some (.ptr q i) := by
        rw [k_idx hk (Nat.le_refl n) (by omega) (by omega)]; simp
      obtain ⟨y, hy⟩ : ∃ y, y = l.getD i 0 := ⟨_, rfl⟩
      rw [← hy] at hg hin
      by_cases hyx : y = x
      · have hm : decide (x ∈ l) = true := decide_eq_true (hin.2 ⟨hin2, hyx⟩)
        simp (disch := omega) only [sN, ↓reduceIte, Nat.reduceEqDiff, Nat.reduceAdd, Nat.reduceMul, Nat.reduceSub, reduceCtorEq, e_none, e_some, e_bindS, h0, h1, h6, h7, h8, ia, hr, hg, Option.bind_some, List.map_cons, List.map_nil]
        refine ret_keep (by simp) ?_
        rw [show rs_bsearch = [.tmp 4, .tmp 5] from rfl, q_tmp2, q_then]
        refine ⟨⟨i, ?_⟩, rfl⟩
        rw [hm]
        simp only [e_upd, e_putS, e_putN, e_t, e_c, Nat.reduceEqDiff, ↓reduceIte, reduceCtorEq, Nat.reduceAdd]
      · have hm : decide (x ∈ l) = false := decide_eq_false fun h => hyx (hin.1 h).2
        simp (disch := omega) only [sN, ↓reduceIte, Nat.reduceEqDiff, Nat.reduceAdd, Nat.reduceMul, Nat.reduceSub, reduceCtorEq, e_none, e_some, e_bindS, h0, h1, h6, h7, h8, ia, hr, hg, Option.bind_some, List.map_cons, List.map_nil]
        refine ⟨_, (isNaN_calls H0 y).g.mono ?_⟩
        rintro w H2 ⟨rfl, hH2⟩
        rw [hH2]
        simp (disch := omega) only [sN, ↓reduceIte, Nat.reduceEqDiff, Nat.reduceAdd, Nat.reduceMul, Nat.reduceSub, reduceCtorEq, e_none, e_some, e_bindS, h0, h1, h6, h7, h8]
        refine ret_keep (by simp) ?_
        rw [show rs_bsearch = [.tmp 4, .tmp 5] from rfl, q_tmp2, q_then]
        refine ⟨⟨i, ?_⟩, rfl⟩
        rw [hm]
        simp only [e_upd, e_putS, e_putN, e_t, e_c, Nat.reduceEqDiff, ↓reduceIte, reduceCtorEq, Nat.reduceAdd]
    · have hm : decide (x ∈ l) = false := decide_eq_false fun h => hin2 (hin.1 h).1
      simp (disch := omega) only [sN, ↓reduceIte, Nat.reduceEqDiff, Nat.reduceAdd, Nat.reduceMul, Nat.reduceSub, reduceCtorEq, e_none, e_some, e_bindS, h0, h1, h6, h7, h8]
      refine ret_keep (by simp) ?_
      rw [show rs_bsearch = [.tmp 4, .tmp 5] from rfl, q_tmp2, q_then]
      refine ⟨⟨i, ?_⟩, rfl⟩
      rw [hm]
      simp only [e_upd, e_putS, e_putN, e_t, e_c, Nat.reduceEqDiff, ↓reduceIte, reduceCtorEq, Nat.reduceAdd]
end Go.Proofs.Ythbhljolpnbdlaa

