/- Contracts: the reference's digits. -/
import Derived.Test.YtjmceapnhmeflaaDoorV7
import Derived.Test.YtjmceapnhmeflaaDoorCE
set_option linter.unusedSimpArgs false
set_option linter.unusedVariables false
namespace Go.Proofs.YtjmceapnhmeflaaDoor
open Go Go.Vh

theorem n_mkS0 {κ : SK} {σ : Sig} {r off n r' : Nat} (h : σ r = some (r', 0)) : AV.ren σ (mkS κ r off n) = mkS κ r' off n := by rw [n_mkS h, Nat.zero_add]

def dig4 (x : Int) : List Int := [x % 256, x / 256 % 256, x / 65536 % 256, x / 16777216]
def digs (l : List Int) : List Int := l.flatMap dig4
theorem digs_take {l : List Int} {k : Nat} (h : k < l.length) : digs (l.take (k + 1)) = digs (l.take k) ++ dig4 (l.getD k 0) := by
  simp only [digs]
  rw [List.take_add_one, List.flatMap_append]
  simp [h]
theorem digs_length (l : List Int) : (digs l).length = 4 * l.length := by
  induction l with
  | nil => rfl
  | cons x l ih => simp only [digs, List.flatMap_cons, List.length_append, List.length_cons] at ih ⊢; rw [ih]; simp [dig4]; omega

/-- where the digits stand -/
def digH (l : List Int) : AHeap := if l = [] then [ro (ints .u32 l)] else [ro (ints .u32 l), sl (ints .i64 (digs l))]
def digK (l : List Int) : SK := if l = [] then .nil else .u

theorem rdigits_calls (κ : SK) (l : List Int) (hk : okS κ l.length) (hm : l.length ≤ 1000000) (hr : ∀ i, 0 ≤ l.getD i 0 ∧ l.getD i 0 ≤ 4294967295) : ACalls Tryd.prog 64 [mkS κ 0 0 l.length] [ro (ints .u32 l)] [0] fun v H =>
    v = mkS (digK l) 1 0 (tz (digs l) (4 * l.length)) ∧ H = digH l := by
  refine ACalls.body Tryd.func64 ent_rdigits ir_rdigits_ok rs_rdigits_ok Tryd.ntmps64 (by simp) rfl ?_
  unfold ir_rdigits
  have e0 : s0 [mkS κ 0 0 l.length] 0 = mkS κ 0 0 l.length := rfl
  simp (disch := omega) only [sS, ↓reduceIte, Nat.reduceEqDiff, Nat.reduceAdd, Nat.reduceMul, Nat.reduceSub, reduceCtorEq, e_none, e_some, e_bindS, e0]
  refine ⟨fun n s H => ∃ k : Nat, k ≤ l.length ∧ n = l.length - k ∧ s 0 = mkS κ 0 0 l.length ∧ s 4 = .int .i64 k ∧ s 3 = mkS (digK (l.take k)) 1 0 (4 * k) ∧ (k ≠ 0 → H = [ro (ints .u32 l), sl (ints .i64 (digs (l.take k)))]) ∧ (k = 0 → H = [ro (ints .u32 l)]), l.length, ⟨0, by omega, rfl, rfl, rfl, rfl, fun h => (h rfl).elim, fun _ => rfl⟩, ?_⟩
  rintro n s H ⟨k, hk1, rfl, h0, h4, h3, hH, hH0⟩
  by_cases hlt : k < l.length
  · have hx := hr k
    have hne : l.take (k + 1) ≠ [] := by simp; intro h; subst h; simp at hlt
    rcases Nat.eq_zero_or_pos k with rfl | hp
    · have hH := hH0 rfl
      subst hH
      have h3' : s 3 = .nilslice := h3
      have h4' : s 4 = .int .i64 0 := h4
      simp (disch := omega) only [sS, ↓reduceIte, Nat.reduceEqDiff, Nat.reduceAdd, Nat.reduceMul, Nat.reduceSub, reduceCtorEq, e_none, e_some, e_bindS, h0, h4', k_len hk, k_idx hk, b_rem, b_quo, Int.toNat_zero]
      rw [x_bs4 (v1 := .int .i64 (l.getD 0 0 % 256)) (v2 := .int .i64 (l.getD 0 0 / 256 % 256)) (v3 := .int .i64 (l.getD 0 0 / 65536 % 256)) (v4 := .int .i64 (l.getD 0 0 / 16777216))
        (by simp only [e_t, e_upd, Nat.reduceEqDiff, ↓reduceIte]) (by simp only [e_t, e_upd, Nat.reduceEqDiff, ↓reduceIte]) (by simp only [e_t, e_upd, Nat.reduceEqDiff, ↓reduceIte]) (by simp only [e_t, e_upd, Nat.reduceEqDiff, ↓reduceIte]) rfl rfl rfl rfl]
      simp (disch := omega) only [sS, ↓reduceIte, Nat.reduceEqDiff, Nat.reduceAdd, Nat.reduceMul, Nat.reduceSub, reduceCtorEq, e_none, e_some, e_bindS]
      rw [x_appN (r := 1) (m := 4) (c := 4) (row := ⟨true, false, ints .i64 (dig4 (l.getD 0 0))⟩) (xs := ints .i64 (dig4 (l.getD 0 0))) (by simp only [e_t, e_upd, Nat.reduceEqDiff, ↓reduceIte, h3']) (by simp only [e_t, e_upd, Nat.reduceEqDiff, ↓reduceIte]; rfl) rfl rfl (by simp [dig4, ints]) (by decide) rfl]
      simp (disch := omega) only [sS, ↓reduceIte, Nat.reduceEqDiff, Nat.reduceAdd, Nat.reduceMul, Nat.reduceSub, reduceCtorEq, e_none, e_some, e_bindS, h4']
      refine loop_gc [0, 2] ?_ ?_ (show l.length - 1 < l.length - 0 by omega) ?_
      · rfl
      · simp [gcH, Vh.rowAt, sl, ro, ints_ren, ints_cell]
      refine ⟨1, by omega, rfl, gc_at ?_ (n_mkS0 (κ := κ) (r := 0) (off := 0) (n := l.length) (r' := 0) rfl), gc_at ?_ (n_int (k := .i64) (n := ((1 : Nat) : Int))), ?_, fun _ => ?_, fun h => by omega⟩
      · simp only [e_upd, Nat.reduceEqDiff, ↓reduceIte, h0]
      · simp (disch := omega) only [e_upd, Nat.reduceEqDiff, ↓reduceIte, h4, w64]; rfl
      · rw [digK, if_neg hne]
        refine gc_at ?_ (n_mkS0 (κ := .u) (r := 2) (off := 0) (n := 4 * 1) (r' := 1) rfl)
        simp only [e_upd, Nat.reduceEqDiff, ↓reduceIte]
        rfl
      · have := digs_take (l := l) (k := 0) (by omega)
        simp only [Nat.zero_add, List.take_zero] at this
        rw [this]
        simp [gcH, Vh.rowAt, sl, ro, ints_ren, digs]
    · have hH := hH (by omega)
      subst hH
      have hne' : l.take k ≠ [] := List.ne_nil_of_length_pos (by rw [List.length_take]; omega)
      have h3' : s 3 = .sliceU 1 0 (4 * k) 1 := by rw [h3, digK, if_neg hne']; rfl
      have hdl : (digs (l.take k)).length = 4 * k := by rw [digs_length, List.length_take]; omega
      simp (disch := omega) only [sS, ↓reduceIte, Nat.reduceEqDiff, Nat.reduceAdd, Nat.reduceMul, Nat.reduceSub, reduceCtorEq, e_none, e_some, e_bindS, h0, h4, k_len hk, k_idx hk, b_rem, b_quo]
      rw [x_bs4 (v1 := .int .i64 (l.getD k 0 % 256)) (v2 := .int .i64 (l.getD k 0 / 256 % 256)) (v3 := .int .i64 (l.getD k 0 / 65536 % 256)) (v4 := .int .i64 (l.getD k 0 / 16777216))
        (by simp only [e_t, e_upd, Nat.reduceEqDiff, ↓reduceIte]) (by simp only [e_t, e_upd, Nat.reduceEqDiff, ↓reduceIte]) (by simp only [e_t, e_upd, Nat.reduceEqDiff, ↓reduceIte]) (by simp only [e_t, e_upd, Nat.reduceEqDiff, ↓reduceIte]) rfl rfl rfl rfl]
      simp (disch := omega) only [sS, ↓reduceIte, Nat.reduceEqDiff, Nat.reduceAdd, Nat.reduceMul, Nat.reduceSub, reduceCtorEq, e_none, e_some, e_bindS]
      rw [x_appU (q := 1) (n := 4 * k) (old := ints .i64 (digs (l.take k))) (r := 2) (m := 4) (c := 4) (row := ⟨true, false, ints .i64 (dig4 (l.getD k 0))⟩) (xs := ints .i64 (dig4 (l.getD k 0))) (by simp only [e_t, e_upd, Nat.reduceEqDiff, ↓reduceIte, h3']) (by simp only [e_t, e_upd, Nat.reduceEqDiff, ↓reduceIte]; rfl) rfl (by rw [ints_length, hdl]) rfl rfl (by simp [dig4, ints]) (by omega) rfl]
      simp (disch := omega) only [sS, ↓reduceIte, Nat.reduceEqDiff, Nat.reduceAdd, Nat.reduceMul, Nat.reduceSub, reduceCtorEq, e_none, e_some, e_bindS, h4]
      refine loop_gc [0, 3] ?_ ?_ (show l.length - (k + 1) < l.length - k by omega) ?_
      · rfl
      · simp [gcH, Vh.rowAt, sl, ro, ints_ren, ints_cell, ints_append]
      refine ⟨k + 1, by omega, rfl, gc_at ?_ (n_mkS0 (κ := κ) (r := 0) (off := 0) (n := l.length) (r' := 0) rfl), gc_at ?_ (n_int (k := .i64) (n := ((k + 1 : Nat) : Int))), ?_, fun _ => ?_, fun h => by omega⟩
      · simp only [e_upd, Nat.reduceEqDiff, ↓reduceIte, h0]
      · simp (disch := omega) only [e_upd, Nat.reduceEqDiff, ↓reduceIte, h4, w64]; simp
      · rw [digK, if_neg hne]
        refine gc_at ?_ (n_mkS0 (κ := .u) (r := 3) (off := 0) (n := 4 * (k + 1)) (r' := 1) rfl)
        simp only [e_upd, Nat.reduceEqDiff, ↓reduceIte]
        rfl
      · rw [digs_take hlt]
        simp [gcH, Vh.rowAt, sl, ro, ints_ren, ints_append]
  · obtain rfl : k = l.length := by omega
    simp (disch := omega) only [sS, ↓reduceIte, Nat.reduceEqDiff, Nat.reduceAdd, Nat.reduceMul, Nat.reduceSub, reduceCtorEq, e_none, e_some, e_bindS, h0, h4, h3, k_len hk]
    rw [List.take_length] at h3 hH
    by_cases hl : l = []
    · subst hl
      have hH := hH0 rfl
      subst hH
      refine call_ints (r := 0) (row := ⟨false, false, []⟩) (rtrim_calls .nil [] rfl (by simp)) rfl rfl rfl rfl ?_
      rintro v0 H0' ⟨rfl, rfl⟩
      simp (disch := omega) only [sS, ↓reduceIte, Nat.reduceEqDiff, Nat.reduceAdd, Nat.reduceMul, Nat.reduceSub, reduceCtorEq, e_none, e_some, e_bindS]
      refine ret_keep (by simp) ⟨?_, rfl⟩
      simp only [e_upd, ↓reduceIte]
      rfl
    · have hp : l.length ≠ 0 := by simpa using hl
      have hH := hH hp
      subst hH
      have hdl := digs_length l
      have := rtrim_calls .u (digs l) okS_u (by omega)
      rw [hdl] at this
      refine call_ints (r := 1) (row := ⟨true, true, ints .i64 (digs l)⟩) this rfl rfl (by rw [← ints_length (k := .i64) (l := digs l), List.take_length]) (by rw [List.take_length, digK, if_neg hl]; rfl) ?_
      rintro v0 H0' ⟨rfl, rfl⟩
      simp (disch := omega) only [sS, ↓reduceIte, Nat.reduceEqDiff, Nat.reduceAdd, Nat.reduceMul, Nat.reduceSub, reduceCtorEq, e_none, e_some, e_bindS]
      refine ret_keep (by simp) ⟨?_, ?_⟩
      · simp only [e_upd, ↓reduceIte]
        rw [digK, if_neg hl, n_mkS (r' := 1) (d := 0) rfl]
      · rw [digH, if_neg hl]; rfl
end Go.Proofs.YtjmceapnhmeflaaDoor


/- Contracts: the reference's numbers out of digits. -/
namespace Go.Proofs.YtjmceapnhmeflaaDoor
open Go Go.Vh

/-- the digits b + 3, b + 2 .. of one limb, the first m of them -/
def pv (d : List Int) (b : Nat) : Nat → Int
  | 0 => 0
  | m + 1 => pv d b m * 256 + d.getD (b + (3 - m)) 0
theorem pv_bound {d : List Int} (hr : ∀ i, 0 ≤ d.getD i 0 ∧ d.getD i 0 ≤ 255) (b : Nat) : ∀ m, 0 ≤ pv d b m ∧ pv d b m < 256 ^ m
  | 0 => by simp [pv]
  | m + 1 => by
    have := pv_bound hr b m
    have h := hr (b + (3 - m))
    rw [Int.pow_succ]
    simp only [pv]
    generalize (256 : Int) ^ m = q at *
    omega
theorem pv_small {d : List Int} (hr : ∀ i, 0 ≤ d.getD i 0 ∧ d.getD i 0 ≤ 255) (b m : Nat) (hm : m ≤ 4) : 0 ≤ pv d b m ∧ pv d b m ≤ 4294967295 := by
  have := pv_bound hr b m
  have h2 : (256 : Int) ^ m ≤ 256 ^ 4 := by
    rcases (show m = 0 ∨ m = 1 ∨ m = 2 ∨ m = 3 ∨ m = 4 by omega) with rfl | rfl | rfl | rfl | rfl <;> decide
  have h3 : (256 : Int) ^ 4 = 4294967296 := by decide
  omega

def natL (d : List Int) (m : Nat) : List Int := (List.range m).map fun k => pv d (4 * k) 4
theorem natL_succ (d : List Int) (m : Nat) : natL d (m + 1) = natL d m ++ [pv d (4 * m) 4] := by simp [natL, List.range_succ]
theorem natL_length (d : List Int) (m : Nat) : (natL d m).length = m := by simp [natL]

def upK (k : Nat) : SK := if k = 0 then .nil else .u

theorem rnat_calls (κ : SK) (d : List Int) (hk : okS κ d.length) (hm : d.length ≤ 1000000) (hr : ∀ i, 0 ≤ d.getD i 0 ∧ d.getD i 0 ≤ 255) : ACalls Tryd.prog 62 [mkS κ 0 0 d.length] [ro (ints .i64 d)] [0] fun v H =>
    v = mkS (upK ((d.length + 3) / 4)) 1 0 ((d.length + 3) / 4) ∧ H = if (d.length + 3) / 4 = 0 then [ro (ints .i64 d)] else [ro (ints .i64 d), sl (ints .u32 (natL d ((d.length + 3) / 4)))] := by
  refine ACalls.body Tryd.func62 ent_rnat ir_rnat_ok rs_rnat_ok Tryd.ntmps62 (by simp) rfl ?_
  unfold ir_rnat
  have e0 : s0 [mkS κ 0 0 d.length] 0 = mkS κ 0 0 d.length := rfl
  simp (disch := omega) only [sS, ↓reduceIte, Nat.reduceEqDiff, Nat.reduceAdd, Nat.reduceMul, Nat.reduceSub, reduceCtorEq, e_none, e_some, e_bindS, e0]
  refine ⟨fun n s H => ∃ k : Nat, k ≤ (d.length + 3) / 4 ∧ n = (d.length + 3) / 4 - k ∧ s 0 = mkS κ 0 0 d.length ∧ s 4 = .int .i64 (4 * k : Nat) ∧ s 3 = mkS (upK k) 1 0 k ∧ H = (if k = 0 then [ro (ints .i64 d)] else [ro (ints .i64 d), sl (ints .u32 (natL d k))]), (d.length + 3) / 4, ⟨0, by omega, rfl, rfl, rfl, rfl, rfl⟩, ?_⟩
  rintro n s H ⟨k, hk1, rfl, h0, h4, h3, hH⟩
  by_cases hlt : 4 * k < d.length
  · simp (disch := omega) only [sS, ↓reduceIte, Nat.reduceEqDiff, Nat.reduceAdd, Nat.reduceMul, Nat.reduceSub, reduceCtorEq, e_none, e_some, e_bindS, h0, h4, k_len hk]
    refine ⟨fun n s H' => ∃ m : Nat, m ≤ 4 ∧ n = 4 - m ∧ s 0 = mkS κ 0 0 d.length ∧ s 4 = .int .i64 (4 * k : Nat) ∧ s 3 = mkS (upK k) 1 0 k ∧ s 5 = .int .i64 (pv d (4 * k) m) ∧ s 6 = .int .i64 (3 - m) ∧ H' = H, 4, ⟨0, by omega, rfl, ?_, ?_, ?_, ?_, ?_, rfl⟩, ?_⟩
    · simp only [e_upd, Nat.reduceEqDiff, ↓reduceIte, h0]
    · simp only [e_upd, Nat.reduceEqDiff, ↓reduceIte, h4]
    · simp only [e_upd, Nat.reduceEqDiff, ↓reduceIte, h3]
    · simp only [e_upd, Nat.reduceEqDiff, ↓reduceIte]; rfl
    · simp only [e_upd, Nat.reduceEqDiff, ↓reduceIte]; rfl
    clear h0 h4 h3 s
    rintro n s H' ⟨m, hm4, rfl, h0, h4, h3, h5, h6, rfl⟩
    have hb := pv_small hr (4 * k) m hm4
    by_cases hm3 : m ≤ 3
    · have hb1 := pv_small hr (4 * k) (m + 1) (by omega)
      have hrow : ∃ rest, H' = ro (ints .i64 d) :: rest := by rw [hH]; split <;> exact ⟨_, rfl⟩
      obtain ⟨rest, hrest⟩ := hrow
      by_cases hd : 4 * k + (3 - m) < d.length
      · have hrd := hr (4 * k + (3 - m))
        have hidx : ((4 * k : Nat) : Int) + (3 - (m : Int)) = ((4 * k + (3 - m) : Nat) : Int) := by omega
        simp (disch := omega) only [sS, ↓reduceIte, Nat.reduceEqDiff, Nat.reduceAdd, Nat.reduceMul, Nat.reduceSub, reduceCtorEq, e_none, e_some, e_bindS, h0, h4, h5, h6, k_len hk, k_idx hk, hidx, hrest]
        refine loop_keep (m := 4 - (m + 1)) (by omega) ⟨m + 1, by omega, rfl, ?_, ?_, ?_, ?_, ?_, ?_⟩
        · simp only [e_upd, Nat.reduceEqDiff, ↓reduceIte, h0]
        · simp only [e_upd, Nat.reduceEqDiff, ↓reduceIte, h4]
        · simp only [e_upd, Nat.reduceEqDiff, ↓reduceIte, h3]
        · simp (disch := omega) only [e_upd, Nat.reduceEqDiff, ↓reduceIte, pv]
        · simp (disch := omega) only [e_upd, Nat.reduceEqDiff, ↓reduceIte, h6, w64, AV.int.injEq]; simp; omega
        · rfl
      · have hz : d.getD (4 * k + (3 - m)) 0 = 0 := by rw [List.getD_eq_getElem?_getD, List.getElem?_eq_none (by omega)]; rfl
        have hidx : ((4 * k : Nat) : Int) + (3 - (m : Int)) = ((4 * k + (3 - m) : Nat) : Int) := by omega
        have hpv : pv d (4 * k) (m + 1) = pv d (4 * k) m * 256 := by rw [pv, hz, Int.add_zero]
        simp (disch := omega) only [sS, ↓reduceIte, Nat.reduceEqDiff, Nat.reduceAdd, Nat.reduceMul, Nat.reduceSub, reduceCtorEq, e_none, e_some, e_bindS, h0, h4, h5, h6, k_len hk, k_idx hk, hidx]
        refine loop_keep (m := 4 - (m + 1)) (by omega) ⟨m + 1, by omega, rfl, ?_, ?_, ?_, ?_, ?_, rfl⟩
        · simp only [e_upd, Nat.reduceEqDiff, ↓reduceIte, h0]
        · simp only [e_upd, Nat.reduceEqDiff, ↓reduceIte, h4]
        · simp only [e_upd, Nat.reduceEqDiff, ↓reduceIte, h3]
        · simp (disch := omega) only [e_upd, Nat.reduceEqDiff, ↓reduceIte, hpv]
        · simp (disch := omega) only [e_upd, Nat.reduceEqDiff, ↓reduceIte, h6, w64, AV.int.injEq]; simp; omega
    · obtain rfl : m = 4 := by omega
      have h6' : s 6 = .int .i64 (-1) := h6
      simp (disch := omega) only [sS, ↓reduceIte, Nat.reduceEqDiff, Nat.reduceAdd, Nat.reduceMul, Nat.reduceSub, reduceCtorEq, e_none, e_some, e_bindS, h0, h4, h5, h6']
      rw [x_bs1 (v := .int .u32 (pv d (4 * k) 4)) (by simp only [e_t, e_upd, Nat.reduceEqDiff, ↓reduceIte]) rfl]
      simp (disch := omega) only [sS, ↓reduceIte, Nat.reduceEqDiff, Nat.reduceAdd, Nat.reduceMul, Nat.reduceSub, reduceCtorEq, e_none, e_some, e_bindS]
      rcases Nat.eq_zero_or_pos k with rfl | hp
      · rw [if_pos rfl] at hH; subst hH
        have h3' : s 3 = .nilslice := h3
        rw [x_appN (r := 1) (m := 1) (c := 1) (row := ⟨true, false, ints .u32 [pv d (4 * 0) 4]⟩) (xs := ints .u32 [pv d (4 * 0) 4]) (by simp only [e_t, e_upd, Nat.reduceEqDiff, ↓reduceIte, h3']) (by simp only [e_t, e_upd, Nat.reduceEqDiff, ↓reduceIte]; rfl) rfl rfl (by simp [ints]) (by decide) rfl]
        simp (disch := omega) only [sS, ↓reduceIte, Nat.reduceEqDiff, Nat.reduceAdd, Nat.reduceMul, Nat.reduceSub, reduceCtorEq, e_none, e_some, e_bindS, h4]
        refine loop_gc [0, 2] ?_ ?_ (show (d.length + 3) / 4 - 1 < (d.length + 3) / 4 - 0 by omega) ?_
        · rfl
        · simp [gcH, Vh.rowAt, sl, ro, ints_ren, ints_cell]
        refine ⟨1, by omega, rfl, gc_at ?_ (n_mkS0 (κ := κ) (r := 0) (off := 0) (n := d.length) (r' := 0) rfl), gc_at ?_ (n_int (k := .i64) (n := ((4 * 1 : Nat) : Int))), gc_at ?_ (n_mkS0 (κ := .u) (r := 2) (off := 0) (n := 1) (r' := 1) rfl), ?_⟩
        · simp only [e_upd, Nat.reduceEqDiff, ↓reduceIte, h0]
        · simp (disch := omega) only [e_upd, Nat.reduceEqDiff, ↓reduceIte, h4, w64]; rfl
        · simp only [e_upd, Nat.reduceEqDiff, ↓reduceIte]; rfl
        · rw [if_neg (by omega)]
          simp [gcH, Vh.rowAt, sl, ro, ints_ren, natL]
      · rw [if_neg (by omega)] at hH; subst hH
        have h3' : s 3 = .sliceU 1 0 k 1 := by rw [h3, upK, if_neg (by omega)]; rfl
        rw [x_appU (q := 1) (n := k) (old := ints .u32 (natL d k)) (r := 2) (m := 1) (c := 1) (row := ⟨true, false, ints .u32 [pv d (4 * k) 4]⟩) (xs := ints .u32 [pv d (4 * k) 4]) (by simp only [e_t, e_upd, Nat.reduceEqDiff, ↓reduceIte, h3']) (by simp only [e_t, e_upd, Nat.reduceEqDiff, ↓reduceIte]; rfl) rfl (by rw [ints_length, natL_length]) rfl rfl (by simp [ints]) (by omega) rfl]
        simp (disch := omega) only [sS, ↓reduceIte, Nat.reduceEqDiff, Nat.reduceAdd, Nat.reduceMul, Nat.reduceSub, reduceCtorEq, e_none, e_some, e_bindS, h4]
        refine loop_gc [0, 3] ?_ ?_ (show (d.length + 3) / 4 - (k + 1) < (d.length + 3) / 4 - k by omega) ?_
        · rfl
        · simp [gcH, Vh.rowAt, sl, ro, ints_ren, ints_cell, ints_append]
        refine ⟨k + 1, by omega, rfl, gc_at ?_ (n_mkS0 (κ := κ) (r := 0) (off := 0) (n := d.length) (r' := 0) rfl), gc_at ?_ (n_int (k := .i64) (n := ((4 * (k + 1) : Nat) : Int))), ?_, ?_⟩
        · simp only [e_upd, Nat.reduceEqDiff, ↓reduceIte, h0]
        · simp (disch := omega) only [e_upd, Nat.reduceEqDiff, ↓reduceIte, h4, w64]; simp; omega
        · rw [upK, if_neg (by omega)]
          refine gc_at ?_ (n_mkS0 (κ := .u) (r := 3) (off := 0) (n := k + 1) (r' := 1) rfl)
          simp only [e_upd, Nat.reduceEqDiff, ↓reduceIte]; rfl
        · rw [if_neg (by omega), natL_succ]
          simp [gcH, Vh.rowAt, sl, ro, ints_ren, ints_append]
  · obtain rfl : k = (d.length + 3) / 4 := by omega
    simp (disch := omega) only [sS, ↓reduceIte, Nat.reduceEqDiff, Nat.reduceAdd, Nat.reduceMul, Nat.reduceSub, reduceCtorEq, e_none, e_some, e_bindS, h0, h4, k_len hk]
    subst hH
    refine ret_keep ?_ ⟨?_, rfl⟩
    · split <;> simp
    · simp only [e_upd, Nat.reduceEqDiff, ↓reduceIte, h3]
end Go.Proofs.YtjmceapnhmeflaaDoor


/- The reference's Of: what it computes. -/
namespace Go.Proofs.YtjmceapnhmeflaaDoor
open Go Go.Vh

theorem tz_zero (l : List Int) : ∀ n i, tz l n ≤ i → i < n → l.getD i 0 = 0
  | 0, i, _, h => by omega
  | n + 1, i, h1, h2 => by
    unfold tz at h1
    split at h1
    · rename_i hz
      rcases Nat.lt_or_ge i n with h | h
      · exact tz_zero l n i h1 h
      · obtain rfl : i = n := by omega
        exact hz
    · omega
theorem tz_last (l : List Int) : ∀ n, tz l n ≠ 0 → l.getD (tz l n - 1) 0 ≠ 0
  | 0, h => (h rfl).elim
  | n + 1, h => by
    unfold tz at h ⊢
    split
    · rename_i hz; rw [if_pos hz] at h; exact tz_last l n h
    · rename_i hz; simpa using hz
theorem tz_uniq (l : List Int) (n m : Nat) (h1 : m ≤ n) (h2 : m ≠ 0 → l.getD (m - 1) 0 ≠ 0) (h3 : ∀ i, m ≤ i → i < n → l.getD i 0 = 0) : tz l n = m := by
  rcases Nat.lt_trichotomy (tz l n) m with h | h | h
  · exact (h2 (by omega) (tz_zero l n (m - 1) (by omega) (by omega))).elim
  · exact h
  · exact (tz_last l n (by omega) (h3 _ (by omega) (by have := tz_le l n; omega))).elim
theorem getD_take (l : List Int) (n m i : Nat) (h : ∀ j, m ≤ j → j < n → l.getD j 0 = 0) (hn : l.length ≤ n) : (l.take m).getD i 0 = l.getD i 0 := by
  rcases Nat.lt_or_ge i m with h1 | h1
  · simp [List.getD_eq_getElem?_getD, List.getElem?_take, h1]
  · have e1 : (l.take m).getD i 0 = 0 := by
      rw [List.getD_eq_getElem?_getD, List.getElem?_eq_none (by rw [List.length_take]; omega)]; rfl
    rw [e1]
    rcases Nat.lt_or_ge i n with h2 | h2
    · exact (h i h1 h2).symm
    · rw [List.getD_eq_getElem?_getD, List.getElem?_eq_none (by omega)]; rfl

end Go.Proofs.YtjmceapnhmeflaaDoor

