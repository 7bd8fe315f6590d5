/- Contracts: the reference's digits. -/
import Derived.Test.YtpkeneadkiabiaaDoorV7
import Derived.Test.YtpkeneadkiabiaaDoorC3
set_option linter.unusedSimpArgs false
set_option linter.unusedVariables false
namespace Go.Proofs.YtpkeneadkiabiaaDoor
open Go Go.Vh

theorem n_mkS0 {κ : SK} {σ : Sig} {r off n r' : Nat} (h : σ r = some (r', 0)) : AV.ren σ (mkS κ r off n) = mkS κ r' off n := by rw [n_mkS h, Nat.zero_add]

def dig4 (x : Int) : List Int := [x % 256, x / 256 % 256, x / 65536 % 256, x / 16777216]
def digs (l : List Int) : List Int := l.flatMap dig4
theorem digs_take {l : List Int} {k : Nat} (h : k < l.length) : digs (l.take (k + 1)) = digs (l.take k) ++ dig4 (l.getD k 0) := by
  simp only [digs]
  rw [List.take_add_one, List.flatMap_append]
  simp [h]
theorem digs_length (l : List Int) : (digs l).length = 4 * l.length := by
  induction l with
  | nil => rfl
  | cons x l ih => simp only [digs, List.flatMap_cons, List.length_append, List.length_cons] at ih ⊢; rw [ih]; simp [dig4]; omega

/-- where the digits stand -/
def digH (l : List Int) : AHeap := if l = [] then [ro (ints .u32 l)] else [ro (ints .u32 l), sl (ints .i64 (digs l))]
def digK (l : List Int) : SK := if l = [] then .nil else .u

theorem rdigits_calls (κ : SK) (l : List Int) (hk : okS κ l.length) (hm : l.length ≤ 1000000) (hr : ∀ i, 0 ≤ l.getD i 0 ∧ l.getD i 0 ≤ 4294967295) : ACalls Tryd.prog 64 [mkS κ 0 0 l.length] [ro (ints .u32 l)] [0] fun v H =>
    v = mkS (digK l) 1 0 (tz (digs l) (4 * l.length)) ∧ H = digH l := by
  refine ACalls.body Tryd.func64 ent_rdigits ir_rdigits_ok rs_rdigits_ok Tryd.ntmps64 (by simp) rfl ?_
  unfold ir_rdigits
  have e0 : s0 [mkS κ 0 0 l.length] 0 = mkS κ 0 0 l.length := rfl
  simp (disch := omega) only [sS, ↓reduceIte, Nat.reduceEqDiff, Nat.reduceAdd, Nat.reduceMul, Nat.reduceSub, reduceCtorEq, e_none, e_some, e_bindS, e0]
  refine ⟨fun n s H => ∃ k : Nat, k ≤ l.length ∧ n = l.length - k ∧ s 0 = mkS κ 0 0 l.length ∧ s 4 = .int .i64 k ∧ s 3 = mkS (digK (l.take k)) 1 0 (4 * k) ∧ (k ≠ 0 → H = [ro (ints .u32 l), sl (ints .i64 (digs (l.take k)))]) ∧ (k = 0 → H = [ro (ints .u32 l)]), l.length, ⟨0, by omega, rfl, rfl, rfl, rfl, fun h => (h rfl).elim, fun _ => rfl⟩, ?_⟩
  rintro n s H ⟨k, hk1, rfl, h0, h4, h3, hH, hH0⟩
  by_cases hlt : k < l.length
  · have hx := hr k
    have hne : l.take (k + 1) ≠ [] := by simp; intro h; subst h; simp at hlt
    rcases Nat.eq_zero_or_pos k with rfl | hp
    · have hH := hH0 rfl
      subst hH
      have h3' : s 3 = .nilslice := h3
      have h4' : s 4 = .int .i64 0 := h4
      simp (disch := omega) only [sS, ↓reduceIte, Nat.reduceEqDiff, Nat.reduceAdd, Nat.reduceMul, Nat.reduceSub, reduceCtorEq, e_none, e_some, e_bindS, h0, h4', k_len hk, k_idx hk, b_rem, b_quo, Int.toNat_zero]
      rw [x_bs4 (v1 := .int .i64 (l.getD 0 0 % 256)) (v2 := .int .i64 (l.getD 0 0 / 256 % 256)) (v3 := .int .i64 (l.getD 0 0 / 65536 % 256)) (v4 := .int .i64 (l.getD 0 0 / 16777216))
        (by simp only [e_t, e_upd, Nat.reduceEqDiff, ↓reduceIte]) (by simp only [e_t, e_upd, Nat.reduceEqDiff, ↓reduceIte]) (by simp only [e_t, e_upd, Nat.reduceEqDiff, ↓reduceIte]) (by simp only [e_t, e_upd, Nat.reduceEqDiff, ↓reduceIte]) rfl rfl rfl rfl]
      simp (disch := omega) only [sS, ↓reduceIte, Nat.reduceEqDiff, Nat.reduceAdd, Nat.reduceMul, Nat.reduceSub, reduceCtorEq, e_none, e_some, e_bindS]
      rw [x_appN (r := 1) (m := 4) (c := 4) (row := ⟨true, false, ints .i64 (dig4 (l.getD 0 0))⟩) (xs := ints .i64 (dig4 (l.getD 0 0))) (by simp only [e_t, e_upd, Nat.reduceEqDiff, ↓reduceIte, h3']) (by simp only [e_t, e_upd, Nat.reduceEqDiff, ↓reduceIte]; rfl) rfl rfl (by simp [dig4, ints]) (by decide) rfl]
      simp (disch := omega) only [sS, ↓reduceIte, Nat.reduceEqDiff, Nat.reduceAdd, Nat.reduceMul, Nat.reduceSub, reduceCtorEq, e_none, e_some, e_bindS, h4']
      refine loop_gc [0, 2] ?_ ?_ (show l.length - 1 < l.length - 0 by omega) ?_
      · rfl
      · simp [gcH, Vh.rowAt, sl, ro, ints_ren, ints_cell]
      refine ⟨1, by omega, rfl, gc_at ?_ (n_mkS0 (κ := κ) (r := 0) (off := 0) (n := l.length) (r' := 0) rfl), gc_at ?_ (n_int (k := .i64) (n := ((1 : Nat) : Int))), ?_, fun _ => ?_, fun h => by omega⟩
      · simp only [e_upd, Nat.reduceEqDiff, ↓reduceIte, h0]
      · simp (disch := omega) only [e_upd, Nat.reduceEqDiff, ↓reduceIte, h4, w64]; rfl
      · rw [digK, if_neg hne]
        refine gc_at ?_ (n_mkS0 (κ := .u) (r := 2) (off := 0) (n := 4 * 1) (r' := 1) rfl)
        simp only [e_upd, Nat.reduceEqDiff, ↓reduceIte]
        rfl
      · have := digs_take (l := l) (k := 0) (by omega)
        simp only [Nat.zero_add, List.take_zero] at this
        rw [this]
        simp [gcH, Vh.rowAt, sl, ro, ints_ren, digs]
    · have hH := hH (by omega)
      subst hH
      have hne' : l.take k ≠ [] := List.ne_nil_of_length_pos (by rw [List.length_take]; omega)
      have h3' : s 3 = .sliceU 1 0 (4 * k) 1 := by rw [h3, digK, if_neg hne']; rfl
      have hdl : (digs (l.take k)).length = 4 * k := by rw [digs_length, List.length_take]; omega
      simp (disch := omega) only [sS, ↓reduceIte, Nat.reduceEqDiff, Nat.reduceAdd, Nat.reduceMul, Nat.reduceSub, reduceCtorEq, e_none, e_some, e_bindS, h0, h4, k_len hk, k_idx hk, b_rem, b_quo]
      rw [x_bs4 (v1 := .int .i64 (l.getD k 0 % 256)) (v2 := .int .i64 (l.getD k 0 / 256 % 256)) (v3 := .int .i64 (l.getD k 0 / 65536 % 256)) (v4 := .int .i64 (l.getD k 0 / 16777216))
        (by simp only [e_t, e_upd, Nat.reduceEqDiff, ↓reduceIte]) (by simp only [e_t, e_upd, Nat.reduceEqDiff, ↓reduceIte]) (by simp only [e_t, e_upd, Nat.reduceEqDiff, ↓reduceIte]) (by simp only [e_t, e_upd, Nat.reduceEqDiff, ↓reduceIte]) rfl rfl rfl rfl]
      simp (disch := omega) only [sS, ↓reduceIte, Nat.reduceEqDiff, Nat.reduceAdd, Nat.reduceMul, Nat.reduceSub, reduceCtorEq, e_none, e_some, e_bindS]
      rw [x_appU (q := 1) (n := 4 * k) (old := ints .i64 (digs (l.take k))) (r := 2) (m := 4) (c := 4) (row := ⟨true, false, ints .i64 (dig4 (l.getD k 0))⟩) (xs := ints .i64 (dig4 (l.getD k 0))) (by simp only [e_t, e_upd, Nat.reduceEqDiff, ↓reduceIte, h3']) (by simp only [e_t, e_upd, Nat.reduceEqDiff, ↓reduceIte]; rfl) rfl (by rw [ints_length, hdl]) rfl rfl (by simp [dig4, ints]) (by omega) rfl]
      simp (disch := omega) only [sS, ↓reduceIte, Nat.reduceEqDiff, Nat.reduceAdd, Nat.reduceMul, Nat.reduceSub, reduceCtorEq, e_none, e_some, e_bindS, h4]
      refine loop_gc [0, 3] ?_ ?_ (show l.length - (k + 1) < l.length - k by omega) ?_
      · rfl
      · simp [gcH, Vh.rowAt, sl, ro, ints_ren, ints_cell, ints_append]
      refine ⟨k + 1, by omega, rfl, gc_at ?_ (n_mkS0 (κ := κ) (r := 0) (off := 0) (n := l.length) (r' := 0) rfl), gc_at ?_ (n_int (k := .i64) (n := ((k + 1 : Nat) : Int))), ?_, fun _ => ?_, fun h => by omega⟩
      · simp only [e_upd, Nat.reduceEqDiff, ↓reduceIte, h0]
      · simp (disch := omega) only [e_upd, Nat.reduceEqDiff, ↓reduceIte, h4, w64]; simp
      · rw [digK, if_neg hne]
        refine gc_at ?_ (n_mkS0 (κ := .u) (r := 3) (off := 0) (n := 4 * (k + 1)) (r' := 1) rfl)
        simp only [e_upd, Nat.reduceEqDiff, ↓reduceIte]
        rfl
      · rw [digs_take hlt]
        simp [gcH, Vh.rowAt, sl, ro, ints_ren, ints_append]
  · obtain rfl : k = l.length := by omega
    simp (disch := omega) only [sS, ↓reduceIte, Nat.reduceEqDiff, Nat.reduceAdd, Nat.reduceMul, Nat.reduceSub, reduceCtorEq, e_none, e_some, e_bindS, h0, h4, h3, k_len hk]
    rw [List.take_length] at h3 hH
    by_cases hl : l = []
    · subst hl
      have hH := hH0 rfl
      subst hH
      refine call_ints (r := 0) (row := ⟨false, false, []⟩) (rtrim_calls .nil [] rfl (by simp)) rfl rfl rfl rfl ?_
      rintro v0 H0' ⟨rfl, rfl⟩
      simp (disch := omega) only [sS, ↓reduceIte, Nat.reduceEqDiff, Nat.reduceAdd, Nat.reduceMul, Nat.reduceSub, reduceCtorEq, e_none, e_some, e_bindS]
      refine ret_keep (by simp) ⟨?_, rfl⟩
      simp only [e_upd, ↓reduceIte]
      rfl
    · have hp : l.length ≠ 0 := by simpa using hl
      have hH := hH hp
      subst hH
      have hdl := digs_length l
      have := rtrim_calls .u (digs l) okS_u (by omega)
      rw [hdl] at this
      refine call_ints (r := 1) (row := ⟨true, true, ints .i64 (digs l)⟩) this rfl rfl (by rw [← ints_length (k := .i64) (l := digs l), List.take_length]) (by rw [List.take_length, digK, if_neg hl]; rfl) ?_
      rintro v0 H0' ⟨rfl, rfl⟩
      simp (disch := omega) only [sS, ↓reduceIte, Nat.reduceEqDiff, Nat.reduceAdd, Nat.reduceMul, Nat.reduceSub, reduceCtorEq, e_none, e_some, e_bindS]
      refine ret_keep (by simp) ⟨?_, ?_⟩
      · simp only [e_upd, ↓reduceIte]
        rw [digK, if_neg hl, n_mkS (r' := 1) (d := 0) rfl]
      · rw [digH, if_neg hl]; rfl
end Go.Proofs.YtpkeneadkiabiaaDoor

