/- Contracts: the reference's numbers out of digits. -/
import Derived.Test.YtpkeneadkiabiaaDoorV7
import Derived.Test.YtpkeneadkiabiaaDoorC4
set_option linter.unusedSimpArgs false
set_option linter.unusedVariables false
namespace Go.Proofs.YtpkeneadkiabiaaDoor
open Go Go.Vh

/-- the digits b + 3, b + 2 .. of one limb, the first m of them -/
def pv (d : List Int) (b : Nat) : Nat → Int
  | 0 => 0
  | m + 1 => pv d b m * 256 + d.getD (b + (3 - m)) 0
theorem pv_bound {d : List Int} (hr : ∀ i, 0 ≤ d.getD i 0 ∧ d.getD i 0 ≤ 255) (b : Nat) : ∀ m, 0 ≤ pv d b m ∧ pv d b m < 256 ^ m
  | 0 => by simp [pv]
  | m + 1 => by
    have := pv_bound hr b m
    have h := hr (b + (3 - m))
    rw [Int.pow_succ]
    simp only [pv]
    generalize (256 : Int) ^ m = q at *
    omega
theorem pv_small {d : List Int} (hr : ∀ i, 0 ≤ d.getD i 0 ∧ d.getD i 0 ≤ 255) (b m : Nat) (hm : m ≤ 4) : 0 ≤ pv d b m ∧ pv d b m ≤ 4294967295 := by
  have := pv_bound hr b m
  have h2 : (256 : Int) ^ m ≤ 256 ^ 4 := by
    rcases (show m = 0 ∨ m = 1 ∨ m = 2 ∨ m = 3 ∨ m = 4 by omega) with rfl | rfl | rfl | rfl | rfl <;> decide
  have h3 : (256 : Int) ^ 4 = 4294967296 := by decide
  omega

def natL (d : List Int) (m : Nat) : List Int := (List.range m).map fun k => pv d (4 * k) 4
theorem natL_succ (d : List Int) (m : Nat) : natL d (m + 1) = natL d m ++ [pv d (4 * m) 4] := by simp [natL, List.range_succ]
theorem natL_length (d : List Int) (m : Nat) : (natL d m).length = m := by simp [natL]

def upK (k : Nat) : SK := if k = 0 then .nil else .u

theorem rnat_calls (κ : SK) (d : List Int) (hk : okS κ d.length) (hm : d.length ≤ 1000000) (hr : ∀ i, 0 ≤ d.getD i 0 ∧ d.getD i 0 ≤ 255) : ACalls Tryd.prog 62 [mkS κ 0 0 d.length] [ro (ints .i64 d)] [0] fun v H =>
    v = mkS (upK ((d.length + 3) / 4)) 1 0 ((d.length + 3) / 4) ∧ H = if (d.length + 3) / 4 = 0 then [ro (ints .i64 d)] else [ro (ints .i64 d), sl (ints .u32 (natL d ((d.length + 3) / 4)))] := by
  refine ACalls.body Tryd.func62 ent_rnat ir_rnat_ok rs_rnat_ok Tryd.ntmps62 (by simp) rfl ?_
  unfold ir_rnat
  have e0 : s0 [mkS κ 0 0 d.length] 0 = mkS κ 0 0 d.length := rfl
  simp (disch := omega) only [sS, ↓reduceIte, Nat.reduceEqDiff, Nat.reduceAdd, Nat.reduceMul, Nat.reduceSub, reduceCtorEq, e_none, e_some, e_bindS, e0]
  refine ⟨fun n s H => ∃ k : Nat, k ≤ (d.length + 3) / 4 ∧ n = (d.length + 3) / 4 - k ∧ s 0 = mkS κ 0 0 d.length ∧ s 4 = .int .i64 (4 * k : Nat) ∧ s 3 = mkS (upK k) 1 0 k ∧ H = (if k = 0 then [ro (ints .i64 d)] else [ro (ints .i64 d), sl (ints .u32 (natL d k))]), (d.length + 3) / 4, ⟨0, by omega, rfl, rfl, rfl, rfl, rfl⟩, ?_⟩
  rintro n s H ⟨k, hk1, rfl, h0, h4, h3, hH⟩
  by_cases hlt : 4 * k < d.length
  · simp (disch := omega) only [sS, ↓reduceIte, Nat.reduceEqDiff, Nat.reduceAdd, Nat.reduceMul, Nat.reduceSub, reduceCtorEq, e_none, e_some, e_bindS, h0, h4, k_len hk]
    refine ⟨fun n s H' => ∃ m : Nat, m ≤ 4 ∧ n = 4 - m ∧ s 0 = mkS κ 0 0 d.length ∧ s 4 = .int .i64 (4 * k : Nat) ∧ s 3 = mkS (upK k) 1 0 k ∧ s 5 = .int .i64 (pv d (4 * k) m) ∧ s 6 = .int .i64 (3 - m) ∧ H' = H, 4, ⟨0, by omega, rfl, ?_, ?_, ?_, ?_, ?_, rfl⟩, ?_⟩
    · simp only [e_upd, Nat.reduceEqDiff, ↓reduceIte, h0]
    · simp only [e_upd, Nat.reduceEqDiff, ↓reduceIte, h4]
    · simp only [e_upd, Nat.reduceEqDiff, ↓reduceIte, h3]
    · simp only [e_upd, Nat.reduceEqDiff, ↓reduceIte]; rfl
    · simp only [e_upd, Nat.reduceEqDiff, ↓reduceIte]; rfl
    clear h0 h4 h3 s
    rintro n s H' ⟨m, hm4, rfl, h0, h4, h3, h5, h6, rfl⟩
    have hb := pv_small hr (4 * k) m hm4
    by_cases hm3 : m ≤ 3
    · have hb1 := pv_small hr (4 * k) (m + 1) (by omega)
      have hrow : ∃ rest, H' = ro (ints .i64 d) :: rest := by rw [hH]; split <;> exact ⟨_, rfl⟩
      obtain ⟨rest, hrest⟩ := hrow
      by_cases hd : 4 * k + (3 - m) < d.length
      · have hrd := hr (4 * k + (3 - m))
        have hidx : ((4 * k : Nat) : Int) + (3 - (m : Int)) = ((4 * k + (3 - m) : Nat) : Int) := by omega
        simp (disch := omega) only [sS, ↓reduceIte, Nat.reduceEqDiff, Nat.reduceAdd, Nat.reduceMul, Nat.reduceSub, reduceCtorEq, e_none, e_some, e_bindS, h0, h4, h5, h6, k_len hk, k_idx hk, hidx, hrest]
        refine loop_keep (m := 4 - (m + 1)) (by omega) ⟨m + 1, by omega, rfl, ?_, ?_, ?_, ?_, ?_, ?_⟩
        · simp only [e_upd, Nat.reduceEqDiff, ↓reduceIte, h0]
        · simp only [e_upd, Nat.reduceEqDiff, ↓reduceIte, h4]
        · simp only [e_upd, Nat.reduceEqDiff, ↓reduceIte, h3]
        · simp (disch := omega) only [e_upd, Nat.reduceEqDiff, ↓reduceIte, pv]
        · simp (disch := omega) only [e_upd, Nat.reduceEqDiff, ↓reduceIte, h6, w64, AV.int.injEq]; simp; omega
        · rfl
      · have hz : d.getD (4 * k + (3 - m)) 0 = 0 := by rw [List.getD_eq_getElem?_getD, List.getElem?_eq_none (by omega)]; rfl
        have hidx : ((4 * k : Nat) : Int) + (3 - (m : Int)) = ((4 * k + (3 - m) : Nat) : Int) := by omega
        have hpv : pv d (4 * k) (m + 1) = pv d (4 * k) m * 256 := by rw [pv, hz, Int.add_zero]
        simp (disch := omega) only [sS, ↓reduceIte, Nat.reduceEqDiff, Nat.reduceAdd, Nat.reduceMul, Nat.reduceSub, reduceCtorEq, e_none, e_some, e_bindS, h0, h4, h5, h6, k_len hk, k_idx hk, hidx]
        refine loop_keep (m := 4 - (m + 1)) (by omega) ⟨m + 1, by omega, rfl, ?_, ?_, ?_, ?_, ?_, rfl⟩
        · simp only [e_upd, Nat.reduceEqDiff, ↓reduceIte, h0]
        · simp only [e_upd, Nat.reduceEqDiff, ↓reduceIte, h4]
        · simp only [e_upd, Nat.reduceEqDiff, ↓reduceIte, h3]
        · simp (disch := omega) only [e_upd, Nat.reduceEqDiff, ↓reduceIte, hpv]
        · simp (disch := omega) only [e_upd, Nat.reduceEqDiff, ↓reduceIte, h6, w64, AV.int.injEq]; simp; omega
    · obtain rfl : m = 4 := by omega
      have h6' : s 6 = .int .i64 (-1) := h6
      simp (disch := omega) only [sS, ↓reduceIte, Nat.reduceEqDiff, Nat.reduceAdd, Nat.reduceMul, Nat.reduceSub, reduceCtorEq, e_none, e_some, e_bindS, h0, h4, h5, h6']
      rw [x_bs1 (v := .int .u32 (pv d (4 * k) 4)) (by simp only [e_t, e_upd, Nat.reduceEqDiff, ↓reduceIte]) rfl]
      simp (disch := omega) only [sS, ↓reduceIte, Nat.reduceEqDiff, Nat.reduceAdd, Nat.reduceMul, Nat.reduceSub, reduceCtorEq, e_none, e_some, e_bindS]
      rcases Nat.eq_zero_or_pos k with rfl | hp
      · rw [if_pos rfl] at hH; subst hH
        have h3' : s 3 = .nilslice := h3
        rw [x_appN (r := 1) (m := 1) (c := 1) (row := ⟨true, false, ints .u32 [pv d (4 * 0) 4]⟩) (xs := ints .u32 [pv d (4 * 0) 4]) (by simp only [e_t, e_upd, Nat.reduceEqDiff, ↓reduceIte, h3']) (by simp only [e_t, e_upd, Nat.reduceEqDiff, ↓reduceIte]; rfl) rfl rfl (by simp [ints]) (by decide) rfl]
        simp (disch := omega) only [sS, ↓reduceIte, Nat.reduceEqDiff, Nat.reduceAdd, Nat.reduceMul, Nat.reduceSub, reduceCtorEq, e_none, e_some, e_bindS, h4]
        refine loop_gc [0, 2] ?_ ?_ (show (d.length + 3) / 4 - 1 < (d.length + 3) / 4 - 0 by omega) ?_
        · rfl
        · simp [gcH, Vh.rowAt, sl, ro, ints_ren, ints_cell]
        refine ⟨1, by omega, rfl, gc_at ?_ (n_mkS0 (κ := κ) (r := 0) (off := 0) (n := d.length) (r' := 0) rfl), gc_at ?_ (n_int (k := .i64) (n := ((4 * 1 : Nat) : Int))), gc_at ?_ (n_mkS0 (κ := .u) (r := 2) (off := 0) (n := 1) (r' := 1) rfl), ?_⟩
        · simp only [e_upd, Nat.reduceEqDiff, ↓reduceIte, h0]
        · simp (disch := omega) only [e_upd, Nat.reduceEqDiff, ↓reduceIte, h4, w64]; rfl
        · simp only [e_upd, Nat.reduceEqDiff, ↓reduceIte]; rfl
        · rw [if_neg (by omega)]
          simp [gcH, Vh.rowAt, sl, ro, ints_ren, natL]
      · rw [if_neg (by omega)] at hH; subst hH
        have h3' : s 3 = .sliceU 1 0 k 1 := by rw [h3, upK, if_neg (by omega)]; rfl
        rw [x_appU (q := 1) (n := k) (old := ints .u32 (natL d k)) (r := 2) (m := 1) (c := 1) (row := ⟨true, false, ints .u32 [pv d (4 * k) 4]⟩) (xs := ints .u32 [pv d (4 * k) 4]) (by simp only [e_t, e_upd, Nat.reduceEqDiff, ↓reduceIte, h3']) (by simp only [e_t, e_upd, Nat.reduceEqDiff, ↓reduceIte]; rfl) rfl (by rw [ints_length, natL_length]) rfl rfl (by simp [ints]) (by omega) rfl]
        simp (disch := omega) only [sS, ↓reduceIte, Nat.reduceEqDiff, Nat.reduceAdd, Nat.reduceMul, Nat.reduceSub, reduceCtorEq, e_none, e_some, e_bindS, h4]
        refine loop_gc [0, 3] ?_ ?_ (show (d.length + 3) / 4 - (k + 1) < (d.length + 3) / 4 - k by omega) ?_
        · rfl
        · simp [gcH, Vh.rowAt, sl, ro, ints_ren, ints_cell, ints_append]
        refine ⟨k + 1, by omega, rfl, gc_at ?_ (n_mkS0 (κ := κ) (r := 0) (off := 0) (n := d.length) (r' := 0) rfl), gc_at ?_ (n_int (k := .i64) (n := ((4 * (k + 1) : Nat) : Int))), ?_, ?_⟩
        · simp only [e_upd, Nat.reduceEqDiff, ↓reduceIte, h0]
        · simp (disch := omega) only [e_upd, Nat.reduceEqDiff, ↓reduceIte, h4, w64]; simp; omega
        · rw [upK, if_neg (by omega)]
          refine gc_at ?_ (n_mkS0 (κ := .u) (r := 3) (off := 0) (n := k + 1) (r' := 1) rfl)
          simp only [e_upd, Nat.reduceEqDiff, ↓reduceIte]; rfl
        · rw [if_neg (by omega), natL_succ]
          simp [gcH, Vh.rowAt, sl, ro, ints_ren, ints_append]
  · obtain rfl : k = (d.length + 3) / 4 := by omega
    simp (disch := omega) only [sS, ↓reduceIte, Nat.reduceEqDiff, Nat.reduceAdd, Nat.reduceMul, Nat.reduceSub, reduceCtorEq, e_none, e_some, e_bindS, h0, h4, k_len hk]
    subst hH
    refine ret_keep ?_ ⟨?_, rfl⟩
    · split <;> simp
    · simp only [e_upd, Nat.reduceEqDiff, ↓reduceIte, h3]
end Go.Proofs.YtpkeneadkiabiaaDoor
