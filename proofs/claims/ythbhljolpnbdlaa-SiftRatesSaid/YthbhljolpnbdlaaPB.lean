/- Contracts: the reference's numbers out of digits. -/
import Derived.Test.YthbhljolpnbdlaaV7
import Derived.Test.YthbhljolpnbdlaaPA
import Derived.Test.YthbhljolpnbdlaaV8
import Derived.Test.YthbhljolpnbdlaaChecked
set_option linter.unusedSimpArgs false
set_option linter.unusedVariables false
namespace Go.Proofs.Ythbhljolpnbdlaa.S1
open Go Go.Vh

/-- the digits b + 3, b + 2 .. of one limb, the first m of them -/
def pv (d : List Int) (b : Nat) : Nat → Int
  | 0 => 0
  | m + 1 => pv d b m * 256 + d.getD (b + (3 - m)) 0
theorem pv_bound {d : List Int} (hr : ∀ i, 0 ≤ d.getD i 0 ∧ d.getD i 0 ≤ 255) (b : Nat) : ∀ m, 0 ≤ pv d b m ∧ pv d b m < 256 ^ m
  | 0 => by simp [pv]
  | m + 1 => by
    have := pv_bound hr b m
    have h := hr (b + (3 - m))
    rw [Int.pow_succ]
    simp only [pv]
    generalize (256 : Int) ^ m = q at *
    omega
theorem pv_small {d : List Int} (hr : ∀ i, 0 ≤ d.getD i 0 ∧ d.getD i 0 ≤ 255) (b m : Nat) (hm : m ≤ 4) : 0 ≤ pv d b m ∧ pv d b m ≤ 4294967295 := by
  have := pv_bound hr b m
  have h2 : (256 : Int) ^ m ≤ 256 ^ 4 := by
    rcases (show m = 0 ∨ m = 1 ∨ m = 2 ∨ m = 3 ∨ m = 4 by omega) with rfl | rfl | rfl | rfl | rfl <;> decide
  have h3 : (256 : Int) ^ 4 = 4294967296 := by decide
  omega

def natL (d : List Int) (m : Nat) : List Int := (List.range m).map fun k => pv d (4 * k) 4
theorem natL_succ (d : List Int) (m : Nat) : natL d (m + 1) = natL d m ++ [pv d (4 * m) 4] := by simp [natL, List.range_succ]
theorem natL_length (d : List Int) (m : Nat) : (natL d m).length = m := by simp [natL]

def upK (k : Nat) : SK := if k = 0 then .nil else .u

theorem rnat_calls (κ : SK) (d : List Int) (hk : okS κ d.length) (hm : d.length ≤ 1000000) (hr : ∀ i, 0 ≤ d.getD i 0 ∧ d.getD i 0 ≤ 255) : ACalls Try.prog 125 [mkS κ 0 0 d.length] [ro (ints .i64 d)] [0] fun v H =>
    v = mkS (upK ((d.length + 3) / 4)) 1 0 ((d.length + 3) / 4) ∧ H = if (d.length + 3) / 4 = 0 then [ro (ints .i64 d)] else [ro (ints .i64 d), sl (ints .u32 (natL d ((d.length + 3) / 4)))] := by
  refine ACalls.body Try.func125 ent_rnat ir_rnat_ok rs_rnat_ok Try.ntmps125 (by simp) rfl ?_
  unfold ir_rnat
  have e0 : s0 [mkS κ 0 0 d.length] 0 = mkS κ 0 0 d.length := rfl
  simp (disch := omega) only [sS, ↓reduceIte, Nat.reduceEqDiff, Nat.reduceAdd, Nat.reduceMul, Nat.reduceSub, reduceCtorEq, e_none, e_some, e_bindS, e0]
  refine ⟨fun n s H => ∃ k : Nat, k ≤ (d.length + 3) / 4 ∧ n = (d.length + 3) / 4 - k ∧ s 0 = mkS κ 0 0 d.length ∧ s 4 = .int .i64 (4 * k : Nat) ∧ s 3 = mkS (upK k) 1 0 k ∧ H = (if k = 0 then [ro (ints .i64 d)] else [ro (ints .i64 d), sl (ints .u32 (natL d k))]), (d.length + 3) / 4, ⟨0, by omega, rfl, rfl, rfl, rfl, rfl⟩, ?_⟩
  rintro n s H ⟨k, hk1, rfl, h0, h4, h3, hH⟩
  by_cases hlt : 4 * k < d.length
  · simp (disch := omega) only [sS, ↓reduceIte, Nat.reduceEqDiff, Nat.reduceAdd, Nat.reduceMul, Nat.reduceSub, reduceCtorEq, e_none, e_some, e_bindS, h0, h4, k_len hk]
    refine ⟨fun n s H' => ∃ m : Nat, m ≤ 4 ∧ n = 4 - m ∧ s 0 = mkS κ 0 0 d.length ∧ s 4 = .int .i64 (4 * k : Nat) ∧ s 3 = mkS (upK k) 1 0 k ∧ s 5 = .int .i64 (pv d (4 * k) m) ∧ s 6 = .int .i64 (3 - m) ∧ H' = H, 4, ⟨0, by omega, rfl, ?_, ?_, ?_, ?_, ?_, rfl⟩, ?_⟩
    · simp only [e_upd, Nat.reduceEqDiff, ↓reduceIte, h0]
    · simp only [e_upd, Nat.reduceEqDiff, ↓reduceIte, h4]
    · simp only [e_upd, Nat.reduceEqDiff, ↓reduceIte, h3]
    · simp only [e_upd, Nat.reduceEqDiff, ↓reduceIte]; rfl
    · simp only [e_upd, Nat.reduceEqDiff, ↓reduceIte]; rfl
    clear h0 h4 h3 s
    rintro n s H' ⟨m, hm4, rfl, h0, h4, h3, h5, h6, rfl⟩
    have hb := pv_small hr (4 * k) m hm4
    by_cases hm3 : m ≤ 3
    · have hb1 := pv_small hr (4 * k) (m + 1) (by omega)
      have hrow : ∃ rest, H' = ro (ints .i64 d) :: rest := by rw [hH]; split <;> exact ⟨_, rfl⟩
      obtain ⟨rest, hrest⟩ := hrow
      by_cases hd : 4 * k + (3 - m) < d.length
      · have hrd := hr (4 * k + (3 - m))
        have hidx : ((4 * k : Nat) : Int) + (3 - (m : Int)) = ((4 * k + (3 - m) : Nat) : Int) := by omega
        simp (disch := omega) only [sS, ↓reduceIte, Nat.reduceEqDiff, Nat.reduceAdd, Nat.reduceMul, Nat.reduceSub, reduceCtorEq, e_none, e_some, e_bindS, h0, h4, h5, h6, k_len hk, k_idx hk, hidx, hrest]
        refine loop_keep (m := 4 - (m + 1)) (by omega) ⟨m + 1, by omega, rfl, ?_, ?_, ?_, ?_, ?_, ?_⟩
        · simp only [e_upd, Nat.reduceEqDiff, ↓reduceIte, h0]
        · simp only [e_upd, Nat.reduceEqDiff, ↓reduceIte, h4]
        · simp only [e_upd, Nat.reduceEqDiff, ↓reduceIte, h3]
        · simp (disch := omega) only [e_upd, Nat.reduceEqDiff, ↓reduceIte, pv]
        · simp (disch := omega) only [e_upd, Nat.reduceEqDiff, ↓reduceIte, h6, w64, AV.int.injEq]; simp; omega
        · rfl
      · have hz : d.getD (4 * k + (3 - m)) 0 = 0 := by rw [List.getD_eq_getElem?_getD, List.getElem?_eq_none (by omega)]; rfl
        have hidx : ((4 * k : Nat) : Int) + (3 - (m : Int)) = ((4 * k + (3 - m) : Nat) : Int) := by omega
        have hpv : pv d (4 * k) (m + 1) = pv d (4 * k) m * 256 := by rw [pv, hz, Int.add_zero]
        simp (disch := omega) only [sS, ↓reduceIte, Nat.reduceEqDiff, Nat.reduceAdd, Nat.reduceMul, Nat.reduceSub, reduceCtorEq, e_none, e_some, e_bindS, h0, h4, h5, h6, k_len hk, k_idx hk, hidx]
        refine loop_keep (m := 4 - (m + 1)) (by omega) ⟨m + 1, by omega, rfl, ?_, ?_, ?_, ?_, ?_, rfl⟩
        · simp only [e_upd, Nat.reduceEqDiff, ↓reduceIte, h0]
        · simp only [e_upd, Nat.reduceEqDiff, ↓reduceIte, h4]
        · simp only [e_upd, Nat.reduceEqDiff, ↓reduceIte, h3]
        · simp (disch := omega) only [e_upd, Nat.reduceEqDiff, ↓reduceIte, hpv]
        · simp (disch := omega) only [e_upd, Nat.reduceEqDiff, ↓reduceIte, h6, w64, AV.int.injEq]; simp; omega
    · obtain rfl : m = 4 := by omega
      have h6' : s 6 = .int .i64 (-1) := h6
      simp (disch := omega) only [sS, ↓reduceIte, Nat.reduceEqDiff, Nat.reduceAdd, Nat.reduceMul, Nat.reduceSub, reduceCtorEq, e_none, e_some, e_bindS, h0, h4, h5, h6']
      rw [x_bs1 (v := .int .u32 (pv d (4 * k) 4)) (by simp only [e_t, e_upd, Nat.reduceEqDiff, ↓reduceIte]) rfl]
      simp (disch := omega) only [sS, ↓reduceIte, Nat.reduceEqDiff, Nat.reduceAdd, Nat.reduceMul, Nat.reduceSub, reduceCtorEq, e_none, e_some, e_bindS]
      rcases Nat.eq_zero_or_pos k with rfl | hp
      · rw [if_pos rfl] at hH; subst hH
        have h3' : s 3 = .nilslice := h3
        rw [x_appN (r := 1) (m := 1) (c := 1) (row := ⟨true, false, ints .u32 [pv d (4 * 0) 4]⟩) (xs := ints .u32 [pv d (4 * 0) 4]) (by simp only [e_t, e_upd, Nat.reduceEqDiff, ↓reduceIte, h3']) (by simp only [e_t, e_upd, Nat.reduceEqDiff, ↓reduceIte]; rfl) rfl rfl (by simp [ints]) (by decide) rfl]
        simp (disch := omega) only [sS, ↓reduceIte, Nat.reduceEqDiff, Nat.reduceAdd, Nat.reduceMul, Nat.reduceSub, reduceCtorEq, e_none, e_some, e_bindS, h4]
        refine loop_gc [0, 2] ?_ ?_ (show (d.length + 3) / 4 - 1 < (d.length + 3) / 4 - 0 by omega) ?_
        · rfl
        · simp [gcH, Vh.rowAt, sl, ro, ints_ren, ints_cell]
        refine ⟨1, by omega, rfl, gc_at ?_ (n_mkS0 (κ := κ) (r := 0) (off := 0) (n := d.length) (r' := 0) rfl), gc_at ?_ (n_int (k := .i64) (n := ((4 * 1 : Nat) : Int))), gc_at ?_ (n_mkS0 (κ := .u) (r := 2) (off := 0) (n := 1) (r' := 1) rfl), ?_⟩
        · simp only [e_upd, Nat.reduceEqDiff, ↓reduceIte, h0]
        · simp (disch := omega) only [e_upd, Nat.reduceEqDiff, ↓reduceIte, h4, w64]; rfl
        · simp only [e_upd, Nat.reduceEqDiff, ↓reduceIte]; rfl
        · rw [if_neg (by omega)]
          simp [gcH, Vh.rowAt, sl, ro, ints_ren, natL]
      · rw [if_neg (by omega)] at hH; subst hH
        have h3' : s 3 = .sliceU 1 0 k 1 := by rw [h3, upK, if_neg (by omega)]; rfl
        rw [x_appU (q := 1) (n := k) (old := ints .u32 (natL d k)) (r := 2) (m := 1) (c := 1) (row := ⟨true, false, ints .u32 [pv d (4 * k) 4]⟩) (xs := ints .u32 [pv d (4 * k) 4]) (by simp only [e_t, e_upd, Nat.reduceEqDiff, ↓reduceIte, h3']) (by simp only [e_t, e_upd, Nat.reduceEqDiff, ↓reduceIte]; rfl) rfl (by rw [ints_length, natL_length]) rfl rfl (by simp [ints]) (by omega) rfl]
        simp (disch := omega) only [sS, ↓reduceIte, Nat.reduceEqDiff, Nat.reduceAdd, Nat.reduceMul, Nat.reduceSub, reduceCtorEq, e_none, e_some, e_bindS, h4]
        refine loop_gc [0, 3] ?_ ?_ (show (d.length + 3) / 4 - (k + 1) < (d.length + 3) / 4 - k by omega) ?_
        · rfl
        · simp [gcH, Vh.rowAt, sl, ro, ints_ren, ints_cell, ints_append]
        refine ⟨k + 1, by omega, rfl, gc_at ?_ (n_mkS0 (κ := κ) (r := 0) (off := 0) (n := d.length) (r' := 0) rfl), gc_at ?_ (n_int (k := .i64) (n := ((4 * (k + 1) : Nat) : Int))), ?_, ?_⟩
        · simp only [e_upd, Nat.reduceEqDiff, ↓reduceIte, h0]
        · simp (disch := omega) only [e_upd, Nat.reduceEqDiff, ↓reduceIte, h4, w64]; simp; omega
        · rw [upK, if_neg (by omega)]
          refine gc_at ?_ (n_mkS0 (κ := .u) (r := 3) (off := 0) (n := k + 1) (r' := 1) rfl)
          simp only [e_upd, Nat.reduceEqDiff, ↓reduceIte]; rfl
        · rw [if_neg (by omega), natL_succ]
          simp [gcH, Vh.rowAt, sl, ro, ints_ren, ints_append]
  · obtain rfl : k = (d.length + 3) / 4 := by omega
    simp (disch := omega) only [sS, ↓reduceIte, Nat.reduceEqDiff, Nat.reduceAdd, Nat.reduceMul, Nat.reduceSub, reduceCtorEq, e_none, e_some, e_bindS, h0, h4, k_len hk]
    subst hH
    refine ret_keep ?_ ⟨?_, rfl⟩
    · split <;> simp
    · simp only [e_upd, Nat.reduceEqDiff, ↓reduceIte, h3]
end Go.Proofs.Ythbhljolpnbdlaa.S1



/- The reference's Of: what it computes. -/
namespace Go.Proofs.Ythbhljolpnbdlaa.S1
open Go Go.Vh

theorem tz_zero (l : List Int) : ∀ n i, tz l n ≤ i → i < n → l.getD i 0 = 0
  | 0, i, _, h => by omega
  | n + 1, i, h1, h2 => by
    unfold tz at h1
    split at h1
    · rename_i hz
      rcases Nat.lt_or_ge i n with h | h
      · exact tz_zero l n i h1 h
      · obtain rfl : i = n := by omega
        exact hz
    · omega
theorem tz_last (l : List Int) : ∀ n, tz l n ≠ 0 → l.getD (tz l n - 1) 0 ≠ 0
  | 0, h => (h rfl).elim
  | n + 1, h => by
    unfold tz at h ⊢
    split
    · rename_i hz; rw [if_pos hz] at h; exact tz_last l n h
    · rename_i hz; simpa using hz
theorem tz_uniq (l : List Int) (n m : Nat) (h1 : m ≤ n) (h2 : m ≠ 0 → l.getD (m - 1) 0 ≠ 0) (h3 : ∀ i, m ≤ i → i < n → l.getD i 0 = 0) : tz l n = m := by
  rcases Nat.lt_trichotomy (tz l n) m with h | h | h
  · exact (h2 (by omega) (tz_zero l n (m - 1) (by omega) (by omega))).elim
  · exact h
  · exact (tz_last l n (by omega) (h3 _ (by omega) (by have := tz_le l n; omega))).elim
theorem getD_take (l : List Int) (n m i : Nat) (h : ∀ j, m ≤ j → j < n → l.getD j 0 = 0) (hn : l.length ≤ n) : (l.take m).getD i 0 = l.getD i 0 := by
  rcases Nat.lt_or_ge i m with h1 | h1
  · simp [List.getD_eq_getElem?_getD, List.getElem?_take, h1]
  · have e1 : (l.take m).getD i 0 = 0 := by
      rw [List.getD_eq_getElem?_getD, List.getElem?_eq_none (by rw [List.length_take]; omega)]; rfl
    rw [e1]
    rcases Nat.lt_or_ge i n with h2 | h2
    · exact (h i h1 h2).symm
    · rw [List.getD_eq_getElem?_getD, List.getElem?_eq_none (by omega)]; rfl

theorem digs_get : ∀ (l : List Int) (k j : Nat), j < 4 → (digs l).getD (4 * k + j) 0 = (dig4 (l.getD k 0)).getD j 0
  | [], k, j, hj => by
    simp only [digs, List.flatMap_nil, List.getD_nil]
    rcases (show j = 0 ∨ j = 1 ∨ j = 2 ∨ j = 3 by omega) with rfl | rfl | rfl | rfl <;> rfl
  | x :: l, 0, j, hj => by
    rcases (show j = 0 ∨ j = 1 ∨ j = 2 ∨ j = 3 by omega) with rfl | rfl | rfl | rfl <;> rfl
  | x :: l, k + 1, j, hj => by
    have := digs_get l k j hj
    have e : (digs (x :: l)).getD (4 * (k + 1) + j) 0 = (digs l).getD (4 * k + j) 0 := by
      have : 4 * (k + 1) + j = (4 * k + j) + 1 + 1 + 1 + 1 := by omega
      rw [this]
      simp [digs, dig4]
    rw [e, this]
    rfl
theorem digs_range {l : List Int} (hr : ∀ i, 0 ≤ l.getD i 0 ∧ l.getD i 0 ≤ 4294967295) (i : Nat) : 0 ≤ (digs l).getD i 0 ∧ (digs l).getD i 0 ≤ 255 := by
  have h := digs_get l (i / 4) (i % 4) (by omega)
  rw [show 4 * (i / 4) + i % 4 = i by omega] at h
  have hx := hr (i / 4)
  rw [h]
  generalize l.getD (i / 4) 0 = x at *
  rcases (show i % 4 = 0 ∨ i % 4 = 1 ∨ i % 4 = 2 ∨ i % 4 = 3 by omega) with e | e | e | e <;> rw [e] <;> simp [dig4] <;> omega
theorem pv_digs {l : List Int} (hr : ∀ i, 0 ≤ l.getD i 0 ∧ l.getD i 0 ≤ 4294967295) (d : List Int) (hd : ∀ i, d.getD i 0 = (digs l).getD i 0) (k : Nat) : pv d (4 * k) 4 = l.getD k 0 := by
  have hx := hr k
  have h0 := digs_get l k 0 (by omega)
  have h1 := digs_get l k 1 (by omega)
  have h2 := digs_get l k 2 (by omega)
  have h3 := digs_get l k 3 (by omega)
  simp only [pv, hd, Nat.sub_zero, Nat.reduceSub]
  rw [h0, h1, h2, h3]
  simp [dig4]
  omega

/-- The digits' number of a list of limbs. -/
theorem nat_digs {l : List Int} (hr : ∀ i, 0 ≤ l.getD i 0 ∧ l.getD i 0 ≤ 4294967295) :
    ((tz (digs l) (4 * l.length)) + 3) / 4 = tz l l.length ∧ natL ((digs l).take (tz (digs l) (4 * l.length))) (tz l l.length) = l.take (tz l l.length) := by
  have hlen := digs_length l
  have hz := tz_zero (digs l) (4 * l.length)
  have hl := tz_last (digs l) (4 * l.length)
  have hle := tz_le (digs l) (4 * l.length)
  generalize tz (digs l) (4 * l.length) = t at *
  have h1 : tz l l.length = (t + 3) / 4 := by
    refine tz_uniq l l.length _ (by omega) (fun h => ?_) (fun i h h' => ?_)
    · have hne := hl (by omega)
      have hg := digs_get l ((t - 1) / 4) ((t - 1) % 4) (by omega)
      rw [show 4 * ((t - 1) / 4) + (t - 1) % 4 = t - 1 by omega] at hg
      rw [show (t + 3) / 4 - 1 = (t - 1) / 4 by omega]
      intro h0
      rw [h0] at hg
      rw [hg] at hne
      have hj : (t - 1) % 4 < 4 := by omega
      revert hne hj
      generalize (t - 1) % 4 = j
      intro hne hj
      rcases (show j = 0 ∨ j = 1 ∨ j = 2 ∨ j = 3 by omega) with rfl | rfl | rfl | rfl <;> exact hne rfl
    · have a0 := hz (4 * i + 0) (by omega) (by omega)
      have a1 := hz (4 * i + 1) (by omega) (by omega)
      have a2 := hz (4 * i + 2) (by omega) (by omega)
      have a3 := hz (4 * i + 3) (by omega) (by omega)
      have hx := pv_digs hr (digs l) (fun _ => rfl) i
      simp only [pv, Nat.sub_zero, Nat.reduceSub] at hx
      rw [a0, a1, a2, a3] at hx
      omega
  refine ⟨h1.symm, ?_⟩
  have hg : ∀ i, ((digs l).take t).getD i 0 = (digs l).getD i 0 := fun i => getD_take (digs l) (4 * l.length) t i hz (by omega)
  have hle2 := tz_le l l.length
  refine List.ext_getElem (by rw [natL_length, List.length_take]; omega) fun i hi hi' => ?_
  rw [natL_length] at hi
  have := pv_digs hr _ hg i
  simp only [natL, List.getElem_map, List.getElem_range, List.getElem_take, this]
  simp [List.getD_eq_getElem?_getD, show i < l.length by omega]
end Go.Proofs.Ythbhljolpnbdlaa.S1



/- Texts of code of this program, checked against its dump. -/
namespace Go.Proofs.Ythbhljolpnbdlaa.S1
open Go Go.Vh
def ir_isZero : IR := (.seq (.ops [⟨(some 2), none, (.pure (.move (.c (.bool false))))⟩]) (.seq (.ops [⟨(some 3), none, (.pure (.move (.t 0)))⟩, ⟨(some 4), none, (.call (.c (.func 136 [])) [(.t 3)])⟩, ⟨(some 5), none, (.pure (.len (.t 4)))⟩, ⟨(some 6), none, (.pure (.bin .eql (.t 5) (.c (.int .i64 0))))⟩, ⟨(some 2), none, (.pure (.move (.t 6)))⟩]) .ret))
def rs_isZero : List IRes := [(.tmp 2)]
theorem ir_isZero_ok : (Func.body Try.f135).bind (irOf Try.prog Try.f135.ntmps) = some ir_isZero := by kernel_rfl
theorem rs_isZero_ok : Try.f135.results.toList.mapM (resOf Try.prog) = some rs_isZero := by kernel_rfl
theorem ent_isZero : enters Try.prog 135 = true := by kernel_rfl

def ir_xcompare : IR := (.seq (.ops [⟨(some 4), none, (.pure (.move (.c (.int .i64 0))))⟩]) (.seq (.ops [⟨(some 7), none, (.pure (.move (.t 0)))⟩, ⟨(some 8), none, (.call (.c (.func 136 [])) [(.t 7)])⟩, ⟨(some 9), none, (.pure (.move (.t 1)))⟩, ⟨(some 10), none, (.call (.c (.func 136 [])) [(.t 9)])⟩, ⟨(some 0), none, (.pure (.move (.t 8)))⟩, ⟨(some 1), none, (.pure (.move (.t 10)))⟩]) (.seq (.seq (.ops [⟨(some 11), none, (.pure (.move (.t 0)))⟩, ⟨(some 12), none, (.pure (.len (.t 11)))⟩, ⟨(some 13), none, (.pure (.move (.t 1)))⟩, ⟨(some 14), none, (.pure (.len (.t 13)))⟩, ⟨(some 15), none, (.pure (.bin .neq (.t 12) (.t 14)))⟩]) (.cond (.t 15) (.seq (.ops [⟨(some 16), none, (.pure (.move (.t 0)))⟩, ⟨(some 17), none, (.pure (.len (.t 16)))⟩, ⟨(some 18), none, (.pure (.move (.t 1)))⟩, ⟨(some 19), none, (.pure (.len (.t 18)))⟩, ⟨(some 20), none, (.pure (.bin .gtr (.t 17) (.t 19)))⟩, ⟨(some 21), none, (.call (.c (.func 137 [])) [(.t 20)])⟩, ⟨(some 4), none, (.pure (.move (.t 21)))⟩]) .ret) .skip)) (.seq (.seq (.ops [⟨(some 22), none, (.pure (.move (.t 0)))⟩, ⟨(some 23), none, (.pure (.len (.t 22)))⟩, ⟨(some 24), none, (.pure (.move (.c (.int .i64 0))))⟩]) (.block 0 (.loop (.seq (.ops [⟨(some 25), none, (.pure (.bin .lss (.t 24) (.t 23)))⟩]) (.seq (.cond (.t 25) .skip (.exit 0)) (.seq (.block 1 (.seq (.ops [⟨(some 26), none, (.pure (.move (.t 24)))⟩, ⟨(some 5), none, (.pure (.move (.t 26)))⟩]) (.seq (.ops [⟨(some 27), none, (.pure (.move (.t 0)))⟩, ⟨(some 28), none, (.pure (.len (.t 27)))⟩, ⟨(some 29), none, (.pure (.bin .sub (.t 28) (.c (.int .i64 1))))⟩, ⟨(some 30), none, (.pure (.move (.t 5)))⟩, ⟨(some 31), none, (.pure (.bin .sub (.t 29) (.t 30)))⟩, ⟨(some 6), none, (.pure (.move (.t 31)))⟩]) (.seq (.dops [⟨⟨(some 32), none, (.pure (.move (.t 0)))⟩, 0, 0⟩, ⟨⟨(some 33), none, (.pure (.move (.t 6)))⟩, 1, 0⟩, ⟨⟨(some 34), none, (.pure (.indexAddr 1 (.t 32) (.t 33)))⟩, 2, 0⟩, ⟨⟨(some 35), none, (.eff (.load1 (.t 34)))⟩, 3, 1⟩, ⟨⟨(some 36), none, (.pure (.move (.t 1)))⟩, 4, 0⟩, ⟨⟨(some 37), none, (.pure (.move (.t 6)))⟩, 5, 0⟩, ⟨⟨(some 38), none, (.pure (.indexAddr 1 (.t 36) (.t 37)))⟩, 6, 0⟩, ⟨⟨(some 39), none, (.eff (.load1 (.t 38)))⟩, 7, 1⟩, ⟨⟨(some 40), none, (.pure (.bin .neq (.t 35) (.t 39)))⟩, 8, 0⟩]) (.cond (.t 40) (.seq (.dops [⟨⟨(some 41), none, (.pure (.move (.t 0)))⟩, 0, 0⟩, ⟨⟨(some 42), none, (.pure (.move (.t 6)))⟩, 1, 0⟩, ⟨⟨(some 43), none, (.pure (.indexAddr 1 (.t 41) (.t 42)))⟩, 2, 0⟩, ⟨⟨(some 44), none, (.eff (.load1 (.t 43)))⟩, 3, 1⟩, ⟨⟨(some 45), none, (.pure (.move (.t 1)))⟩, 4, 0⟩, ⟨⟨(some 46), none, (.pure (.move (.t 6)))⟩, 5, 0⟩, ⟨⟨(some 47), none, (.pure (.indexAddr 1 (.t 45) (.t 46)))⟩, 6, 0⟩, ⟨⟨(some 48), none, (.eff (.load1 (.t 47)))⟩, 7, 1⟩, ⟨⟨(some 49), none, (.pure (.bin .gtr (.t 44) (.t 48)))⟩, 8, 0⟩, ⟨⟨(some 50), none, (.call (.c (.func 137 [])) [(.t 49)])⟩, 9, 3⟩, ⟨⟨(some 4), none, (.pure (.move (.t 50)))⟩, 10, 0⟩]) .ret) .skip))))) (.ops [⟨(some 51), none, (.pure (.bin .add (.t 24) (.c (.int .i64 1))))⟩, ⟨(some 24), none, (.pure (.move (.t 51)))⟩]))))))) (.seq (.ops [⟨(some 4), none, (.pure (.move (.c (.int .i64 0))))⟩]) .ret)))))
def rs_xcompare : List IRes := [(.tmp 4)]
theorem ir_xcompare_ok : (Func.body Try.f111).bind (irOf Try.prog Try.f111.ntmps) = some ir_xcompare := by kernel_rfl
theorem rs_xcompare_ok : Try.f111.results.toList.mapM (resOf Try.prog) = some rs_xcompare := by kernel_rfl
theorem ent_xcompare : enters Try.prog 111 = true := by kernel_rfl

def ir_sign : IR := (.seq (.ops [⟨(some 2), none, (.pure (.move (.c (.int .i64 0))))⟩]) (.seq (.seq (.ops [⟨(some 3), none, (.pure (.move (.t 0)))⟩]) (.cond (.t 3) (.seq (.ops [⟨(some 2), none, (.pure (.move (.c (.int .i64 1))))⟩]) .ret) .skip)) (.seq (.ops [⟨(some 2), none, (.pure (.move (.c (.int .i64 (-1)))))⟩]) .ret)))
def rs_sign : List IRes := [(.tmp 2)]
theorem ir_sign_ok : (Func.body Try.f137).bind (irOf Try.prog Try.f137.ntmps) = some ir_sign := by kernel_rfl
theorem rs_sign_ok : Try.f137.results.toList.mapM (resOf Try.prog) = some rs_sign := by kernel_rfl
theorem ent_sign : enters Try.prog 137 = true := by kernel_rfl

def ir_xadd : IR := (.seq (.ops [⟨(some 4), none, (.pure (.move (.c .nilslice)))⟩]) (.seq (.ops [⟨(some 8), none, (.pure (.move (.t 0)))⟩, ⟨(some 9), none, (.pure (.len (.t 8)))⟩, ⟨(some 10), none, (.pure (.move (.t 1)))⟩, ⟨(some 11), none, (.pure (.len (.t 10)))⟩, ⟨(some 12), none, (.pure (.minmax true (.t 9) (.t 11)))⟩, ⟨(some 5), none, (.pure (.move (.t 12)))⟩]) (.seq (.ops [⟨(some 13), none, (.pure (.move (.t 5)))⟩, ⟨(some 14), none, (.pure (.bin .add (.t 13) (.c (.int .i64 1))))⟩, ⟨(some 15), none, (.eff (.makeSlice (.int .u32 0) 4 (.t 14) (.t 14)))⟩, ⟨(some 6), none, (.pure (.move (.t 15)))⟩]) (.seq (.seq (.ops [⟨(some 16), none, (.pure (.move (.t 5)))⟩, ⟨(some 17), none, (.pure (.move (.c (.int .i64 0))))⟩]) (.block 0 (.loop (.seq (.ops [⟨(some 18), none, (.pure (.bin .lss (.t 17) (.t 16)))⟩]) (.seq (.cond (.t 18) .skip (.exit 0)) (.seq (.block 1 (.seq (.ops [⟨(some 19), none, (.pure (.move (.t 17)))⟩, ⟨(some 7), none, (.pure (.move (.t 19)))⟩]) (.dops [⟨⟨(some 21), none, (.pure (.move (.t 6)))⟩, 0, 0⟩, ⟨⟨(some 22), none, (.pure (.move (.t 7)))⟩, 1, 0⟩, ⟨⟨(some 23), none, (.pure (.move (.t 6)))⟩, 2, 0⟩, ⟨⟨(some 24), none, (.pure (.move (.t 7)))⟩, 3, 0⟩, ⟨⟨(some 25), none, (.pure (.bin .add (.t 24) (.c (.int .i64 1))))⟩, 4, 0⟩, ⟨⟨(some 26), none, (.pure (.move (.t 0)))⟩, 5, 0⟩, ⟨⟨(some 27), none, (.pure (.move (.t 7)))⟩, 6, 0⟩, ⟨⟨(some 29), none, (.pure (.move (.t 1)))⟩, 8, 0⟩, ⟨⟨(some 30), none, (.pure (.move (.t 7)))⟩, 9, 0⟩, ⟨⟨(some 32), none, (.pure (.move (.t 6)))⟩, 11, 0⟩, ⟨⟨(some 33), none, (.pure (.move (.t 7)))⟩, 12, 0⟩, ⟨⟨(some 34), none, (.pure (.indexAddr 1 (.t 32) (.t 33)))⟩, 13, 0⟩, ⟨⟨(some 35), none, (.eff (.load1 (.t 34)))⟩, 14, 1⟩, ⟨⟨(some 28), none, (.call (.c (.func 158 [])) [(.t 26), (.t 27)])⟩, 7, 2⟩, ⟨⟨(some 31), none, (.call (.c (.func 158 [])) [(.t 29), (.t 30)])⟩, 10, 2⟩, ⟨⟨(some 36), none, (.call (.c (.func 157 [])) [(.t 28), (.t 31), (.t 35)])⟩, 15, 3⟩, ⟨⟨(some 20), none, (.pure (.move (.t 36)))⟩, 16, 0⟩, ⟨⟨(some 37), none, (.pure (.extract (.t 20) 0))⟩, 17, 0⟩, ⟨⟨(some 38), none, (.pure (.extract (.t 20) 1))⟩, 18, 0⟩, ⟨⟨(some 39), none, (.pure (.indexAddr 1 (.t 21) (.t 22)))⟩, 19, 0⟩, ⟨⟨none, none, (.eff (.store 1 (.t 39) (.t 37)))⟩, 20, 3⟩, ⟨⟨(some 40), none, (.pure (.indexAddr 1 (.t 23) (.t 25)))⟩, 21, 0⟩, ⟨⟨none, none, (.eff (.store 1 (.t 40) (.t 38)))⟩, 22, 3⟩]))) (.ops [⟨(some 41), none, (.pure (.bin .add (.t 17) (.c (.int .i64 1))))⟩, ⟨(some 17), none, (.pure (.move (.t 41)))⟩]))))))) (.seq (.ops [⟨(some 42), none, (.pure (.move (.t 6)))⟩, ⟨(some 43), none, (.call (.c (.func 136 [])) [(.t 42)])⟩, ⟨(some 4), none, (.pure (.move (.t 43)))⟩]) .ret)))))
def rs_xadd : List IRes := [(.tmp 4)]
theorem ir_xadd_ok : (Func.body Try.f139).bind (irOf Try.prog Try.f139.ntmps) = some ir_xadd := by kernel_rfl
theorem rs_xadd_ok : Try.f139.results.toList.mapM (resOf Try.prog) = some rs_xadd := by kernel_rfl
theorem ent_xadd : enters Try.prog 139 = true := by kernel_rfl

def ir_add32 : IR := (.seq (.ops [⟨(some 6), none, (.pure (.move (.c (.int .u32 0))))⟩, ⟨(some 7), none, (.pure (.move (.c (.int .u32 0))))⟩]) (.seq (.ops [⟨(some 9), none, (.pure (.move (.t 0)))⟩, ⟨(some 10), none, (.pure (.conv .u64 (.t 9)))⟩, ⟨(some 11), none, (.pure (.move (.t 1)))⟩, ⟨(some 12), none, (.pure (.conv .u64 (.t 11)))⟩, ⟨(some 13), none, (.pure (.bin .add (.t 10) (.t 12)))⟩, ⟨(some 14), none, (.pure (.move (.t 2)))⟩, ⟨(some 15), none, (.pure (.conv .u64 (.t 14)))⟩, ⟨(some 16), none, (.pure (.bin .add (.t 13) (.t 15)))⟩, ⟨(some 8), none, (.pure (.move (.t 16)))⟩]) (.seq (.ops [⟨(some 17), none, (.pure (.move (.t 8)))⟩, ⟨(some 18), none, (.pure (.conv .u32 (.t 17)))⟩, ⟨(some 6), none, (.pure (.move (.t 18)))⟩]) (.seq (.ops [⟨(some 19), none, (.pure (.move (.t 8)))⟩, ⟨(some 20), none, (.pure (.bin .shr (.t 19) (.c (.int .u64 32))))⟩, ⟨(some 21), none, (.pure (.conv .u32 (.t 20)))⟩, ⟨(some 7), none, (.pure (.move (.t 21)))⟩]) .ret))))
def rs_add32 : List IRes := [(.tmp 6), (.tmp 7)]
theorem ir_add32_ok : (Func.body Try.f157).bind (irOf Try.prog Try.f157.ntmps) = some ir_add32 := by kernel_rfl
theorem rs_add32_ok : Try.f157.results.toList.mapM (resOf Try.prog) = some rs_add32 := by kernel_rfl
theorem ent_add32 : enters Try.prog 157 = true := by kernel_rfl

def ir_xmul : IR := (.seq (.ops [⟨(some 4), none, (.pure (.move (.c .nilslice)))⟩]) (.seq (.ops [⟨(some 9), none, (.pure (.move (.t 0)))⟩, ⟨(some 10), none, (.pure (.len (.t 9)))⟩, ⟨(some 11), none, (.pure (.move (.t 1)))⟩, ⟨(some 12), none, (.pure (.len (.t 11)))⟩, ⟨(some 13), none, (.pure (.bin .add (.t 10) (.t 12)))⟩, ⟨(some 14), none, (.eff (.makeSlice (.int .u32 0) 4 (.t 13) (.t 13)))⟩, ⟨(some 5), none, (.pure (.move (.t 14)))⟩]) (.seq (.seq (.ops [⟨(some 15), none, (.pure (.move (.t 0)))⟩, ⟨(some 16), none, (.pure (.len (.t 15)))⟩, ⟨(some 17), none, (.pure (.move (.c (.int .i64 0))))⟩]) (.block 0 (.loop (.seq (.ops [⟨(some 18), none, (.pure (.bin .lss (.t 17) (.t 16)))⟩]) (.seq (.cond (.t 18) .skip (.exit 0)) (.seq (.block 1 (.seq (.ops [⟨(some 19), none, (.pure (.move (.t 17)))⟩, ⟨(some 6), none, (.pure (.move (.t 19)))⟩]) (.seq (.ops [⟨(some 7), none, (.pure (.move (.c (.int .u64 0))))⟩]) (.seq (.seq (.ops [⟨(some 20), none, (.pure (.move (.t 1)))⟩, ⟨(some 21), none, (.pure (.len (.t 20)))⟩, ⟨(some 22), none, (.pure (.move (.c (.int .i64 0))))⟩]) (.block 2 (.loop (.seq (.ops [⟨(some 23), none, (.pure (.bin .lss (.t 22) (.t 21)))⟩]) (.seq (.cond (.t 23) .skip (.exit 2)) (.seq (.block 3 (.seq (.ops [⟨(some 24), none, (.pure (.move (.t 22)))⟩, ⟨(some 8), none, (.pure (.move (.t 24)))⟩]) (.seq (.dops [⟨⟨(some 25), none, (.pure (.move (.t 7)))⟩, 0, 0⟩, ⟨⟨(some 26), none, (.pure (.move (.t 0)))⟩, 1, 0⟩, ⟨⟨(some 27), none, (.pure (.move (.t 6)))⟩, 2, 0⟩, ⟨⟨(some 28), none, (.pure (.indexAddr 1 (.t 26) (.t 27)))⟩, 3, 0⟩, ⟨⟨(some 29), none, (.eff (.load1 (.t 28)))⟩, 4, 1⟩, ⟨⟨(some 30), none, (.pure (.conv .u64 (.t 29)))⟩, 5, 0⟩, ⟨⟨(some 31), none, (.pure (.move (.t 1)))⟩, 6, 0⟩, ⟨⟨(some 32), none, (.pure (.move (.t 8)))⟩, 7, 0⟩, ⟨⟨(some 33), none, (.pure (.indexAddr 1 (.t 31) (.t 32)))⟩, 8, 0⟩, ⟨⟨(some 34), none, (.eff (.load1 (.t 33)))⟩, 9, 1⟩, ⟨⟨(some 35), none, (.pure (.conv .u64 (.t 34)))⟩, 10, 0⟩, ⟨⟨(some 36), none, (.pure (.bin .mul (.t 30) (.t 35)))⟩, 11, 0⟩, ⟨⟨(some 37), none, (.pure (.move (.t 5)))⟩, 12, 0⟩, ⟨⟨(some 38), none, (.pure (.move (.t 6)))⟩, 13, 0⟩, ⟨⟨(some 39), none, (.pure (.move (.t 8)))⟩, 14, 0⟩, ⟨⟨(some 40), none, (.pure (.bin .add (.t 38) (.t 39)))⟩, 15, 0⟩, ⟨⟨(some 41), none, (.pure (.indexAddr 1 (.t 37) (.t 40)))⟩, 16, 0⟩, ⟨⟨(some 42), none, (.eff (.load1 (.t 41)))⟩, 17, 1⟩, ⟨⟨(some 43), none, (.pure (.conv .u64 (.t 42)))⟩, 18, 0⟩, ⟨⟨(some 44), none, (.pure (.bin .add (.t 36) (.t 43)))⟩, 19, 0⟩, ⟨⟨(some 45), none, (.pure (.bin .add (.t 25) (.t 44)))⟩, 20, 0⟩, ⟨⟨(some 7), none, (.pure (.move (.t 45)))⟩, 21, 0⟩]) (.seq (.ops [⟨(some 46), none, (.pure (.move (.t 5)))⟩, ⟨(some 47), none, (.pure (.move (.t 6)))⟩, ⟨(some 48), none, (.pure (.move (.t 8)))⟩, ⟨(some 49), none, (.pure (.bin .add (.t 47) (.t 48)))⟩, ⟨(some 50), none, (.pure (.move (.t 7)))⟩, ⟨(some 51), none, (.pure (.conv .u32 (.t 50)))⟩, ⟨(some 52), none, (.pure (.indexAddr 1 (.t 46) (.t 49)))⟩, ⟨none, none, (.eff (.store 1 (.t 52) (.t 51)))⟩]) (.ops [⟨(some 53), none, (.pure (.move (.t 7)))⟩, ⟨(some 54), none, (.pure (.bin .shr (.t 53) (.c (.int .u64 32))))⟩, ⟨(some 7), none, (.pure (.move (.t 54)))⟩]))))) (.ops [⟨(some 55), none, (.pure (.bin .add (.t 22) (.c (.int .i64 1))))⟩, ⟨(some 22), none, (.pure (.move (.t 55)))⟩]))))))) (.ops [⟨(some 56), none, (.pure (.move (.t 5)))⟩, ⟨(some 57), none, (.pure (.move (.t 6)))⟩, ⟨(some 58), none, (.pure (.move (.t 1)))⟩, ⟨(some 59), none, (.pure (.len (.t 58)))⟩, ⟨(some 60), none, (.pure (.bin .add (.t 57) (.t 59)))⟩, ⟨(some 61), none, (.pure (.move (.t 7)))⟩, ⟨(some 62), none, (.pure (.conv .u32 (.t 61)))⟩, ⟨(some 63), none, (.pure (.indexAddr 1 (.t 56) (.t 60)))⟩, ⟨none, none, (.eff (.store 1 (.t 63) (.t 62)))⟩]))))) (.ops [⟨(some 64), none, (.pure (.bin .add (.t 17) (.c (.int .i64 1))))⟩, ⟨(some 17), none, (.pure (.move (.t 64)))⟩]))))))) (.seq (.ops [⟨(some 65), none, (.pure (.move (.t 5)))⟩, ⟨(some 66), none, (.call (.c (.func 136 [])) [(.t 65)])⟩, ⟨(some 4), none, (.pure (.move (.t 66)))⟩]) .ret))))
def rs_xmul : List IRes := [(.tmp 4)]
theorem ir_xmul_ok : (Func.body Try.f112).bind (irOf Try.prog Try.f112.ntmps) = some ir_xmul := by kernel_rfl
theorem rs_xmul_ok : Try.f112.results.toList.mapM (resOf Try.prog) = some rs_xmul := by kernel_rfl
theorem ent_xmul : enters Try.prog 112 = true := by kernel_rfl

def ir_mulSmall : IR := (.seq (.ops [⟨(some 6), none, (.pure (.move (.c .nilslice)))⟩]) (.seq (.ops [⟨(some 10), none, (.pure (.move (.t 0)))⟩, ⟨(some 11), none, (.pure (.len (.t 10)))⟩, ⟨(some 12), none, (.pure (.bin .add (.t 11) (.c (.int .i64 1))))⟩, ⟨(some 13), none, (.eff (.makeSlice (.int .u32 0) 4 (.t 12) (.t 12)))⟩, ⟨(some 7), none, (.pure (.move (.t 13)))⟩]) (.seq (.ops [⟨(some 14), none, (.pure (.move (.t 2)))⟩, ⟨(some 15), none, (.pure (.conv .u64 (.t 14)))⟩, ⟨(some 8), none, (.pure (.move (.t 15)))⟩]) (.seq (.seq (.ops [⟨(some 16), none, (.pure (.move (.t 0)))⟩, ⟨(some 17), none, (.pure (.len (.t 16)))⟩, ⟨(some 18), none, (.pure (.move (.c (.int .i64 0))))⟩]) (.block 0 (.loop (.seq (.ops [⟨(some 19), none, (.pure (.bin .lss (.t 18) (.t 17)))⟩]) (.seq (.cond (.t 19) .skip (.exit 0)) (.seq (.block 1 (.seq (.ops [⟨(some 20), none, (.pure (.move (.t 18)))⟩, ⟨(some 9), none, (.pure (.move (.t 20)))⟩]) (.seq (.ops [⟨(some 21), none, (.pure (.move (.t 8)))⟩, ⟨(some 22), none, (.pure (.move (.t 0)))⟩, ⟨(some 23), none, (.pure (.move (.t 9)))⟩, ⟨(some 24), none, (.pure (.indexAddr 1 (.t 22) (.t 23)))⟩, ⟨(some 25), none, (.eff (.load1 (.t 24)))⟩, ⟨(some 26), none, (.pure (.conv .u64 (.t 25)))⟩, ⟨(some 27), none, (.pure (.move (.t 1)))⟩, ⟨(some 28), none, (.pure (.conv .u64 (.t 27)))⟩, ⟨(some 29), none, (.pure (.bin .mul (.t 26) (.t 28)))⟩, ⟨(some 30), none, (.pure (.bin .add (.t 21) (.t 29)))⟩, ⟨(some 8), none, (.pure (.move (.t 30)))⟩]) (.seq (.ops [⟨(some 31), none, (.pure (.move (.t 7)))⟩, ⟨(some 32), none, (.pure (.move (.t 9)))⟩, ⟨(some 33), none, (.pure (.move (.t 8)))⟩, ⟨(some 34), none, (.pure (.conv .u32 (.t 33)))⟩, ⟨(some 35), none, (.pure (.indexAddr 1 (.t 31) (.t 32)))⟩, ⟨none, none, (.eff (.store 1 (.t 35) (.t 34)))⟩]) (.ops [⟨(some 36), none, (.pure (.move (.t 8)))⟩, ⟨(some 37), none, (.pure (.bin .shr (.t 36) (.c (.int .u64 32))))⟩, ⟨(some 8), none, (.pure (.move (.t 37)))⟩]))))) (.ops [⟨(some 38), none, (.pure (.bin .add (.t 18) (.c (.int .i64 1))))⟩, ⟨(some 18), none, (.pure (.move (.t 38)))⟩]))))))) (.seq (.ops [⟨(some 39), none, (.pure (.move (.t 7)))⟩, ⟨(some 40), none, (.pure (.move (.t 0)))⟩, ⟨(some 41), none, (.pure (.len (.t 40)))⟩, ⟨(some 42), none, (.pure (.move (.t 8)))⟩, ⟨(some 43), none, (.pure (.conv .u32 (.t 42)))⟩, ⟨(some 44), none, (.pure (.indexAddr 1 (.t 39) (.t 41)))⟩, ⟨none, none, (.eff (.store 1 (.t 44) (.t 43)))⟩]) (.seq (.ops [⟨(some 45), none, (.pure (.move (.t 7)))⟩, ⟨(some 46), none, (.call (.c (.func 136 [])) [(.t 45)])⟩, ⟨(some 6), none, (.pure (.move (.t 46)))⟩]) .ret))))))
def rs_mulSmall : List IRes := [(.tmp 6)]
theorem ir_mulSmall_ok : (Func.body Try.f156).bind (irOf Try.prog Try.f156.ntmps) = some ir_mulSmall := by kernel_rfl
theorem rs_mulSmall_ok : Try.f156.results.toList.mapM (resOf Try.prog) = some rs_mulSmall := by kernel_rfl
theorem ent_mulSmall : enters Try.prog 156 = true := by kernel_rfl

end Go.Proofs.Ythbhljolpnbdlaa.S1



/- Contracts: isZero, own, sign, Add32. -/
namespace Go.Proofs.Ythbhljolpnbdlaa.S1
open Go Go.Vh

theorem take_all {k : IntKind} {l : List Int} : (ints k l).take l.length = ints k l := by rw [← ints_length (k := k) (l := l), List.take_length]

theorem isZero_calls (κ : SK) (l : List Int) (hk : okS κ l.length) (hm : l.length < 9223372036854775807) : ACalls Try.prog 135 [mkS κ 0 0 l.length] [ro (ints .u32 l)] [0] fun v H => v = .bool (decide (tz l l.length = 0)) ∧ H = [ro (ints .u32 l)] := by
  refine ACalls.body Try.func135 ent_isZero ir_isZero_ok rs_isZero_ok Try.ntmps135 (by simp) rfl ?_
  unfold ir_isZero
  have e0 : s0 [mkS κ 0 0 l.length] 0 = mkS κ 0 0 l.length := rfl
  have ht := tz_le l l.length
  simp (disch := omega) only [sS, ↓reduceIte, Nat.reduceEqDiff, Nat.reduceAdd, Nat.reduceMul, Nat.reduceSub, reduceCtorEq, e_none, e_some, e_bindS, e0]
  refine call_rdS (r := 0) (row := ⟨false, false, ints .u32 l⟩) (xtrim_calls κ l hk hm) rfl rfl take_all rfl ?_
  by_cases h : tz l l.length = 0
  · simp (disch := omega) only [sS, ↓reduceIte, Nat.reduceEqDiff, Nat.reduceAdd, Nat.reduceMul, Nat.reduceSub, reduceCtorEq, e_none, e_some, e_bindS, k_len hk]
    refine ret_keep (by simp) ⟨?_, rfl⟩
    simp only [e_upd, Nat.reduceEqDiff, ↓reduceIte, h, decide_true]
  · simp (disch := omega) only [sS, ↓reduceIte, Nat.reduceEqDiff, Nat.reduceAdd, Nat.reduceMul, Nat.reduceSub, reduceCtorEq, e_none, e_some, e_bindS, k_len hk]
    refine ret_keep (by simp) ⟨?_, rfl⟩
    simp only [e_upd, Nat.reduceEqDiff, ↓reduceIte, h, decide_false]

theorem sign_calls (b : Bool) : ACalls Try.prog 137 [.bool b] [] [] fun v H => v = .int .i64 (if b then 1 else -1) ∧ H = [] := by
  refine ACalls.body Try.func137 ent_sign ir_sign_ok rs_sign_ok Try.ntmps137 (by simp) rfl ?_
  unfold ir_sign
  have e0 : s0 [.bool b] 0 = .bool b := rfl
  cases b <;> (simp (disch := omega) only [sS, ↓reduceIte, Nat.reduceEqDiff, Nat.reduceAdd, Nat.reduceMul, Nat.reduceSub, reduceCtorEq, e_none, e_some, e_bindS, e0]; exact ret_keep (by simp) ⟨by simp only [e_upd, ↓reduceIte, Bool.false_eq_true], rfl⟩)

theorem add32_calls {x y c : Int} (hx : 0 ≤ x ∧ x ≤ 4294967295) (hy : 0 ≤ y ∧ y ≤ 4294967295) (hc : 0 ≤ c ∧ c ≤ 1) : ACalls Try.prog 157 [.int .u32 x, .int .u32 y, .int .u32 c] [] [] fun v H =>
    v = .tuple [.int .u32 ((x + y + c) % 4294967296), .int .u32 ((x + y + c) / 4294967296)] ∧ H = [] := by
  refine ACalls.body Try.func157 ent_add32 ir_add32_ok rs_add32_ok Try.ntmps157 (by simp) rfl ?_
  unfold ir_add32
  have e0 : s0 [.int .u32 x, .int .u32 y, .int .u32 c] 0 = .int .u32 x := rfl
  have e1 : s0 [.int .u32 x, .int .u32 y, .int .u32 c] 1 = .int .u32 y := rfl
  have e2 : s0 [.int .u32 x, .int .u32 y, .int .u32 c] 2 = .int .u32 c := rfl
  have hs : abin .shr (.int .u64 (x + y + c)) (.int .u64 32) = some (.int .u64 ((x + y + c) / 4294967296)) := b_shr (n := 32) (by decide)
  have wu : IntKind.u32.wrap (x + y + c) = (x + y + c) % 4294967296 := IntKind.wrap_u32 _
  have wv : IntKind.u32.wrap ((x + y + c) / 4294967296) = (x + y + c) / 4294967296 := by rw [IntKind.wrap_u32]; omega
  simp (disch := omega) only [sS, ↓reduceIte, Nat.reduceEqDiff, Nat.reduceAdd, Nat.reduceMul, Nat.reduceSub, reduceCtorEq, e_none, e_some, e_bindS, e0, e1, e2, hs, wu, wv]
  exact ret_keep (by simp) ⟨by simp only [e_upd, Nat.reduceEqDiff, ↓reduceIte], rfl⟩
end Go.Proofs.Ythbhljolpnbdlaa.S1


