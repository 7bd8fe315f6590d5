/- ExactOf's walk. -/
import Derived.Test.YtpkeneadkiabiabDoorV7
import Derived.Test.YtpkeneadkiabiabDoorCF
set_option linter.unusedSimpArgs false
set_option linter.unusedVariables false
namespace Go.Proofs.YtpkeneadkiabiabDoor
open Go Go.Vh

theorem two_range {n : Int} (h0 : 0 ≤ n) (h1 : n ≤ 18446744073709551615) : ∀ i, 0 ≤ (two n).getD i 0 ∧ (two n).getD i 0 ≤ 4294967295 := fun i => by
  rcases i with _ | _ | i
  · show 0 ≤ n % 4294967296 ∧ n % 4294967296 ≤ 4294967295; omega
  · show 0 ≤ n / 4294967296 ∧ n / 4294967296 ≤ 4294967295; omega
  · show 0 ≤ (0 : Int) ∧ (0 : Int) ≤ 4294967295; omega
theorem two_length (n : Int) : (two n).length = 2 := rfl

theorem tz_take (l : List Int) (n : Nat) : ∀ m, m ≤ n → tz (l.take n) m = tz l m
  | 0, _ => rfl
  | m + 1, h => by
    have e : (l.take n).getD m 0 = l.getD m 0 := by simp [List.getD_eq_getElem?_getD, List.getElem?_take, show m < n by omega]
    simp only [tz, e, tz_take l n m (by omega)]
theorem tz_tz (l : List Int) (n : Nat) : tz l (tz l n) = tz l n :=
  tz_uniq l (tz l n) (tz l n) (Nat.le_refl _) (tz_last l n) fun i h h' => by omega

theorem rof_calls (n : Int) (h0 : 0 ≤ n) (h1 : n ≤ 18446744073709551615) : ACalls Tryd.prog 9 [.int .u64 n] [] [] fun v H =>
    v = mkS (upK (tz (two n) 2)) 0 0 (tz (two n) 2) ∧ ∃ row : ARow, H = [some row] ∧ row.own = true ∧ row.cells.take (tz (two n) 2) = ints .u32 ((two n).take (tz (two n) 2)) := by
  refine ACalls.body Tryd.func9 ent_rof ir_rof_ok rs_rof_ok Tryd.ntmps9 (by simp) rfl ?_
  unfold ir_rof
  have e0 : s0 [.int .u64 n] 0 = .int .u64 n := rfl
  have wu : IntKind.u32.wrap (n % 4294967296) = n % 4294967296 := by rw [IntKind.wrap_u32]; omega
  have wv : IntKind.u32.wrap (n / 4294967296) = n / 4294967296 := by rw [IntKind.wrap_u32]; omega
  have hr := two_range h0 h1
  simp (disch := omega) only [sS, ↓reduceIte, Nat.reduceEqDiff, Nat.reduceAdd, Nat.reduceMul, Nat.reduceSub, reduceCtorEq, e_none, e_some, e_bindS, e0, b_rem, b_quo, wu, wv]
  rw [x_bs2 (v := .int .u32 (n % 4294967296)) (u := .int .u32 (n / 4294967296)) (by simp only [e_t, e_upd, Nat.reduceEqDiff, ↓reduceIte]) (by simp only [e_t, e_upd, Nat.reduceEqDiff, ↓reduceIte]) rfl rfl rfl]
  simp (disch := omega) only [sS, ↓reduceIte, Nat.reduceEqDiff, Nat.reduceAdd, Nat.reduceMul, Nat.reduceSub, reduceCtorEq, e_none, e_some, e_bindS]
  refine call_ints (r := 0) (row := ⟨true, false, ints .u32 (two n)⟩) (rdigits_calls (.cap 2) (two n) (okS_cap (by simp [two])) (by simp [two]) hr) rfl rfl rfl rfl ?_
  rintro v0 H0' ⟨rfl, rfl⟩
  have hk : digK (two n) = .u := rfl
  have hH : digH (two n) = [ro (ints .u32 (two n)), sl (ints .i64 (digs (two n)))] := rfl
  have hdl : (digs (two n)).length = 8 := rfl
  have ht := tz_le (digs (two n)) 8
  have htt := tz_tz (digs (two n)) 8
  have hn := nat_digs hr
  rw [two_length] at hn
  have hrd := digs_range hr
  rw [two_length, hk, hH, n_mkS0 (r' := 1) rfl]
  simp only [Nat.reduceMul] at *
  generalize hT : tz (digs (two n)) 8 = t at *
  have htl : ((digs (two n)).take t).length = t := by rw [List.length_take]; omega
  have c1 := rtrim_calls .u ((digs (two n)).take t) okS_u (by omega)
  rw [htl, tz_take _ _ _ (Nat.le_refl _), htt] at c1
  simp (disch := omega) only [sS, ↓reduceIte, Nat.reduceEqDiff, Nat.reduceAdd, Nat.reduceMul, Nat.reduceSub, reduceCtorEq, e_none, e_some, e_bindS]
  refine call_ints (r := 1) (row := ⟨true, true, ints .i64 (digs (two n))⟩) c1 rfl ?_ ?_ rfl ?_
  · simp [Vh.rowAt, renRow, sl, ints_ren]
  · rw [htl, ints_take]
  rintro v0 H0' ⟨rfl, rfl⟩
  rw [n_mkS0 (r' := 1) rfl]
  simp (disch := omega) only [sS, ↓reduceIte, Nat.reduceEqDiff, Nat.reduceAdd, Nat.reduceMul, Nat.reduceSub, reduceCtorEq, e_none, e_some, e_bindS]
  have hrt : ∀ i, 0 ≤ ((digs (two n)).take t).getD i 0 ∧ ((digs (two n)).take t).getD i 0 ≤ 255 := fun i => by
    rw [getD_take (digs (two n)) 8 t i (by have := tz_zero (digs (two n)) 8; rw [hT] at this; exact this) (by omega)]; exact hrd i
  have c2 := rnat_calls .u ((digs (two n)).take t) okS_u (by omega) hrt
  rw [htl, hn.1, hn.2] at c2
  by_cases hz : tz (two n) 2 = 0
  · rw [hz] at c2 ⊢
    simp only [if_true] at c2
    refine call_ints (r := 1) (row := ⟨true, true, ints .i64 (digs (two n))⟩) c2 rfl ?_ ?_ rfl ?_
    · simp [Vh.rowAt, renRow, sl, ints_ren]
    · rw [htl, ints_take]
    rintro v0 H0' ⟨rfl, rfl⟩
    simp (disch := omega) only [sS, ↓reduceIte, Nat.reduceEqDiff, Nat.reduceAdd, Nat.reduceMul, Nat.reduceSub, reduceCtorEq, e_none, e_some, e_bindS]
    refine ret_gc [0] rfl rfl (by simp) ?_
    show _ ∧ _
    refine ⟨?_, _, rfl, rfl, rfl⟩
    simp only [gcS, e_upd, Nat.reduceEqDiff, ↓reduceIte]
    rfl
  · simp only [if_neg hz] at c2
    refine call_ints (r := 1) (row := ⟨true, true, ints .i64 (digs (two n))⟩) c2 rfl ?_ ?_ rfl ?_
    · simp [Vh.rowAt, renRow, sl, ints_ren]
    · rw [htl, ints_take]
    rintro v0 H0' ⟨rfl, rfl⟩
    simp (disch := omega) only [sS, ↓reduceIte, Nat.reduceEqDiff, Nat.reduceAdd, Nat.reduceMul, Nat.reduceSub, reduceCtorEq, e_none, e_some, e_bindS]
    refine ret_gc [2] rfl ?_ (by simp) ?_
    · simp [gcH, Vh.rowAt, rw_, sl, renRow, ints_ren, ints_cell]
    show _ ∧ _
    refine ⟨?_, ⟨true, true, ints .u32 ((two n).take (tz (two n) 2))⟩, ?_, rfl, ?_⟩
    · simp only [gcS, e_upd, Nat.reduceEqDiff, ↓reduceIte]
      rw [n_mkS0 (r' := 2) rfl, n_mkS0 (r' := 0) rfl]
    · simp [gcH, Vh.rowAt, sl, rw_, renRow, ints_ren]
    · simp only [ints_take, List.take_take, Nat.min_self]
end Go.Proofs.YtpkeneadkiabiabDoor


