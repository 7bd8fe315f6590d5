/- Contracts: exact's digits, walked. -/
import Derived.Test.YtjmceapnhmeflaaDoorVX
import Derived.Test.YtjmceapnhmeflaaDoorJA
import Derived.Test.YtjmceapnhmeflaaDoorEB
set_option linter.unusedSimpArgs false
set_option linter.unusedVariables false
-- NEWSET
namespace Go.Proofs.YtjmceapnhmeflaaDoor
open Go Go.Vh

/-- A normal number in the row r. -/
def RestAt (H : AHeap) (w : AV) (z : Int) (r : Nat) : Prop := ∃ κ l row, okS κ l.length ∧ w = mkS κ r 0 l.length ∧ Vh.rowAt H r = some row ∧ row.cells.take l.length = ints .u32 l ∧ Limbs l ∧ num l = z ∧ tz l l.length = l.length ∧ l.length ≤ 1000000
theorem RestAt.keep {H H' : AHeap} {w : AV} {z : Int} {r : Nat} (h : RestAt H w z r) (he : Vh.rowAt H' r = Vh.rowAt H r) : RestAt H' w z r := by
  obtain ⟨κ, l, row, h1, h2, h3, h4⟩ := h
  exact ⟨κ, l, row, h1, h2, by rw [he, h3], h4⟩
theorem RestAt.lt {H : AHeap} {w : AV} {z : Int} {r : Nat} (h : RestAt H w z r) : r < H.length := by
  obtain ⟨κ, l, row, h1, h2, h3, h4⟩ := h
  exact row_lt h3
theorem TextAt.app {H R : AHeap} {t : AV} {T : List Int} {q : Nat} (h : TextAt H t T q) : TextAt (H ++ R) t T q := by
  rcases h with h | ⟨h1, h2, h3⟩
  · exact .inl h
  · exact .inr ⟨h1, h2, by rw [rowAt_append_left (row_lt h3)]; exact h3⟩
theorem ct_text {K : St → AHeap → Prop} {d : Option Nat} {s : St} {H : AHeap} {x y : Opd} {t : AV} {T : List Int} {q r c : Nat} {b : Int} (ht : TextAt H t T q) (hx : evo s x = t) (hy : evo s y = .slice r 0 1 c) (hr : Vh.rowAt H r = some ⟨true, false, [.int .u8 b]⟩) (hT : T.length ≤ 1000000)
    (hK : ∀ H', TextAt H' (.sliceU H.length 0 (T ++ [b]).length 1) (T ++ [b]) H.length → H'.length = H.length + 1 → (∀ i, i < H.length → (T = [] ∨ i ≠ q) → Vh.rowAt H' i = Vh.rowAt H i) → K (putI d s (.sliceU H.length 0 (T ++ [b]).length 1)) H') : thenE K d s (ieff (.append 1 1 x y) s H) := by
  obtain ⟨H', e, h1, h2, h3⟩ := x_text ht hx hy hr hT
  rw [e]
  exact hK H' h1 h2 h3
theorem ten_len {d n : Nat} {x z : Nat} {a : Int} (ha : 0 ≤ a) (h : a + (10 : Int) ^ d * (z : Int) = (x : Int)) (hz : 0 < z) (hx : x < 4294967296 ^ n) : d ≤ 10 * n := by
  rcases Nat.lt_or_ge (10 * n) d with hd | hd
  · exfalso
    have h1 : 10 ^ (10 * n) ≤ 10 ^ d := Nat.pow_le_pow_right (by omega) (by omega)
    have h2 : 4294967296 ^ n ≤ (10 ^ 10) ^ n := Nat.pow_le_pow_left (by omega) n
    rw [← Nat.pow_mul] at h2
    have h3 : 10 ^ d ≤ x := by
      have h4 : (10 : Int) ^ d = ((10 ^ d : Nat) : Int) := by rw [Int.natCast_pow]; rfl
      rw [h4, ← Int.natCast_mul] at h
      have h5 : 10 ^ d * 1 ≤ 10 ^ d * z := Nat.mul_le_mul_left _ hz
      omega
    omega
  · exact hd
theorem head_split {H : AHeap} {row : ARow} (h : Vh.rowAt H 0 = some row) : ∃ R, H = [some row] ++ R := by
  cases H with
  | nil => simp [Vh.rowAt] at h
  | cons a R =>
    have : a = some row := by simpa [Vh.rowAt] using h
    subst this
    exact ⟨R, rfl⟩
theorem rest_pos {H : AHeap} {w : AV} {z r : Nat} (h : RestAt H w (z : Int) r) : ∃ κ l row, okS κ l.length ∧ w = mkS κ r 0 l.length ∧ Vh.rowAt H r = some row ∧ row.cells.take l.length = ints .u32 l ∧ Limbs l ∧ num l = (z : Int) ∧ l.length ≤ 1000000 ∧ (0 < l.length ↔ 0 < z) := by
  obtain ⟨κ, l, row, h1, h2, h3, h4, h5, h6, h7, h8⟩ := h
  refine ⟨κ, l, row, h1, h2, h3, h4, h5, h6, h8, ?_⟩
  have := tz_zero_iff h5
  rw [h7, h6] at this
  omega
theorem wu8 {x : Int} (h : 0 ≤ x) (h' : x ≤ 255) : IntKind.u8.wrap x = x := by rw [IntKind.wrap_u8]; omega

set_option maxHeartbeats 2000000 in
theorem xdigits_calls (κ : SK) (l : List Int) (hk : okS κ l.length) (hm : l.length ≤ 50000) (hL : Limbs l) :
    ACalls Tryd.prog 76 [mkS κ 0 0 l.length] [ro (ints .u32 l)] (List.range 1) (UpP (.str (strOfNums (txN (num l).toNat))) [ro (ints .u32 l)]) := by
  refine ACalls.body Tryd.func76 ent_xdigits ir_xdigits_ok rs_xdigits_ok Tryd.ntmps76 (by simp) rfl ?_
  unfold ir_xdigits
  have e0 : s0 [mkS κ 0 0 l.length] 0 = mkS κ 0 0 l.length := rfl
  have hx0 := num_nonneg hL
  have hz := tz_zero_iff hL
  simp (disch := omega) only [sN, ↓reduceIte, Nat.reduceEqDiff, Nat.reduceAdd, Nat.reduceMul, Nat.reduceSub, reduceCtorEq, e_none, e_some, e_bindS, e0, List.map_cons, List.map_nil]
  refine call_ints (isZero_calls κ l hk (by omega)) rfl (row := ⟨false, false, ints .u32 l⟩) rfl take_all rfl ?_
  rintro v0 H0' ⟨rfl, rfl⟩
  rw [n_bool, show ([ro (ints .u32 l)] : AHeap).drop 1 = [] from rfl, List.map_nil, List.append_nil]
  by_cases h0 : num l = 0
  · have ht := hz.2 h0
    rw [ht, h0]
    simp (disch := omega) only [sN, ↓reduceIte, Nat.reduceEqDiff, Nat.reduceAdd, Nat.reduceMul, Nat.reduceSub, reduceCtorEq, e_none, e_some, e_bindS, decide_true]
    refine ret_keep (by simp) ?_
    rw [rs_xdigits, q_tmp, q_then]
    refine ⟨[], by simp, ?_⟩
    simp only [e_upd, e_putS, e_putN, e_t, e_c, Nat.reduceEqDiff, ↓reduceIte, reduceCtorEq, Nat.reduceAdd]
    rfl
  have ht : tz l l.length ≠ 0 := fun h => h0 (hz.1 h)
  simp (disch := omega) only [sN, ↓reduceIte, Nat.reduceEqDiff, Nat.reduceAdd, Nat.reduceMul, Nat.reduceSub, reduceCtorEq, e_none, e_some, e_bindS, e0, ht, decide_false, List.map_cons, List.map_nil]
  refine call_ints (xtrim_calls κ l hk (by omega)) rfl (row := ⟨false, false, ints .u32 l⟩) rfl take_all rfl ?_
  rintro v0 H0' ⟨rfl, rfl⟩
  rw [n_mkS0 (r' := 0) rfl, show ([ro (ints .u32 l)] : AHeap).drop 1 = [] from rfl, List.map_nil, List.append_nil]
  have htl := tz_le l l.length
  have hr0 : RestAt [ro (ints .u32 l)] (mkS κ 0 0 (tz l l.length)) (num l) 0 := by
    have hn := new_of_trim (S := l) (x := num l) (c := l.length) (row := ⟨true, false, ints .u32 l⟩) hL rfl htl rfl rfl
    have hll : (l.take (tz l l.length)).length = tz l l.length := by rw [List.length_take]; omega
    refine ⟨κ, l.take (tz l l.length), ⟨false, false, ints .u32 l⟩, ?_, by rw [hll], rfl, hn.cells, hn.limbs, hn.num, hn.norm, by rw [hll]; omega⟩
    rw [hll]; cases κ <;> simp only [okS] at * <;> omega
  obtain ⟨x, hx⟩ : ∃ x : Nat, num l = x := ⟨(num l).toNat, by omega⟩
  rw [hx, Int.toNat_natCast]
  rw [hx] at hr0
  have hxp : x ≠ 0 := by omega
  have hxb : x < 4294967296 ^ l.length := by
    have h1 : num l < BB ^ l.length := (nv_bound hL l.length).2
    rw [hx, show BB = ((4294967296 : Nat) : Int) from rfl, ← Int.natCast_pow] at h1
    omega
  simp (disch := omega) only [sN, ↓reduceIte, Nat.reduceEqDiff, Nat.reduceAdd, Nat.reduceMul, Nat.reduceSub, reduceCtorEq, e_none, e_some, e_bindS]
  refine ⟨fun m s H => ∃ (w t : AV) (z : Nat) (D : List Int) (r q : Nat), m = z ∧ Vh.rowAt H 0 = some ⟨false, false, ints .u32 l⟩ ∧ RestAt H w (z : Int) r ∧ TextAt H t (tb D) q ∧ Dt.DL D ∧ (D = [] ∨ (q ≠ 0 ∧ q ≠ r)) ∧ Dt.num D + (10 : Int) ^ D.length * (z : Int) = (x : Int) ∧ D.length ≤ 10 * l.length + 9 ∧ s 4 = w ∧ s 3 = t, x, ⟨_, .nilslice, x, [], 0, 0, rfl, rfl, hr0, .inl ⟨rfl, rfl⟩, fun i => by simp, .inl rfl, by simp [Dt.num, Dt.nv], by simp, ?_, ?_⟩, ?_⟩
  · simp only [e_upd, e_putS, e_putN, e_t, e_c, Nat.reduceEqDiff, ↓reduceIte, reduceCtorEq, Nat.reduceAdd]
  · simp only [e_upd, e_putS, e_putN, e_t, e_c, Nat.reduceEqDiff, ↓reduceIte, reduceCtorEq, Nat.reduceAdd]
  rintro z s H ⟨w, t, _, D, r, q, rfl, hH0, hR, hT, hD, hq, hsum, hDl, h4, h3⟩
  obtain ⟨κ', l', row', g1, rfl, g3, g4, g5, g6, g7, g8⟩ := rest_pos hR
  have hD0 := Dt.num_nonneg hD
  by_cases hz0 : 0 < z
  · have hlp := g8.2 hz0
    have hdl := ten_len hD0 hsum hz0 hxb
    simp (disch := omega) only [sN, ↓reduceIte, Nat.reduceEqDiff, Nat.reduceAdd, Nat.reduceMul, Nat.reduceSub, reduceCtorEq, e_none, e_some, e_bindS, h3, h4, k_len g1, List.map_cons, List.map_nil]
    refine call_ints (r := r) (row := row') (divideSmall_calls κ' l' g1 g7 g5 (y := 1000000000) (by omega)) rfl g3 g4 rfl ?_
    rintro v0 H0' ⟨rfl, rfl⟩
    have hdn := dsS_length l' 1000000000 l'.length l'.length
    obtain ⟨hdL, hd1, hd2⟩ := dsS_range g5 (y := 1000000000) (by omega) l'.length l'.length
    obtain ⟨hdq, hdr⟩ := dsS_num g5 (y := 1000000000) (by omega)
    rw [g6] at hdq hdr
    have htt := tz_le (dsS l' 1000000000 l'.length l'.length).1 l'.length
    obtain ⟨p0, hp0⟩ : ∃ p : Nat, (dsS l' 1000000000 l'.length l'.length).2 = p := ⟨((dsS l' 1000000000 l'.length l'.length).2).toNat, by omega⟩
    rw [n_tuple, n_lcons, n_lcons, n_lnil, n_int, n_mkS0 (r' := H.length) (by simp [sig]), hp0]
    have hrow : ([ro (ints .u32 l'), rw_ (ints .u32 (dsS l' 1000000000 l'.length l'.length).1)] : AHeap).drop 1 = [rw_ (ints .u32 (dsS l' 1000000000 l'.length l'.length).1)] := rfl
    rw [hrow, List.map_cons, List.map_nil, show renRow (sig [(r, 0)] H.length) (rw_ (ints .u32 (dsS l' 1000000000 l'.length l'.length).1)) = rw_ (ints .u32 (dsS l' 1000000000 l'.length l'.length).1) by simp [rw_, renRow, ints_ren]]
    obtain ⟨z2, hz2⟩ : ∃ z2 : Nat, z2 = z / 1000000000 := ⟨_, rfl⟩
    have hzz : z = p0 + 1000000000 * z2 ∧ p0 < 1000000000 := by
      have : (p0 : Int) = (z : Int) % 1000000000 := by rw [← hp0, hdr]
      omega
    have hR2 : RestAt (H ++ [rw_ (ints .u32 (dsS l' 1000000000 l'.length l'.length).1)]) (mkS (.cap l'.length) H.length 0 (tz (dsS l' 1000000000 l'.length l'.length).1 l'.length)) (z2 : Int) H.length := by
      have hn := new_of_trim (S := (dsS l' 1000000000 l'.length l'.length).1) (x := (z2 : Int)) (c := l'.length) (row := ⟨true, false, ints .u32 (dsS l' 1000000000 l'.length l'.length).1⟩) hdL (by rw [hdq, hz2, Int.natCast_ediv]; rfl) (by rw [hdn]; exact htt) rfl rfl
      rw [hdn] at hn
      have hll : ((dsS l' 1000000000 l'.length l'.length).1.take (tz (dsS l' 1000000000 l'.length l'.length).1 l'.length)).length = tz (dsS l' 1000000000 l'.length l'.length).1 l'.length := by rw [List.length_take]; omega
      refine ⟨.cap l'.length, (dsS l' 1000000000 l'.length l'.length).1.take (tz (dsS l' 1000000000 l'.length l'.length).1 l'.length), ⟨true, false, ints .u32 (dsS l' 1000000000 l'.length l'.length).1⟩, hn.ok, by rw [hll], by simp [Vh.rowAt, rw_], hn.cells, hn.limbs, hn.num, hn.norm, by rw [hll]; omega⟩
    have hT2 := hT.app (R := [rw_ (ints .u32 (dsS l' 1000000000 l'.length l'.length).1)])
    have hH02 : Vh.rowAt (H ++ [rw_ (ints .u32 (dsS l' 1000000000 l'.length l'.length).1)]) 0 = some ⟨false, false, ints .u32 l⟩ := by rw [rowAt_append_left (row_lt hH0)]; exact hH0
    have hq2 : D = [] ∨ (q ≠ 0 ∧ q ≠ H.length) := by
      rcases hq with h | ⟨h, _⟩
      · exact .inl h
      · rcases hT with ⟨ha, _⟩ | ⟨_, _, hb⟩
        · exact .inl (by simpa [tb] using ha)
        · have := row_lt hb
          exact .inr ⟨h, by omega⟩
    generalize mkS (.cap l'.length) H.length 0 (tz (dsS l' 1000000000 l'.length l'.length).1 l'.length) = w2 at *
    obtain ⟨r2, hr2⟩ : ∃ r2, r2 = H.length := ⟨_, rfl⟩
    rw [← hr2] at hR2 hq2
    obtain ⟨H2, hH2⟩ : ∃ h, h = H ++ [rw_ (ints .u32 (dsS l' 1000000000 l'.length l'.length).1)] := ⟨_, rfl⟩
    rw [← hH2] at hR2 hT2 hH02 ⊢
    clear hH2 hr2 hT hH0 hR g3 g4 hdL hdn hdq hdr hp0 htt hrow hq g8 hlp hd1 hd2 g5 g6 g7 g1
    simp (disch := omega) only [sN, ↓reduceIte, Nat.reduceEqDiff, Nat.reduceAdd, Nat.reduceMul, Nat.reduceSub, reduceCtorEq, e_none, e_some, e_bindS, h3, h4, List.getElem?_cons_zero, List.getElem?_cons_succ]
    refine ⟨fun m s H => ∃ (j p : Nat) (t : AV) (D2 : List Int) (q : Nat), m = 9 - j ∧ j ≤ 9 ∧ p < 10 ^ (9 - j) ∧ Vh.rowAt H 0 = some ⟨false, false, ints .u32 l⟩ ∧ RestAt H w2 (z2 : Int) r2 ∧ TextAt H t (tb D2) q ∧ Dt.DL D2 ∧ (D2 = [] ∨ (q ≠ 0 ∧ q ≠ r2)) ∧ Dt.num D2 + (10 : Int) ^ D2.length * ((p : Int) + (10 : Int) ^ (9 - j) * (z2 : Int)) = (x : Int) ∧ D2.length = D.length + j ∧ s 4 = w2 ∧ s 3 = t ∧ s 5 = .int .u32 (p : Int) ∧ s 18 = .int .i64 (j : Int), 9, ⟨0, p0, t, D, q, rfl, by omega, by omega, hH02, hR2, hT2, hD, hq2, ?_, rfl, ?_, ?_, ?_, ?_⟩, ?_⟩
    · rw [← hsum]; congr 2; omega
    · simp only [e_upd, e_putS, e_putN, e_t, e_c, Nat.reduceEqDiff, ↓reduceIte, reduceCtorEq, Nat.reduceAdd]
    · simp only [e_upd, e_putS, e_putN, e_t, e_c, Nat.reduceEqDiff, ↓reduceIte, reduceCtorEq, Nat.reduceAdd, h3]
    · simp only [e_upd, e_putS, e_putN, e_t, e_c, Nat.reduceEqDiff, ↓reduceIte, reduceCtorEq, Nat.reduceAdd]
    · simp only [e_upd, e_putS, e_putN, e_t, e_c, Nat.reduceEqDiff, ↓reduceIte, reduceCtorEq, Nat.reduceAdd]; rfl
    rintro m s H ⟨j, p, t, D2, q, rfl, hj, hp, hH0, hR, hT, hD2, hq, hsum2, hlen, k4, k3, k5, k18⟩
    by_cases hj9 : j < 9
    · have hpe : 10 ^ (9 - j) = 10 * 10 ^ (9 - (j + 1)) := by rw [show 9 - j = (9 - (j + 1)) + 1 by omega, Nat.pow_succ, Nat.mul_comm]
      have hpm : 10 ^ (9 - j) ≤ 10 ^ 9 := Nat.pow_le_pow_right (by omega) (by omega)
      have hpe2 : (10 : Int) ^ (9 - j) = 10 * (10 : Int) ^ (9 - (j + 1)) := by rw [show 9 - j = (9 - (j + 1)) + 1 by omega, Int.pow_succ, Int.mul_comm]
      have w1 : IntKind.u8.wrap ((p : Int) % 10) = (p : Int) % 10 := wu8 (by omega) (by omega)
      have w2' : IntKind.u8.wrap (48 + (p : Int) % 10) = 48 + (p : Int) % 10 := wu8 (by omega) (by omega)
      simp (disch := omega) only [sN, ↓reduceIte, Nat.reduceEqDiff, Nat.reduceAdd, Nat.reduceMul, Nat.reduceSub, reduceCtorEq, e_none, e_some, e_bindS, k3, k4, k5, k18, b_rem, w1, w2']
      rw [x_bs1 (v := .int .u8 (48 + (p : Int) % 10)) (by simp only [e_upd, e_putS, e_putN, e_t, e_c, Nat.reduceEqDiff, ↓reduceIte, reduceCtorEq, Nat.reduceAdd]) rfl]
      simp (disch := omega) only [sN, ↓reduceIte, Nat.reduceEqDiff, Nat.reduceAdd, Nat.reduceMul, Nat.reduceSub, reduceCtorEq, e_none, e_some, e_bindS, k3, k4, k5, k18]
      refine ct_text (r := H.length) (c := 1) (b := 48 + (p : Int) % 10) hT.app (by simp only [e_upd, e_putS, e_putN, e_t, e_c, Nat.reduceEqDiff, ↓reduceIte, reduceCtorEq, Nat.reduceAdd, k3]) (by simp only [e_upd, e_putS, e_putN, e_t, e_c, Nat.reduceEqDiff, ↓reduceIte, reduceCtorEq, Nat.reduceAdd]) (by simp [Vh.rowAt, rw_]) (by rw [tb_length]; omega) fun H' m1 m2 m3 => ?_
      simp (disch := omega) only [sN, ↓reduceIte, Nat.reduceEqDiff, Nat.reduceAdd, Nat.reduceMul, Nat.reduceSub, reduceCtorEq, e_none, e_some, e_bindS, k3, k4, k5, k18, b_quo]
      have hD3 : Dt.DL (D2 ++ [(p : Int) % 10]) := dl_snoc hD2 (by omega)
      have hr2l := hR.lt
      have h0l := row_lt hH0
      have hlH : (H ++ [rw_ [AV.int .u8 (48 + (p : Int) % 10)]]).length = H.length + 1 := by simp
      rw [← tb_snoc] at m1
      refine loop_keep (m := 9 - (j + 1)) (by omega) ⟨j + 1, p / 10, _, D2 ++ [(p : Int) % 10], _, rfl, by omega, by omega, ?_, ?_, m1, hD3, .inr ⟨by rw [hlH]; omega, by rw [hlH]; omega⟩, ?_, by simp; omega, ?_, ?_, ?_, ?_⟩
      · rw [m3 0 (by omega) ?_, rowAt_append_left h0l]
        · exact hH0
        · rcases hq with h | h
          · exact .inl (by rw [h]; rfl)
          · exact .inr (Ne.symm h.1)
      · refine (hR.keep (rowAt_append_left hr2l)).keep (m3 r2 (by omega) ?_)
        rcases hq with h | h
        · exact .inl (by rw [h]; rfl)
        · exact .inr (Ne.symm h.2)
      · rw [dt_snoc, ← hsum2, hpe2, List.length_append, List.length_singleton, Int.pow_succ, Int.natCast_ediv]
        generalize (10 : Int) ^ D2.length = A
        generalize (10 : Int) ^ (9 - (j + 1)) = B
        have e1 := Int.emod_add_mul_ediv (p : Int) 10
        have e2 : A * ((p : Int) + 10 * B * (z2 : Int)) = (p : Int) % 10 * A + A * 10 * ((p : Int) / 10 + B * (z2 : Int)) := by
          conv => lhs; rw [← e1]
          simp only [Int.mul_add, Int.mul_comm, Int.mul_left_comm, Int.mul_assoc]
          omega
        rw [e2, Int.add_assoc]; rfl
      · simp only [e_upd, e_putS, e_putN, e_t, e_c, Nat.reduceEqDiff, ↓reduceIte, reduceCtorEq, Nat.reduceAdd, k4]
      · simp only [e_upd, e_putS, e_putN, e_t, e_c, Nat.reduceEqDiff, ↓reduceIte, reduceCtorEq, Nat.reduceAdd, tb_snoc]
      · simp only [e_upd, e_putS, e_putN, e_t, e_c, Nat.reduceEqDiff, ↓reduceIte, reduceCtorEq, Nat.reduceAdd]; rfl
      · simp only [e_upd, e_putS, e_putN, e_t, e_c, Nat.reduceEqDiff, ↓reduceIte, reduceCtorEq, Nat.reduceAdd]; rfl
    · obtain rfl : j = 9 := by omega
      have hp9 : p = 0 := by simp at hp; exact hp
      subst hp9
      simp (disch := omega) only [sN, ↓reduceIte, Nat.reduceEqDiff, Nat.reduceAdd, Nat.reduceMul, Nat.reduceSub, reduceCtorEq, e_none, e_some, e_bindS, k3, k4, k5, k18]
      refine loop_keep (m := z2) (by omega) ⟨w2, t, z2, D2, r2, q, rfl, hH0, hR, hT, hD2, hq, ?_, by omega, ?_, ?_⟩
      · rw [← hsum2]; simp
      · simp only [e_upd, e_putS, e_putN, e_t, e_c, Nat.reduceEqDiff, ↓reduceIte, reduceCtorEq, Nat.reduceAdd, k4]
      · simp only [e_upd, e_putS, e_putN, e_t, e_c, Nat.reduceEqDiff, ↓reduceIte, reduceCtorEq, Nat.reduceAdd, k3]
  · obtain rfl : z = 0 := by omega
    have hlz : ¬ 0 < l'.length := fun h => hz0 (g8.1 h)
    have hDx : Dt.num D = (x : Int) := by rw [← hsum]; simp
    have hDne : D ≠ [] := by
      rintro rfl
      simp [Dt.num, Dt.nv] at hDx
      omega
    have hTne : tb D ≠ [] := by simpa [tb] using hDne
    have htl2 := tb_length D
    rcases hT with ⟨ha, _⟩ | ⟨_, rfl, hrow⟩
    · exact absurd ha hTne
    have hq' : q ≠ 0 := by
      rcases hq with h | h
      · exact absurd h hDne
      · exact h.1
    have hb := tb_bytes hD
    simp (disch := omega) only [sN, ↓reduceIte, Nat.reduceEqDiff, Nat.reduceAdd, Nat.reduceMul, Nat.reduceSub, reduceCtorEq, e_none, e_some, e_bindS, h3, h4, k_len g1, List.map_cons, List.map_nil]
    refine call_rev (by omega) hrow ?_
    simp (disch := omega) only [sN, ↓reduceIte, Nat.reduceEqDiff, Nat.reduceAdd, Nat.reduceMul, Nat.reduceSub, reduceCtorEq, e_none, e_some, e_bindS, h3, h4]
    have hql := row_lt hrow
    rw [x_strI (q := q) (n := (tb D).length) (sk := true) (l := (tb D).reverse) (by simp only [e_upd, e_putS, e_putN, e_t, e_c, Nat.reduceEqDiff, ↓reduceIte, reduceCtorEq, Nat.reduceAdd, h3]) (by simp) (by rw [rowAt_set hql, if_pos rfl]) (by simpa using hTne)]
    simp (disch := omega) only [sN, ↓reduceIte, Nat.reduceEqDiff, Nat.reduceAdd, Nat.reduceMul, Nat.reduceSub, reduceCtorEq, e_none, e_some, e_bindS, List.map_cons, List.map_nil]
    refine call_do (trimLeft_calls (tb D).reverse (fun x hx => hb x (by simpa using hx)) (by simp; omega) (by simpa using hTne)) [] rfl rfl rfl rfl trivial ?_
    rintro v0 H0' ⟨rfl, rfl⟩
    rw [m_merge, m_nil, txN_of hD hDx hxp]
    simp (disch := omega) only [sN, ↓reduceIte, Nat.reduceEqDiff, Nat.reduceAdd, Nat.reduceMul, Nat.reduceSub, reduceCtorEq, e_none, e_some, e_bindS, List.map_nil, List.append_nil]
    refine ret_keep (by simp; have := row_lt hH0; omega) ?_
    rw [rs_xdigits, q_tmp, q_then]
    obtain ⟨R, hR'⟩ := head_split (H := (H.set q (some ⟨true, true, ints .u8 (tb D).reverse⟩)) ++ List.drop 0 []) (row := ⟨false, false, ints .u32 l⟩) (by rw [show List.drop 0 ([] : AHeap) = [] from rfl, List.append_nil, row_other0 hq']; exact hH0)
    refine ⟨R, ?_, ?_⟩
    · simpa [ro] using hR'
    · simp only [e_upd, e_putS, e_putN, e_t, e_c, Nat.reduceEqDiff, ↓reduceIte, reduceCtorEq, Nat.reduceAdd]
      rfl
end Go.Proofs.YtjmceapnhmeflaaDoor


/- Contracts: the reference's text: the decimal text of a number. -/
-- NEWSET
namespace Go.Proofs.YtjmceapnhmeflaaDoor
open Go Go.Vh

theorem ten_len2 {d n : Nat} {x z : Nat} {a : Int} (ha : 0 ≤ a) (h : a + (10 : Int) ^ d * (z : Int) = (x : Int)) (hz : 0 < z) (hx : x < 256 ^ n) : d ≤ 3 * n := by
  rcases Nat.lt_or_ge (3 * n) d with hd | hd
  · exfalso
    have h1 : 10 ^ (3 * n) ≤ 10 ^ d := Nat.pow_le_pow_right (by omega) (by omega)
    have h2 : 256 ^ n ≤ (10 ^ 3) ^ n := Nat.pow_le_pow_left (by omega) n
    rw [← Nat.pow_mul] at h2
    have h3 : 10 ^ d ≤ x := by
      have h4 : (10 : Int) ^ d = ((10 ^ d : Nat) : Int) := by rw [Int.natCast_pow]; rfl
      rw [h4, ← Int.natCast_mul] at h
      have h5 : 10 ^ d * 1 ≤ 10 ^ d * z := Nat.mul_le_mul_left _ hz
      omega
    omega
  · exact hd
theorem txN_dg {D : List Int} (h : Dt.DL D) {n : Nat} (hn : Dt.num D = (n : Int)) (h0 : n ≠ 0) (hl : D.length ≠ 0 → D.getD (D.length - 1) 0 ≠ 0) : (tb D).reverse = txN n := by
  have hz : Dt.tz D D.length = D.length := Dt.tz_uniq D D.length D.length (Nat.le_refl _) hl fun i h1 h2 => by omega
  have := Dt.norm_dg h hz
  rw [hn, Int.toNat_natCast] at this
  rw [txN, if_neg h0, ← this]
theorem take_get {row : ARow} {l : List Int} {k : IntKind} {i : Nat} (h : row.cells.take l.length = ints k l) (hi : i < l.length) : row.cells[i]? = some (.int k (l.getD i 0)) := by
  have : (row.cells.take l.length)[i]? = row.cells[i]? := by rw [List.getElem?_take, if_pos hi]
  rw [← this, h, ints_get hi]
theorem dgs_lt (x : Nat) : x < 256 ^ (Dg.dg x).length := by
  have h1 := (Dg.nv_bound (Dg.dg_dl x) (Dg.dg x).length).2
  have h2 : Dg.num (Dg.dg x) < Dg.DB ^ (Dg.dg x).length := h1
  rw [Dg.dg_num, show Dg.DB = ((256 : Nat) : Int) from rfl, ← Int.natCast_pow] at h2
  omega
theorem ql_top {a : List Int} {b : Nat} : Dg.ql a b a.length = List.replicate a.length 0 := by
  apply List.ext_getElem
  · simp [Dg.ql_length]
  · intro i h1 h2
    have h3 : i < a.length := by simpa using h2
    have := Dg.ql_get (a := a) (b := b) (i := a.length) (j := i) h3
    rw [List.getD_eq_getElem?_getD, List.getElem?_eq_getElem h1, Option.getD_some] at this
    rw [this, if_neg (by omega)]; simp

set_option maxHeartbeats 2000000 in
theorem rtext_calls (κ : SK) (x : Nat) (hk : okS κ (Dg.dg x).length) (hm : (Dg.dg x).length ≤ 100000) :
    ACalls Tryd.prog 81 [mkS κ 0 0 (Dg.dg x).length] [ro (ints .i64 (Dg.dg x))] (List.range 1) (UpP (.str (strOfNums (txN x))) [ro (ints .i64 (Dg.dg x))]) := by
  refine ACalls.body Tryd.func81 ent_rtext ir_rtext_ok rs_rtext_ok Tryd.ntmps81 (by simp) rfl ?_
  unfold ir_rtext
  have e0 : s0 [mkS κ 0 0 (Dg.dg x).length] 0 = mkS κ 0 0 (Dg.dg x).length := rfl
  by_cases hx0 : x = 0
  · subst hx0
    have hl : (Dg.dg 0).length = 0 := by rw [Dg.dg_zero]; rfl
    simp (disch := omega) only [sN, ↓reduceIte, Nat.reduceEqDiff, Nat.reduceAdd, Nat.reduceMul, Nat.reduceSub, reduceCtorEq, e_none, e_some, e_bindS, e0, k_len hk]
    refine ret_keep (by simp) ?_
    rw [rs_rtext, q_tmp, q_then]
    refine ⟨[], by simp, ?_⟩
    simp only [e_upd, e_putS, e_putN, e_t, e_c, Nat.reduceEqDiff, ↓reduceIte, reduceCtorEq, Nat.reduceAdd]
    rfl
  have hxl : 0 < (Dg.dg x).length := by rw [Dg.dg_pos (by omega)]; simp
  have hxb : x < 256 ^ (Dg.dg x).length := dgs_lt x
  obtain ⟨N, hN⟩ : ∃ N, N = (Dg.dg x).length := ⟨_, rfl⟩
  have hr0 : AtD [ro (ints .i64 (Dg.dg x))] (mkS κ 0 0 (Dg.dg x).length) x 0 := ⟨κ, _, hk, rfl, rfl, take_all⟩
  simp (disch := omega) only [sN, ↓reduceIte, Nat.reduceEqDiff, Nat.reduceAdd, Nat.reduceMul, Nat.reduceSub, reduceCtorEq, e_none, e_some, e_bindS, e0, k_len hk]
  refine ⟨fun m s H => ∃ (w t : AV) (z : Nat) (D : List Int) (r q : Nat), m = z ∧ Vh.rowAt H 0 = some ⟨false, false, ints .i64 (Dg.dg x)⟩ ∧ AtD H w z r ∧ TextAt H t (tb D) q ∧ Dt.DL D ∧ (D = [] ∨ (q ≠ 0 ∧ q ≠ r)) ∧ Dt.num D + (10 : Int) ^ D.length * (z : Int) = (x : Int) ∧ D.length ≤ 3 * N + 1 ∧ (z = 0 → D.length ≠ 0 → D.getD (D.length - 1) 0 ≠ 0) ∧ z ≤ x ∧ s 0 = w ∧ s 3 = t, x, ⟨_, .nilslice, x, [], 0, 0, rfl, rfl, hr0, .inl ⟨rfl, rfl⟩, fun i => by simp, .inl rfl, by simp [Dt.num, Dt.nv], by simp, fun h => absurd h hx0, Nat.le_refl _, ?_, ?_⟩, ?_⟩
  · simp only [e_upd, e_putS, e_putN, e_t, e_c, Nat.reduceEqDiff, ↓reduceIte, reduceCtorEq, Nat.reduceAdd, e0]
  · simp only [e_upd, e_putS, e_putN, e_t, e_c, Nat.reduceEqDiff, ↓reduceIte, reduceCtorEq, Nat.reduceAdd]
  rintro z s H ⟨w, t, _, D, r, q, rfl, hH0, hR, hT, hD, hq, hsum, hDl, htop, hzx, h0, h3⟩
  have hrl := hR.lt
  have hRR := hR
  obtain ⟨κ', row, g1, rfl, g3, g4⟩ := hR
  have hD0 := Dt.num_nonneg hD
  by_cases hz0 : 0 < z
  · have hlp : 0 < (Dg.dg z).length := by rw [Dg.dg_pos hz0]; simp
    have hdl := ten_len2 hD0 hsum hz0 hxb
    have hzl : (Dg.dg z).length ≤ N := by rw [hN]; exact Dg.dg_len_le (Nat.lt_of_le_of_lt hzx hxb)
    have hdd := Dg.dg_dl z
    obtain ⟨L, hLe⟩ : ∃ L, L = (Dg.dg z).length := ⟨_, rfl⟩
    have hLn : (((Dg.dg z).length : Nat) : Int) = (L : Int) := by rw [hLe]
    simp (disch := omega) only [sN, ↓reduceIte, Nat.reduceEqDiff, Nat.reduceAdd, Nat.reduceMul, Nat.reduceSub, reduceCtorEq, e_none, e_some, e_bindS, h0, h3, k_len g1, hLn]
    rw [x_make (n := (L : Int)) (by simp only [e_upd, e_putS, e_putN, e_t, e_c, Nat.reduceEqDiff, ↓reduceIte, reduceCtorEq, Nat.reduceAdd]) (by omega) (by omega) (by omega)]
    simp (disch := omega) only [sN, ↓reduceIte, Nat.reduceEqDiff, Nat.reduceAdd, Nat.reduceMul, Nat.reduceSub, reduceCtorEq, e_none, e_some, e_bindS, h0, h3, k_len g1, hLn, Int.toNat_natCast]
    have hrows : Vh.rowAt (H ++ [rw_ (ints .i64 (List.replicate L 0))]) H.length = some ⟨true, false, ints .i64 (Dg.ql (Dg.dg z) 10 L)⟩ := by
      rw [hLe, ql_top]; simp [Vh.rowAt, rw_]
    refine ⟨fun m s H1 => ∃ i : Nat, m = i ∧ i ≤ L ∧ H1.length = H.length + 1 ∧ (∀ a, a < H.length → Vh.rowAt H1 a = Vh.rowAt H a) ∧ Vh.rowAt H1 H.length = some ⟨true, false, ints .i64 (Dg.ql (Dg.dg z) 10 i)⟩ ∧ s 0 = mkS κ' r 0 (Dg.dg z).length ∧ s 3 = t ∧ s 4 = .int .i64 ((Dg.up (Dg.dg z) i % 10 : Nat) : Int) ∧ s 5 = .slice H.length 0 L L ∧ s 6 = .int .i64 ((i : Int) - 1), L, ⟨L, rfl, Nat.le_refl _, by simp, fun a ha => rowAt_append_left ha, hrows, ?_, ?_, ?_, ?_, ?_⟩, ?_⟩
    · simp only [e_upd, e_putS, e_putN, e_t, e_c, Nat.reduceEqDiff, ↓reduceIte, reduceCtorEq, Nat.reduceAdd, h0]
    · simp only [e_upd, e_putS, e_putN, e_t, e_c, Nat.reduceEqDiff, ↓reduceIte, reduceCtorEq, Nat.reduceAdd, h3]
    · have : Dg.up (Dg.dg z) L = 0 := Dg.up_over (by omega)
      simp only [e_upd, e_putS, e_putN, e_t, e_c, Nat.reduceEqDiff, ↓reduceIte, reduceCtorEq, Nat.reduceAdd, this]; rfl
    · simp only [e_upd, e_putS, e_putN, e_t, e_c, Nat.reduceEqDiff, ↓reduceIte, reduceCtorEq, Nat.reduceAdd]
    · simp only [e_upd, e_putS, e_putN, e_t, e_c, Nat.reduceEqDiff, ↓reduceIte, reduceCtorEq, Nat.reduceAdd]
    rintro i s H1 ⟨_, rfl, hi, hlen1, hold, hrowq, k0, k3, k4, k5, k6⟩
    by_cases hi0 : 0 < i
    · have hi1 : (i : Int) - 1 = ((i - 1 : Nat) : Int) := by omega
      rw [hi1] at k6
      have hget := take_get g4 (show i - 1 < (Dg.dg z).length by omega)
      have hrow1 : Vh.rowAt H1 r = some row := by rw [hold r hrl, g3]
      have hdi := hdd (i - 1)
      have hu := Dg.up_div hdd (b := 10) (by omega) (i := i - 1) (by omega)
      rw [show i - 1 + 1 = i by omega] at hu
      obtain ⟨y, hy⟩ : ∃ y : Nat, (Dg.dg z).getD (i - 1) 0 = y := ⟨((Dg.dg z).getD (i - 1) 0).toNat, by omega⟩
      have hqd : Dg.qd (Dg.dg z) 10 (i - 1) = (256 * (Dg.up (Dg.dg z) i % 10) + y) / 10 := by
        unfold Dg.qd; rw [show i - 1 + 1 = i by omega, hy, Int.toNat_natCast]
      rw [hy] at hget hu hdi
      rw [Int.toNat_natCast] at hu
      obtain ⟨c, hc⟩ : ∃ c, c = Dg.up (Dg.dg z) i % 10 := ⟨_, rfl⟩
      have hc10 : c < 10 := by rw [hc]; exact Nat.mod_lt _ (by omega)
      rw [← hc] at hu hqd k4
      simp (disch := omega) only [sN, ↓reduceIte, Nat.reduceEqDiff, Nat.reduceAdd, Nat.reduceMul, Nat.reduceSub, reduceCtorEq, e_none, e_some, e_bindS, k0, k3, k4, k5, k6, k_idx g1, hrow1, hget, Option.bind_some, Option.map_some, Int.toNat_natCast, b_quo]
      rw [x_store (r := H.length) (off := i - 1) (k := .i64) (b := ((c : Int) * 256 + (y : Int)) / 10) (l := Dg.ql (Dg.dg z) 10 i) (by simp only [e_upd, e_putS, e_putN, e_t, e_c, Nat.reduceEqDiff, ↓reduceIte, reduceCtorEq, Nat.reduceAdd]) (by simp only [e_upd, e_putS, e_putN, e_t, e_c, Nat.reduceEqDiff, ↓reduceIte, reduceCtorEq, Nat.reduceAdd]) hrowq (by rw [Dg.ql_length]; omega)]
      simp (disch := omega) only [sN, ↓reduceIte, Nat.reduceEqDiff, Nat.reduceAdd, Nat.reduceMul, Nat.reduceSub, reduceCtorEq, e_none, e_some, e_bindS, k0, k3, k4, k5, k6, b_rem]
      have hset : (Dg.ql (Dg.dg z) 10 i).set (i - 1) (((c : Int) * 256 + (y : Int)) / 10) = Dg.ql (Dg.dg z) 10 (i - 1) := by
        have := Dg.ql_set (a := Dg.dg z) (b := 10) (i := i - 1) (by omega)
        rw [show i - 1 + 1 = i by omega, hqd] at this
        rw [← this]; congr 1; omega
      rw [hset]
      refine loop_keep (m := i - 1) (by omega) ⟨i - 1, rfl, by omega, by simpa using hlen1, fun a ha => by rw [row_other0 (by omega)]; exact hold a ha, by rw [rowAt_set (by omega), if_pos rfl]; rfl, ?_, ?_, ?_, ?_, ?_⟩
      · simp only [e_upd, e_putS, e_putN, e_t, e_c, Nat.reduceEqDiff, ↓reduceIte, reduceCtorEq, Nat.reduceAdd, k0]
      · simp only [e_upd, e_putS, e_putN, e_t, e_c, Nat.reduceEqDiff, ↓reduceIte, reduceCtorEq, Nat.reduceAdd, k3]
      · simp only [e_upd, e_putS, e_putN, e_t, e_c, Nat.reduceEqDiff, ↓reduceIte, reduceCtorEq, Nat.reduceAdd]; rw [hu.2]; congr 1; omega
      · simp only [e_upd, e_putS, e_putN, e_t, e_c, Nat.reduceEqDiff, ↓reduceIte, reduceCtorEq, Nat.reduceAdd, k5]
      · simp only [e_upd, e_putS, e_putN, e_t, e_c, Nat.reduceEqDiff, ↓reduceIte, reduceCtorEq, Nat.reduceAdd]
    · obtain rfl : i = 0 := by omega
      simp (disch := omega) only [sN, ↓reduceIte, Nat.reduceEqDiff, Nat.reduceAdd, Nat.reduceMul, Nat.reduceSub, reduceCtorEq, e_none, e_some, e_bindS, k0, k3, k4, k5, k6, List.map_cons, List.map_nil]
      have hup0 : Dg.up (Dg.dg z) 0 = z := by
        unfold Dg.up; rw [List.drop_zero, Dg.dg_num, Int.toNat_natCast]
      have hqn : Dg.num (Dg.ql (Dg.dg z) 10 0) = ((z / 10 : Nat) : Int) := by
        rw [Dg.ql_num hdd (by omega), hup0]
      have hqdl := Dg.ql_dl hdd (b := 10) (by omega) 0
      have hqlen : (Dg.ql (Dg.dg z) 10 0).length = L := by rw [Dg.ql_length, hLe]
      rw [hup0] at k4
      have htrim := fun (K : St → AHeap → Prop) (s : St) hK => call_trimD (K := K) (d := some 40) (s := s) (κ := .cap L) (r := H.length) (H := H1) (b := false) (l := Dg.ql (Dg.dg z) 10 0) (n := z / 10) (by simp [okS, hqlen]) (by omega) hrowq hqdl hqn hK
      rw [hqlen] at htrim
      refine htrim _ _ fun w2 hw2 _ => ?_
      have w1 : IntKind.u8.wrap (48 + ((z % 10 : Nat) : Int)) = 48 + ((z % 10 : Nat) : Int) := wu8 (by omega) (by omega)
      simp (disch := omega) only [sN, ↓reduceIte, Nat.reduceEqDiff, Nat.reduceAdd, Nat.reduceMul, Nat.reduceSub, reduceCtorEq, e_none, e_some, e_bindS, k0, k3, k4, k5, k6, w1]
      rw [x_bs1 (v := .int .u8 (48 + ((z % 10 : Nat) : Int))) (by simp only [e_upd, e_putS, e_putN, e_t, e_c, Nat.reduceEqDiff, ↓reduceIte, reduceCtorEq, Nat.reduceAdd]) rfl]
      simp (disch := omega) only [sN, ↓reduceIte, Nat.reduceEqDiff, Nat.reduceAdd, Nat.reduceMul, Nat.reduceSub, reduceCtorEq, e_none, e_some, e_bindS, k3, k4, k5]
      have hT1 : TextAt H1 t (tb D) q := by
        rcases hT with h | ⟨a1, a2, a3⟩
        · exact .inl h
        · exact .inr ⟨a1, a2, by rw [hold q (row_lt a3)]; exact a3⟩
      refine ct_text (r := H1.length) (c := 1) (b := 48 + ((z % 10 : Nat) : Int)) hT1.app (by simp only [e_upd, e_putS, e_putN, e_t, e_c, Nat.reduceEqDiff, ↓reduceIte, reduceCtorEq, Nat.reduceAdd, k3]) (by simp only [e_upd, e_putS, e_putN, e_t, e_c, Nat.reduceEqDiff, ↓reduceIte, reduceCtorEq, Nat.reduceAdd]) (by simp [Vh.rowAt, rw_]) (by rw [tb_length]; omega) fun H' m1 m2 m3 => ?_
      simp (disch := omega) only [sN, ↓reduceIte, Nat.reduceEqDiff, Nat.reduceAdd, Nat.reduceMul, Nat.reduceSub, reduceCtorEq, e_none, e_some, e_bindS, k3, k4, k5]
      have hlH : (H1 ++ [rw_ [AV.int .u8 (48 + ((z % 10 : Nat) : Int))]]).length = H.length + 2 := by simp [hlen1]
      have h0l := row_lt hH0
      have hqs : tb D = [] ∨ (q ≠ 0 ∧ q < H.length) := by
        rcases hT with ⟨ha, _⟩ | ⟨ha, _, hb⟩
        · exact .inl ha
        · rcases hq with h | h
          · exact .inl (by rw [h]; rfl)
          · exact .inr ⟨h.1, row_lt hb⟩
      rw [← tb_snoc] at m1
      refine loop_keep (m := z / 10) (by omega) ⟨w2, _, z / 10, D ++ [((z % 10 : Nat) : Int)], H.length, _, rfl, ?_, ?_, m1, dl_snoc hD (by omega), .inr ⟨by rw [hlH]; omega, by rw [hlH]; omega⟩, ?_, by simp; omega, fun hzz _ => ?_, by omega, ?_, ?_⟩
      · rw [m3 0 (by omega) ?_, rowAt_append_left (by omega), hold 0 h0l]
        · exact hH0
        · rcases hqs with h | h
          · exact .inl h
          · exact .inr (Ne.symm h.1)
      · refine (hw2.keep (rowAt_append_left (N := [rw_ [AV.int .u8 (48 + ((z % 10 : Nat) : Int))]]) (by omega))).keep (m3 H.length (by omega) ?_)
        rcases hqs with h | h
        · exact .inl h
        · exact .inr (by omega)
      · rw [dt_snoc, ← hsum, List.length_append, List.length_singleton, Int.pow_succ]
        generalize (10 : Int) ^ D.length = A
        have e1 : (z : Int) = ((z % 10 : Nat) : Int) + 10 * ((z / 10 : Nat) : Int) := by omega
        have e2 : A * (z : Int) = ((z % 10 : Nat) : Int) * A + A * 10 * ((z / 10 : Nat) : Int) := by
          conv => lhs; rw [e1]
          rw [Int.mul_add, Int.mul_comm A ((z % 10 : Nat) : Int), Int.mul_assoc]
        omega
      · rw [List.length_append, List.length_singleton, Nat.add_sub_cancel, Dt.getD_snoc, if_pos rfl]
        omega
      · simp only [e_upd, e_putS, e_putN, e_t, e_c, Nat.reduceEqDiff, ↓reduceIte, reduceCtorEq, Nat.reduceAdd]
      · simp only [e_upd, e_putS, e_putN, e_t, e_c, Nat.reduceEqDiff, ↓reduceIte, reduceCtorEq, Nat.reduceAdd, tb_snoc]
  · obtain rfl : z = 0 := by omega
    have hlz : (Dg.dg 0).length = 0 := by rw [Dg.dg_zero]; rfl
    have hDx : Dt.num D = (x : Int) := by rw [← hsum]; simp
    have hDne : D ≠ [] := by
      rintro rfl
      simp [Dt.num, Dt.nv] at hDx
      omega
    have hTne : tb D ≠ [] := by simpa [tb] using hDne
    have hfin := txN_dg hD hDx hx0 (htop rfl)
    have htl2 := tb_length D
    rcases hT with ⟨ha, _⟩ | ⟨_, rfl, hrow⟩
    · exact absurd ha hTne
    have hq' : q ≠ 0 := by
      rcases hq with h | h
      · exact absurd h hDne
      · exact h.1
    obtain ⟨T, hTe⟩ : ∃ T, T = tb D := ⟨_, rfl⟩
    rw [← hTe] at hrow htl2 hTne h3 hfin
    have hTl : T.length ≤ 1000000 := by omega
    have hql := row_lt hrow
    have h0l := row_lt hH0
    simp (disch := omega) only [sN, ↓reduceIte, Nat.reduceEqDiff, Nat.reduceAdd, Nat.reduceMul, Nat.reduceSub, reduceCtorEq, e_none, e_some, e_bindS, h0, h3, k_len g1]
    refine ⟨fun m s H1 => ∃ i : Nat, m = T.length - i ∧ (i + i ≤ T.length + 1) ∧ Vh.rowAt H1 0 = some ⟨false, false, ints .i64 (Dg.dg x)⟩ ∧ Vh.rowAt H1 q = some ⟨true, true, ints .u8 (rv T i)⟩ ∧ s 3 = .sliceU q 0 T.length 1 ∧ s 7 = .int .i64 (i : Int) ∧ s 8 = .int .i64 ((T.length : Int) - 1 - (i : Int)), T.length, ⟨0, rfl, by omega, hH0, by rw [rv_zero]; exact hrow, ?_, ?_, ?_⟩, ?_⟩
    · simp only [e_upd, e_putS, e_putN, e_t, e_c, Nat.reduceEqDiff, ↓reduceIte, reduceCtorEq, Nat.reduceAdd, h3]
    · simp only [e_upd, e_putS, e_putN, e_t, e_c, Nat.reduceEqDiff, ↓reduceIte, reduceCtorEq, Nat.reduceAdd]; rfl
    · simp only [e_upd, e_putS, e_putN, e_t, e_c, Nat.reduceEqDiff, ↓reduceIte, reduceCtorEq, Nat.reduceAdd]; simp
    rintro m s H1 ⟨i, rfl, hi, hH1, hrq, k3, k7, k8⟩
    have hq1 := row_lt hrq
    by_cases hlt : (i : Int) < (T.length : Int) - 1 - (i : Int)
    · have hj : (T.length : Int) - 1 - (i : Int) = ((T.length - 1 - i : Nat) : Int) := by omega
      have g1' : (ints .u8 (rv T i))[T.length - 1 - i]? = some (.int .u8 (T.getD (T.length - 1 - i) 0)) := by
        have := rv_get (l := T) (i := i) (t := T.length - 1 - i) (by omega)
        rw [if_neg (by omega)] at this
        rw [← this, ints_get (by rw [rv_length]; omega)]
      have g2' : (ints .u8 (rv T i))[i]? = some (.int .u8 (T.getD i 0)) := by
        have := rv_get (l := T) (i := i) (t := i) (by omega)
        rw [if_neg (by omega)] at this
        rw [← this, ints_get (by rw [rv_length]; omega)]
      rw [hj] at k8 hlt
      simp (disch := omega) only [sN, ↓reduceIte, Nat.reduceEqDiff, Nat.reduceAdd, Nat.reduceMul, Nat.reduceSub, reduceCtorEq, e_none, e_some, e_bindS, k3, k7, k8, hrq, g1', g2', Option.bind_some, Option.map_some, Int.toNat_natCast]
      rw [x_storeS (r := q) (off := i) (k := .u8) (b := T.getD (T.length - 1 - i) 0) (l := rv T i) (sk := true) (by simp only [e_upd, e_putS, e_putN, e_t, e_c, Nat.reduceEqDiff, ↓reduceIte, reduceCtorEq, Nat.reduceAdd]) (by simp only [e_upd, e_putS, e_putN, e_t, e_c, Nat.reduceEqDiff, ↓reduceIte, reduceCtorEq, Nat.reduceAdd]) hrq (by rw [rv_length]; omega)]
      simp (disch := omega) only [sN, ↓reduceIte, Nat.reduceEqDiff, Nat.reduceAdd, Nat.reduceMul, Nat.reduceSub, reduceCtorEq, e_none, e_some, e_bindS, k3, k7, k8, Int.toNat_natCast]
      rw [x_storeS (r := q) (off := T.length - 1 - i) (k := .u8) (b := T.getD i 0) (l := (rv T i).set i (T.getD (T.length - 1 - i) 0)) (sk := true) (by simp only [e_upd, e_putS, e_putN, e_t, e_c, Nat.reduceEqDiff, ↓reduceIte, reduceCtorEq, Nat.reduceAdd]) (by simp only [e_upd, e_putS, e_putN, e_t, e_c, Nat.reduceEqDiff, ↓reduceIte, reduceCtorEq, Nat.reduceAdd]) (by rw [rowAt_set hq1, if_pos rfl]) (by rw [List.length_set, rv_length]; omega)]
      rw [rv_step (by omega)]
      simp (disch := omega) only [sN, ↓reduceIte, Nat.reduceEqDiff, Nat.reduceAdd, Nat.reduceMul, Nat.reduceSub, reduceCtorEq, e_none, e_some, e_bindS, k3, k7, k8]
      refine loop_keep (m := T.length - (i + 1)) (by omega) ⟨i + 1, rfl, by omega, by rw [row_other0 hq', row_other0 hq']; exact hH1, by rw [rowAt_set (by simpa using hq1), if_pos rfl], ?_, ?_, ?_⟩
      · simp only [e_upd, e_putS, e_putN, e_t, e_c, Nat.reduceEqDiff, ↓reduceIte, reduceCtorEq, Nat.reduceAdd, k3]
      · simp only [e_upd, e_putS, e_putN, e_t, e_c, Nat.reduceEqDiff, ↓reduceIte, reduceCtorEq, Nat.reduceAdd]; rfl
      · simp only [e_upd, e_putS, e_putN, e_t, e_c, Nat.reduceEqDiff, ↓reduceIte, reduceCtorEq, Nat.reduceAdd]; congr 1; omega
    · simp (disch := omega) only [sN, ↓reduceIte, Nat.reduceEqDiff, Nat.reduceAdd, Nat.reduceMul, Nat.reduceSub, reduceCtorEq, e_none, e_some, e_bindS, k3, k7, k8]
      rw [rv_end (by omega)] at hrq
      rw [x_strI (q := q) (n := T.length) (sk := true) (l := T.reverse) (by simp only [e_upd, e_putS, e_putN, e_t, e_c, Nat.reduceEqDiff, ↓reduceIte, reduceCtorEq, Nat.reduceAdd, k3]) (by simp) hrq (by simpa using hTne)]
      simp (disch := omega) only [sN, ↓reduceIte, Nat.reduceEqDiff, Nat.reduceAdd, Nat.reduceMul, Nat.reduceSub, reduceCtorEq, e_none, e_some, e_bindS]
      refine ret_keep (by have := row_lt hH1; simp; omega) ?_
      rw [rs_rtext, q_tmp, q_then]
      obtain ⟨R, rfl⟩ := head_split hH1
      refine ⟨R, by simp [ro], ?_⟩
      rw [hfin]
      simp only [e_upd, e_putS, e_putN, e_t, e_c, Nat.reduceEqDiff, ↓reduceIte, reduceCtorEq, Nat.reduceAdd]
end Go.Proofs.YtjmceapnhmeflaaDoor

