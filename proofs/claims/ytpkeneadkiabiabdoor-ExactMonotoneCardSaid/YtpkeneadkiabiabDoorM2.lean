/- ExactMonotone's walk. -/
import Derived.Test.YtpkeneadkiabiabDoorVX
import Derived.Test.YtpkeneadkiabiabDoorM1
import Derived.Test.YtpkeneadkiabiabDoorEF
import Derived.Test.YtpkeneadkiabiabDoorFK
import Derived.Test.YtpkeneadkiabiabDoorIrM
set_option linter.unusedSimpArgs false
set_option linter.unusedVariables false
-- NEWSET
namespace Go.Proofs.YtpkeneadkiabiabDoor
open Go Go.Vh

theorem wT_bb {n b k : Nat} {seen : Int} (hn : n ≤ 512) (hb : b ≤ n) (hk : k ≤ n) : ((wT n b k seen : Nat) : Int) < BB ^ 64 := by
  unfold wT
  exact Int.lt_of_lt_of_le (wN_bb (b := b) (g := n - b) (k := k) (by omega) (by omega)) (BB_mono (by omega))
theorem cnk_bb {n k : Nat} (hn : n ≤ 512) : ((cnk n k : Nat) : Int) < BB ^ 64 := pow_bb (cnk_le n k) (by omega)
theorem red_bb {x y : Int} (h0 : 0 ≤ x) (h : x < BB ^ 64) : redX x y < BB ^ 64 := Int.lt_of_le_of_lt (red_le h0).2 h
/-- Tail, where all is in order. -/
theorem tail_ok {n b k : Nat} {seen : Int} (hn : n ≤ 512) (hb : b ≤ n) (hk : k ≤ n) (h3 : -9223372036854775808 ≤ seen ∧ seen ≤ 9223372036854775807) :
    ACalls Tryd.prog 5 [.int .i64 (n : Int), .int .i64 (b : Int), .int .i64 (k : Int), .int .i64 seen] [] (List.range 0) (UpF (redX ((wT n b k seen : Nat) : Int) ((cnk n k : Nat) : Int)) (redX ((cnk n k : Nat) : Int) ((wT n b k seen : Nat) : Int)) 0 []) := by
  have hxT := xTail_calls (n : Int) (b : Int) (k : Int) seen (by omega) (by omega) (by omega) h3
  have hok : tlOK (n : Int) (b : Int) (k : Int) := by unfold tlOK; omega
  have hW : tlW (n : Int) (b : Int) (k : Int) seen = ((wT n b k seen : Nat) : Int) := by
    unfold tlW wT; rw [show ((n : Int) - (b : Int)).toNat = n - b by omega]; rfl
  have hC : tlC (n : Int) (k : Int) = ((cnk n k : Nat) : Int) := rfl
  have hE0 : redE ((wT n b k seen : Nat) : Int) ((cnk n k : Nat) : Int) = 0 := by
    unfold redE; rw [if_pos ⟨red_bb (by omega) (wT_bb hn hb hk), red_bb (by omega) (cnk_bb hn)⟩]
  have hE : tlE (n : Int) (b : Int) (k : Int) seen = 0 := by unfold tlE; rw [if_pos hok, hW, hC, hE0]
  have hNe : tlN (n : Int) (b : Int) (k : Int) seen = redX ((wT n b k seen : Nat) : Int) ((cnk n k : Nat) : Int) := by unfold tlN; rw [hE, hW, hC]; rfl
  have hDe : tlD (n : Int) (b : Int) (k : Int) seen = redX ((cnk n k : Nat) : Int) ((wT n b k seen : Nat) : Int) := by unfold tlD; rw [hE, hW, hC]; rfl
  rw [hE, hNe, hDe] at hxT
  exact hxT
/-- Two fractions of numbers that are not too long are compared. -/
theorem cmp_frac (H : AHeap) {w1 w2 w3 w4 : AV} {x1 y1 x2 y2 : Int} (h1 : AtN H w1 x1) (h2 : AtN H w2 y1) (h3 : AtN H w3 x2) (h4 : AtN H w4 y2) (b1 : x1 < BB ^ 64) (b2 : y1 < BB ^ 64) (b3 : x2 < BB ^ 64) (b4 : y2 < BB ^ 64) (z1 : y1 ≠ 0) (z2 : y2 ≠ 0) :
    ACalls Tryd.prog 7 [.agg [w1, w2], .agg [w3, w4]] H (List.range H.length) fun v H' => v = .tuple [.int .i64 (cmpI (x1 * y2) (x2 * y1)), .int .i64 0] ∧ Base H H' := by
  obtain ⟨l1, m1, k1⟩ := h1.x b1
  obtain ⟨l2, m2, k2⟩ := h2.x b2
  obtain ⟨l3, m3, k3⟩ := h3.x b3
  obtain ⟨l4, m4, k4⟩ := h4.x b4
  have hcf : cfE [⟨w1, w2, x1, y1, l1, l2⟩, ⟨w3, w4, x2, y2, l3, l4⟩] = 0 := cfE_zero m1 m2 m3 m4 z1 z2
  have hfc : fcC ⟨w1, w2, x1, y1, l1, l2⟩ ⟨w3, w4, x2, y2, l3, l4⟩ = cmpI (x1 * y2) (x2 * y1) := by unfold fcC; rw [if_pos hcf]
  have hcmp := xFracCompare_calls H (q := ⟨w1, w2, x1, y1, l1, l2⟩) (p := ⟨w3, w4, x2, y2, l3, l4⟩) ⟨k1, k2, by show l1 ≤ 100000; omega, by show l2 ≤ 100000; omega⟩ ⟨k3, k4, by show l3 ≤ 100000; omega, by show l4 ≤ 100000; omega⟩
  rwa [hcf, hfc] at hcmp
theorem cmp_le {a b : Int} (h : a ≤ b) : cmpI a b ≤ 0 := by
  unfold cmpI
  split
  · omega
  · split <;> omega

set_option maxHeartbeats 4000000 in
theorem monotone_calls {Ww : List Nat} (hw : ACalls Tryd.prog 8 [] [] Ww fun v _ => v = .bool true) (a0 a1 a2 a3 : Int) (h0 : 0 ≤ a0 ∧ a0 ≤ 65535) (h1 : 0 ≤ a1 ∧ a1 ≤ 65535) (h2 : 0 ≤ a2 ∧ a2 ≤ 65535) (h3 : 0 ≤ a3 ∧ a3 ≤ 65535) :
    ACalls Tryd.prog 3 [.int .u16 a0, .int .u16 a1, .int .u16 a2, .int .u16 a3] [] (List.range 0) fun v _ => v = .bool true := by
  refine ACalls.body Tryd.func3 ent_monotone ir_monotone_ok rs_monotone_ok Tryd.ntmps3 (by simp) rfl ?_
  unfold ir_monotone
  have e0 : s0 [.int .u16 a0, .int .u16 a1, .int .u16 a2, .int .u16 a3] 0 = .int .u16 a0 := rfl
  have e1 : s0 [.int .u16 a0, .int .u16 a1, .int .u16 a2, .int .u16 a3] 1 = .int .u16 a1 := rfl
  have e2 : s0 [.int .u16 a0, .int .u16 a1, .int .u16 a2, .int .u16 a3] 2 = .int .u16 a2 := rfl
  have e3 : s0 [.int .u16 a0, .int .u16 a1, .int .u16 a2, .int .u16 a3] 3 = .int .u16 a3 := rfl
  have hz : [AV.nilslice, AV.nilslice].all AV.cell = true := rfl
  obtain ⟨n, hn⟩ : ∃ n : Nat, 1 + a0 % 512 = n := ⟨(1 + a0 % 512).toNat, by omega⟩
  have hn1 : 1 ≤ n ∧ n ≤ 512 := by omega
  have q1 := Int.emod_lt_of_pos a1 (show (0 : Int) < (n : Int) by omega)
  have q2 := Int.emod_nonneg a1 (show (n : Int) ≠ 0 by omega)
  obtain ⟨b, hb⟩ : ∃ b : Nat, a1 % (n : Int) = b := ⟨(a1 % (n : Int)).toNat, by omega⟩
  have q3 := Int.emod_lt_of_pos a2 (show (0 : Int) < (n : Int) + 1 by omega)
  have q4 := Int.emod_nonneg a2 (show (n : Int) + 1 ≠ 0 by omega)
  obtain ⟨k, hk⟩ : ∃ k : Nat, a2 % ((n : Int) + 1) = k := ⟨(a2 % ((n : Int) + 1)).toNat, by omega⟩
  have q5 := Int.emod_lt_of_pos a3 (show (0 : Int) < (k : Int) + 1 by omega)
  have q6 := Int.emod_nonneg a3 (show (k : Int) + 1 ≠ 0 by omega)
  obtain ⟨sn, hs⟩ : ∃ sn : Nat, a3 % ((k : Int) + 1) = sn := ⟨(a3 % ((k : Int) + 1)).toNat, by omega⟩
  have hx0 : IntKind.i64.wrap a0 = a0 := by rw [w64 (by omega) (by omega)]
  have hx1 : IntKind.i64.wrap a1 = a1 := by rw [w64 (by omega) (by omega)]
  have hx2 : IntKind.i64.wrap a2 = a2 := by rw [w64 (by omega) (by omega)]
  have hx3 : IntKind.i64.wrap a3 = a3 := by rw [w64 (by omega) (by omega)]
  have hbn : b < n := by omega
  have hkn : k ≤ n := by omega
  have hsk : sn ≤ k := by omega
  have hb1 : (b : Int) + 1 = ((b + 1 : Nat) : Int) := by omega
  have pC := cnk_pos2 n k hkn
  have pB := cnk_pos2 n b (by omega)
  have T1 := tail_ok (seen := (sn : Int)) (b := b) hn1.2 (by omega) hkn (by omega)
  have T2 := tail_ok (seen := (sn : Int)) (b := b + 1) hn1.2 (by omega) hkn (by omega)
  have T3 := tail_ok (seen := (sn : Int) + 1) (b := b) hn1.2 (by omega) hkn (by omega)
  have T4 := tail_ok (seen := (sn : Int)) (b := k) (k := b) hn1.2 (by omega) (by omega) (by omega)
  have B1 := wT_bb (seen := (sn : Int)) hn1.2 (show b ≤ n by omega) hkn
  have B2 := wT_bb (seen := (sn : Int)) hn1.2 (show b + 1 ≤ n by omega) hkn
  have B3 := wT_bb (seen := (sn : Int) + 1) hn1.2 (show b ≤ n by omega) hkn
  have BC := cnk_bb (k := k) hn1.2
  have M1 : wT n (b + 1) k (sn : Int) * cnk n k ≤ wT n b k (sn : Int) * cnk n k := Nat.mul_le_mul_right _ (wT_mono hbn)
  have M2 : wT n b k (sn : Int) * cnk n k ≤ wT n b k ((sn : Int) + 1) * cnk n k := Nat.mul_le_mul_right _ wT_seen
  obtain ⟨M3, M4⟩ := red_same pC pB (wT_swap (seen := (sn : Int)) (show b ≤ n by omega) hkn)
  rw [← M3, ← M4] at T4
  have L1 := cmp_le (red_cross_le pC pC M1)
  have L2 := cmp_le (red_cross_le pC pC M2)
  clear M1 M2 M3 M4
  generalize wT n b k (sn : Int) = W1 at *
  generalize wT n (b + 1) k (sn : Int) = W2 at *
  generalize wT n b k ((sn : Int) + 1) = W3 at *
  generalize cnk n k = C at *
  have z1 := red_pos (x := (C : Int)) (y := (W1 : Int)) (by omega)
  have z2 := red_pos (x := (C : Int)) (y := (W2 : Int)) (by omega)
  have z3 := red_pos (x := (C : Int)) (y := (W3 : Int)) (by omega)
  have x1 := red_bb (x := (W1 : Int)) (y := (C : Int)) (by omega) B1
  have x2 := red_bb (x := (W2 : Int)) (y := (C : Int)) (by omega) B2
  have x3 := red_bb (x := (W3 : Int)) (y := (C : Int)) (by omega) B3
  have y1 := red_bb (x := (C : Int)) (y := (W1 : Int)) (by omega) BC
  have y2 := red_bb (x := (C : Int)) (y := (W2 : Int)) (by omega) BC
  have y3 := red_bb (x := (C : Int)) (y := (W3 : Int)) (by omega) BC
  generalize redX (W1 : Int) (C : Int) = X1 at *
  generalize redX (W2 : Int) (C : Int) = X2 at *
  generalize redX (W3 : Int) (C : Int) = X3 at *
  generalize redX (C : Int) (W1 : Int) = Y1 at *
  generalize redX (C : Int) (W2 : Int) = Y2 at *
  generalize redX (C : Int) (W3 : Int) = Y3 at *
  simp (disch := omega) only [sN, ↓reduceIte, Nat.reduceEqDiff, Nat.reduceAdd, Nat.reduceMul, Nat.reduceSub, reduceCtorEq, e_none, e_some, e_bindS, e0, e1, e2, e3, hx0, hx1, hx2, hx3, b_rem, hn, hb, hk, hs, hb1, List.map_cons, List.map_nil]
  refine call_in0 (Q := UpF X1 Y1 0) T1 rfl (hk_F fun R1 u1 v1 n1 m1 => ?_)
  obtain ⟨K1, hK1⟩ : ∃ q, q = [] ++ R1 := ⟨_, rfl⟩
  rw [← hK1] at n1 m1 ⊢
  have hBK1 : Base [] K1 := by rw [hK1]; exact Base.one
  simp (disch := omega) only [sN, ↓reduceIte, Nat.reduceEqDiff, Nat.reduceAdd, Nat.reduceMul, Nat.reduceSub, reduceCtorEq, e_none, e_some, e_bindS, List.map_cons, List.map_nil, List.getElem?_cons_zero, List.getElem?_cons_succ]
  rw [x_allocA hz]
  simp (disch := omega) only [sN, ↓reduceIte, Nat.reduceEqDiff, Nat.reduceAdd, Nat.reduceMul, Nat.reduceSub, reduceCtorEq, e_none, e_some, e_bindS]
  rw [x_storeNA (n := 2) (r := K1.length) (l := [.nilslice, .nilslice]) (l' := [u1, v1]) (by simp only [e_upd, e_putS, e_putN, e_t, e_c, Nat.reduceEqDiff, ↓reduceIte, reduceCtorEq, Nat.reduceAdd]) (by simp only [e_upd, e_putS, e_putN, e_t, e_c, Nat.reduceEqDiff, ↓reduceIte, reduceCtorEq, Nat.reduceAdd]) (by simp [n1.cell, m1.cell]) (by simp [Vh.rowAt, rw_]) rfl rfl, set_last]
  obtain ⟨H1, hH1⟩ : ∃ q, q = K1 ++ [rw_ [u1, v1]] := ⟨_, rfl⟩
  have hBH1 : Base K1 H1 := by rw [hH1]; exact Base.one
  have row1 : Vh.rowAt H1 K1.length = some ⟨true, false, [u1, v1]⟩ := by rw [hH1]; simp [Vh.rowAt, rw_]
  have c1 : AtN H1 u1 X1 := by rw [hH1] at *; exact n1.app.normAt row1
  have d1 : AtN H1 v1 Y1 := by rw [hH1] at *; exact m1.app.normAt row1
  rw [← hH1]
  clear n1 m1 hH1 hK1
  simp (disch := omega) only [sN, ↓reduceIte, Nat.reduceEqDiff, Nat.reduceAdd, Nat.reduceMul, Nat.reduceSub, reduceCtorEq, e_none, e_some, e_bindS, hb1, List.map_cons, List.map_nil]
  refine call_in0 (Q := UpF X2 Y2 0) T2 rfl (hk_F fun R2 u2 v2 n2 m2 => ?_)
  obtain ⟨K2, hK2⟩ : ∃ q, q = H1 ++ R2 := ⟨_, rfl⟩
  rw [← hK2] at n2 m2 ⊢
  have hBK2 : Base H1 K2 := by rw [hK2]; exact Base.one
  simp (disch := omega) only [sN, ↓reduceIte, Nat.reduceEqDiff, Nat.reduceAdd, Nat.reduceMul, Nat.reduceSub, reduceCtorEq, e_none, e_some, e_bindS, List.map_cons, List.map_nil, List.getElem?_cons_zero, List.getElem?_cons_succ]
  rw [x_allocA hz]
  simp (disch := omega) only [sN, ↓reduceIte, Nat.reduceEqDiff, Nat.reduceAdd, Nat.reduceMul, Nat.reduceSub, reduceCtorEq, e_none, e_some, e_bindS]
  rw [x_storeNA (n := 2) (r := K2.length) (l := [.nilslice, .nilslice]) (l' := [u2, v2]) (by simp only [e_upd, e_putS, e_putN, e_t, e_c, Nat.reduceEqDiff, ↓reduceIte, reduceCtorEq, Nat.reduceAdd]) (by simp only [e_upd, e_putS, e_putN, e_t, e_c, Nat.reduceEqDiff, ↓reduceIte, reduceCtorEq, Nat.reduceAdd]) (by simp [n2.cell, m2.cell]) (by simp [Vh.rowAt, rw_]) rfl rfl, set_last]
  obtain ⟨H2, hH2⟩ : ∃ q, q = K2 ++ [rw_ [u2, v2]] := ⟨_, rfl⟩
  have hBH2 : Base K2 H2 := by rw [hH2]; exact Base.one
  have row2 : Vh.rowAt H2 K2.length = some ⟨true, false, [u2, v2]⟩ := by rw [hH2]; simp [Vh.rowAt, rw_]
  have c2 : AtN H2 u2 X2 := by rw [hH2] at *; exact n2.app.normAt row2
  have d2 : AtN H2 v2 Y2 := by rw [hH2] at *; exact m2.app.normAt row2
  rw [← hH2]
  clear n2 m2 hH2 hK2
  simp (disch := omega) only [sN, ↓reduceIte, Nat.reduceEqDiff, Nat.reduceAdd, Nat.reduceMul, Nat.reduceSub, reduceCtorEq, e_none, e_some, e_bindS, hb1, List.map_cons, List.map_nil]
  refine call_in0 (Q := UpF X3 Y3 0) T3 rfl (hk_F fun R3 u3 v3 n3 m3 => ?_)
  obtain ⟨K3, hK3⟩ : ∃ q, q = H2 ++ R3 := ⟨_, rfl⟩
  rw [← hK3] at n3 m3 ⊢
  have hBK3 : Base H2 K3 := by rw [hK3]; exact Base.one
  simp (disch := omega) only [sN, ↓reduceIte, Nat.reduceEqDiff, Nat.reduceAdd, Nat.reduceMul, Nat.reduceSub, reduceCtorEq, e_none, e_some, e_bindS, List.map_cons, List.map_nil, List.getElem?_cons_zero, List.getElem?_cons_succ]
  rw [x_allocA hz]
  simp (disch := omega) only [sN, ↓reduceIte, Nat.reduceEqDiff, Nat.reduceAdd, Nat.reduceMul, Nat.reduceSub, reduceCtorEq, e_none, e_some, e_bindS]
  rw [x_storeNA (n := 2) (r := K3.length) (l := [.nilslice, .nilslice]) (l' := [u3, v3]) (by simp only [e_upd, e_putS, e_putN, e_t, e_c, Nat.reduceEqDiff, ↓reduceIte, reduceCtorEq, Nat.reduceAdd]) (by simp only [e_upd, e_putS, e_putN, e_t, e_c, Nat.reduceEqDiff, ↓reduceIte, reduceCtorEq, Nat.reduceAdd]) (by simp [n3.cell, m3.cell]) (by simp [Vh.rowAt, rw_]) rfl rfl, set_last]
  obtain ⟨H3, hH3⟩ : ∃ q, q = K3 ++ [rw_ [u3, v3]] := ⟨_, rfl⟩
  have hBH3 : Base K3 H3 := by rw [hH3]; exact Base.one
  have row3 : Vh.rowAt H3 K3.length = some ⟨true, false, [u3, v3]⟩ := by rw [hH3]; simp [Vh.rowAt, rw_]
  have c3 : AtN H3 u3 X3 := by rw [hH3] at *; exact n3.app.normAt row3
  have d3 : AtN H3 v3 Y3 := by rw [hH3] at *; exact m3.app.normAt row3
  rw [← hH3]
  clear n3 m3 hH3 hK3
  simp (disch := omega) only [sN, ↓reduceIte, Nat.reduceEqDiff, Nat.reduceAdd, Nat.reduceMul, Nat.reduceSub, reduceCtorEq, e_none, e_some, e_bindS, hb1, List.map_cons, List.map_nil]
  refine call_in0 (Q := UpF X1 Y1 0) T4 rfl (hk_F fun R4 u4 v4 n4 m4 => ?_)
  obtain ⟨K4, hK4⟩ : ∃ q, q = H3 ++ R4 := ⟨_, rfl⟩
  rw [← hK4] at n4 m4 ⊢
  have hBK4 : Base H3 K4 := by rw [hK4]; exact Base.one
  simp (disch := omega) only [sN, ↓reduceIte, Nat.reduceEqDiff, Nat.reduceAdd, Nat.reduceMul, Nat.reduceSub, reduceCtorEq, e_none, e_some, e_bindS, List.map_cons, List.map_nil, List.getElem?_cons_zero, List.getElem?_cons_succ]
  rw [x_allocA hz]
  simp (disch := omega) only [sN, ↓reduceIte, Nat.reduceEqDiff, Nat.reduceAdd, Nat.reduceMul, Nat.reduceSub, reduceCtorEq, e_none, e_some, e_bindS]
  rw [x_storeNA (n := 2) (r := K4.length) (l := [.nilslice, .nilslice]) (l' := [u4, v4]) (by simp only [e_upd, e_putS, e_putN, e_t, e_c, Nat.reduceEqDiff, ↓reduceIte, reduceCtorEq, Nat.reduceAdd]) (by simp only [e_upd, e_putS, e_putN, e_t, e_c, Nat.reduceEqDiff, ↓reduceIte, reduceCtorEq, Nat.reduceAdd]) (by simp [n4.cell, m4.cell]) (by simp [Vh.rowAt, rw_]) rfl rfl, set_last]
  obtain ⟨H4, hH4⟩ : ∃ q, q = K4 ++ [rw_ [u4, v4]] := ⟨_, rfl⟩
  have hBH4 : Base K4 H4 := by rw [hH4]; exact Base.one
  have row4 : Vh.rowAt H4 K4.length = some ⟨true, false, [u4, v4]⟩ := by rw [hH4]; simp [Vh.rowAt, rw_]
  have c4 : AtN H4 u4 X1 := by rw [hH4] at *; exact n4.app.normAt row4
  have d4 : AtN H4 v4 Y1 := by rw [hH4] at *; exact m4.app.normAt row4
  rw [← hH4]
  clear n4 m4 hH4 hK4
  simp (disch := omega) only [sN, ↓reduceIte, Nat.reduceEqDiff, Nat.reduceAdd, Nat.reduceMul, Nat.reduceSub, reduceCtorEq, e_none, e_some, e_bindS, hb1, List.map_cons, List.map_nil]
  have b34 : Base H3 H4 := hBK4.trans hBH4
  have b24 : Base H2 H4 := (hBK3.trans hBH3).trans b34
  have b14 : Base H1 H4 := (hBK2.trans hBH2).trans b24
  replace row1 := b14.row row1
  replace c1 := c1.base b14
  replace d1 := d1.base b14
  replace row2 := b24.row row2
  replace c2 := c2.base b24
  replace d2 := d2.base b24
  replace row3 := b34.row row3
  replace c3 := c3.base b34
  replace d3 := d3.base b34
  rw [x_loadNA (n := 2) (r := K1.length) (row := ⟨true, false, [u1, v1]⟩) (l := [u1, v1]) (by simp only [e_upd, e_putS, e_putN, e_t, e_c, Nat.reduceEqDiff, ↓reduceIte, reduceCtorEq, Nat.reduceAdd]) row1 rfl rfl]
  simp (disch := omega) only [sN, ↓reduceIte, Nat.reduceEqDiff, Nat.reduceAdd, Nat.reduceMul, Nat.reduceSub, reduceCtorEq, e_none, e_some, e_bindS, List.map_cons, List.map_nil]
  rw [x_loadNA (n := 2) (r := K4.length) (row := ⟨true, false, [u4, v4]⟩) (l := [u4, v4]) (by simp only [e_upd, e_putS, e_putN, e_t, e_c, Nat.reduceEqDiff, ↓reduceIte, reduceCtorEq, Nat.reduceAdd]) row4 rfl rfl]
  simp (disch := omega) only [sN, ↓reduceIte, Nat.reduceEqDiff, Nat.reduceAdd, Nat.reduceMul, Nat.reduceSub, reduceCtorEq, e_none, e_some, e_bindS, List.map_cons, List.map_nil]
  refine ⟨_, (rSameFrac_calls H4 (k := 64) (by omega) c1 d1 c4 d4 x1 y1).g.mono ?_⟩
  rintro v5 H5 ⟨rfl, hB5⟩
  simp (disch := omega) only [sN, ↓reduceIte, Nat.reduceEqDiff, Nat.reduceAdd, Nat.reduceMul, Nat.reduceSub, reduceCtorEq, e_none, e_some, e_bindS]
  rw [x_loadNA (n := 2) (r := K2.length) (row := ⟨true, false, [u2, v2]⟩) (l := [u2, v2]) (by simp only [e_upd, e_putS, e_putN, e_t, e_c, Nat.reduceEqDiff, ↓reduceIte, reduceCtorEq, Nat.reduceAdd]) (hB5.row row2) rfl rfl]
  simp (disch := omega) only [sN, ↓reduceIte, Nat.reduceEqDiff, Nat.reduceAdd, Nat.reduceMul, Nat.reduceSub, reduceCtorEq, e_none, e_some, e_bindS, List.map_cons, List.map_nil]
  rw [x_loadNA (n := 2) (r := K1.length) (row := ⟨true, false, [u1, v1]⟩) (l := [u1, v1]) (by simp only [e_upd, e_putS, e_putN, e_t, e_c, Nat.reduceEqDiff, ↓reduceIte, reduceCtorEq, Nat.reduceAdd]) (hB5.row row1) rfl rfl]
  simp (disch := omega) only [sN, ↓reduceIte, Nat.reduceEqDiff, Nat.reduceAdd, Nat.reduceMul, Nat.reduceSub, reduceCtorEq, e_none, e_some, e_bindS, List.map_cons, List.map_nil]
  refine ⟨_, (cmp_frac H5 (c2.base hB5) (d2.base hB5) (c1.base hB5) (d1.base hB5) x2 y2 x1 y1 (by omega) (by omega)).g.mono ?_⟩
  rintro v6 H6 ⟨rfl, hB6⟩
  have hB56 := hB5.trans hB6
  simp (disch := omega) only [sN, ↓reduceIte, Nat.reduceEqDiff, Nat.reduceAdd, Nat.reduceMul, Nat.reduceSub, reduceCtorEq, e_none, e_some, e_bindS, List.map_cons, List.map_nil, List.getElem?_cons_zero, List.getElem?_cons_succ]
  rw [x_loadNA (n := 2) (r := K1.length) (row := ⟨true, false, [u1, v1]⟩) (l := [u1, v1]) (by simp only [e_upd, e_putS, e_putN, e_t, e_c, Nat.reduceEqDiff, ↓reduceIte, reduceCtorEq, Nat.reduceAdd]) (hB56.row row1) rfl rfl]
  simp (disch := omega) only [sN, ↓reduceIte, Nat.reduceEqDiff, Nat.reduceAdd, Nat.reduceMul, Nat.reduceSub, reduceCtorEq, e_none, e_some, e_bindS, List.map_cons, List.map_nil]
  rw [x_loadNA (n := 2) (r := K3.length) (row := ⟨true, false, [u3, v3]⟩) (l := [u3, v3]) (by simp only [e_upd, e_putS, e_putN, e_t, e_c, Nat.reduceEqDiff, ↓reduceIte, reduceCtorEq, Nat.reduceAdd]) (hB56.row row3) rfl rfl]
  simp (disch := omega) only [sN, ↓reduceIte, Nat.reduceEqDiff, Nat.reduceAdd, Nat.reduceMul, Nat.reduceSub, reduceCtorEq, e_none, e_some, e_bindS, List.map_cons, List.map_nil]
  refine ⟨_, (cmp_frac H6 (c1.base hB56) (d1.base hB56) (c3.base hB56) (d3.base hB56) x1 y1 x3 y3 (by omega) (by omega)).g.mono ?_⟩
  rintro v7 H7 ⟨rfl, hB7⟩
  simp (disch := omega) only [sN, ↓reduceIte, Nat.reduceEqDiff, Nat.reduceAdd, Nat.reduceMul, Nat.reduceSub, reduceCtorEq, e_none, e_some, e_bindS, List.map_cons, List.map_nil, List.getElem?_cons_zero, List.getElem?_cons_succ, beq_self_eq_true]
  refine call_true hw fun H' => ?_
  simp (disch := omega) only [sN, ↓reduceIte, Nat.reduceEqDiff, Nat.reduceAdd, Nat.reduceMul, Nat.reduceSub, reduceCtorEq, e_none, e_some, e_bindS]
  refine ret_keep (by simp) ?_
  simp only [q_tmp, q_then, rs_monotone, e_upd, e_putS, e_putN, e_t, e_c, Nat.reduceEqDiff, ↓reduceIte, reduceCtorEq, Nat.reduceAdd]
end Go.Proofs.YtpkeneadkiabiabDoor

