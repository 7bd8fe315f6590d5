/- ExactTexts' walk. -/
import Derived.Test.YtjmceapnhmeflaaDoorVX
import Derived.Test.YtjmceapnhmeflaaDoorKA
import Derived.Test.YtjmceapnhmeflaaDoorF18
import Derived.Test.YtjmceapnhmeflaaDoorFJ
import Derived.Test.YtjmceapnhmeflaaDoorK6
set_option linter.unusedSimpArgs false
set_option linter.unusedVariables false
-- NEWSET
namespace Go.Proofs.YtjmceapnhmeflaaDoor
open Go Go.Vh

theorem slS_app (x y : Int) : slS x y = strOfNums (txN x.toNat ++ 47 :: txN y.toNat) := by
  unfold slS
  apply ByteArray.ext
  simp [strOfNums, ByteArray.data_append]
theorem AtK.x {H : AHeap} {w : AV} {x : Int} {r k : Nat} (h : AtK H w x r k) : ∃ n, n ≤ k ∧ AtX H w x n := by
  obtain ⟨κ, l, row, h1, h2, h3, h4, h5, h6, h7⟩ := h
  exact ⟨l.length, h7, κ, l, row, r, h1, h2, h3, h4, h5, h6, rfl⟩
theorem AtK.base {H H' : AHeap} {w : AV} {x : Int} {r k : Nat} (h : AtK H w x r k) (hb : Base H H') : AtK H' w x r k := by
  obtain ⟨κ, l, row, h1, h2, h3, h4⟩ := h
  exact ⟨κ, l, row, h1, h2, hb.row h3, h4⟩

end Go.Proofs.YtjmceapnhmeflaaDoor


/- Contracts: the reference's FracParse. -/
-- NEWSET
namespace Go.Proofs.YtjmceapnhmeflaaDoor
open Go Go.Vh

/-- Two texts of numbers with a slash between them say which numbers they are. -/
theorem fp_same {p q : List Int} (hp : isN p = true) (hq : isN q = true) {X Y : Nat} (hX : (X : Int) = vd p p.length) (hY : (Y : Int) = vd q q.length) {x y : Int} (hx : x = vd p p.length) (hy : y = vd q q.length) :
    strOfNums (txN (redX x y).toNat ++ 47 :: txN (redX y x).toNat) = strOfNums (p ++ 47 :: q) ↔ (redX x y).toNat = X ∧ (redX y x).toNat = Y := by
  have tp : txN X = p := by
    have := txN_vd hp
    rw [← hX, Int.toNat_natCast] at this; exact this
  have tq : txN Y = q := by
    have := txN_vd hq
    rw [← hY, Int.toNat_natCast] at this; exact this
  constructor
  · intro h
    have hb : ∀ a b : Nat, Bytes (txN a ++ 47 :: txN b) := fun a b z hz => by
      rcases List.mem_append.1 hz with h | h
      · exact txN_bytes _ z h
      · rcases List.mem_cons.1 h with rfl | h
        · omega
        · exact txN_bytes _ z h
    rw [← tp, ← tq] at h
    have := str_inj (hb _ _) (hb _ _) h
    have n47 : ∀ (a : Nat), ∀ z ∈ txN a, z ≠ 47 := fun a z hz => by have := txN_digit hz; omega
    have c1 := cutL_at (p := txN (redX x y).toNat) (q := txN (redX y x).toNat) (n47 _)
    have c2 := cutL_at (p := txN X) (q := txN Y) (n47 _)
    rw [this, c2] at c1
    simp only [Prod.mk.injEq] at c1
    have e1 := congrArg (fun l => vd l l.length) c1.1
    have e2 := congrArg (fun l => vd l l.length) c1.2.1
    simp only [vd_txN] at e1 e2
    omega
  · rintro ⟨h1, h2⟩
    rw [h1, h2, tp, tq]

theorem red_self {x y : Int} (hx : 0 ≤ x) (hy : 0 < y) : ((redX x y).toNat = x.toNat ∧ (redX y x).toNat = y.toNat) ↔ ((Nat.gcd x.toNat y.toNat : Nat) : Int) = 1 := by
  obtain ⟨a, rfl⟩ := Int.eq_ofNat_of_zero_le hx
  obtain ⟨b, rfl⟩ := Int.eq_ofNat_of_zero_le (Int.le_of_lt hy)
  unfold redX
  simp only [Int.toNat_natCast]
  rw [Nat.gcd_comm b a, ← Int.natCast_ediv, ← Int.natCast_ediv, Int.toNat_natCast, Int.toNat_natCast]
  have hb : 0 < b := by omega
  have hg : 0 < Nat.gcd a b := Nat.gcd_pos_of_pos_right _ hb
  constructor
  · rintro ⟨_, h⟩
    have h2 := Nat.div_mul_cancel (Nat.gcd_dvd_right a b)
    rw [h] at h2
    have : b * Nat.gcd a b = b * 1 := by omega
    have := Nat.eq_of_mul_eq_mul_left hb this
    omega
  · intro h
    have : Nat.gcd a b = 1 := by omega
    rw [this]; simp

theorem eql_str {a b : ByteArray} : abin .eql (.str a) (.str b) = some (.bool (decide (a = b))) := by
  show some (AV.bool (a.toList == b.toList)) = _
  congr 2
  rw [ByteArray.toList_eq, ByteArray.toList_eq, Bool.eq_iff_iff]
  simp only [beq_iff_eq, decide_eq_true_eq]
  constructor
  · intro h; apply ByteArray.ext; apply Array.ext'; exact h
  · rintro rfl; rfl
theorem neq_str {a b : ByteArray} : abin .neq (.str a) (.str b) = some (.bool (!decide (a = b))) := by
  show some (AV.bool (!(a.toList == b.toList))) = _
  congr 3
  rw [ByteArray.toList_eq, ByteArray.toList_eq, Bool.eq_iff_iff]
  simp only [beq_iff_eq, decide_eq_true_eq]
  constructor
  · intro h; apply ByteArray.ext; apply Array.ext'; exact h
  · rintro rfl; rfl
theorem cutL_idx {l : List Int} {i : Nat} (hi : i < l.length) (hall : ∀ j, j < i → l.getD j 0 ≠ 47) (h : l.getD i 0 = 47) : cutL l = (l.take i, l.drop (i + 1), true) := by
  have e : l = l.take i ++ 47 :: l.drop (i + 1) := by
    have h2 : l[i] = 47 := by rw [← h]; simp [List.getD_eq_getElem?_getD, hi]
    rw [← h2, ← List.drop_eq_getElem_cons hi, List.take_append_drop]
  have := cutL_at (p := l.take i) (q := l.drop (i + 1)) (fun z hz => by
    obtain ⟨j, hj⟩ := List.mem_iff_getElem?.1 hz
    have hjl := (List.getElem?_eq_some_iff.1 hj).1
    rw [List.length_take] at hjl
    have q := hall j (by omega)
    rw [List.getElem?_take_of_lt (by omega)] at hj
    rw [List.getD_eq_getElem?_getD, hj] at q
    exact q)
  rw [← e] at this; exact this
theorem cutL_none {l : List Int} (hall : ∀ j, j < l.length → l.getD j 0 ≠ 47) : (cutL l).2.2 = false := by
  cases h : (cutL l).2.2 with
  | false => rfl
  | true =>
    exfalso
    obtain ⟨h1, _⟩ := cutL_yes h
    have key : ∀ p q : List Int, l = p ++ 47 :: q → False := fun p q e => by
      subst e
      exact hall p.length (by simp) (by simp [List.getD_eq_getElem?_getD])
    exact key _ _ h1

set_option maxHeartbeats 4000000 in
theorem kFracParse_calls (H0 : AHeap) {row0 : ARow} (hr0 : Vh.rowAt H0 0 = some row0) (l : List Int) (hb : Bytes l) (hm : l.length ≤ 1000000) : ACalls Tryd.prog 23 [.str (strOfNums l)] H0 (List.range H0.length) (AnsF (fpN l) (fpD l) (fpE l) H0) := by
  refine ACalls.body Tryd.func23 ent_kFracParse ir_kFracParse_ok rs_kFracParse_ok Tryd.ntmps23 (by simp) rfl ?_
  unfold ir_kFracParse
  have e0 : s0 [.str (strOfNums l)] 0 = .str (strOfNums l) := rfl
  have hz : [AV.nilslice, AV.nilslice].all AV.cell = true := rfl
  simp (disch := omega) only [sN, ↓reduceIte, Nat.reduceEqDiff, Nat.reduceAdd, Nat.reduceMul, Nat.reduceSub, reduceCtorEq, e_none, e_some, e_bindS, e0]
  rw [x_allocA hz]
  have hB1 : Base H0 (H0 ++ [rw_ [AV.nilslice, AV.nilslice]]) := Base.one
  have r2 : Vh.rowAt (H0 ++ [rw_ [AV.nilslice, AV.nilslice]]) H0.length = some ⟨true, false, [.nilslice, .nilslice]⟩ := by simp [Vh.rowAt, rw_]
  generalize H0 ++ [rw_ [AV.nilslice, AV.nilslice]] = H1 at *
  have l01 : H0.length < H1.length := row_lt r2
  have bad : fpE l = 6 → ∀ (s : St) (H : AHeap), Base H0 H → s 2 = .ptr H0.length 0 → Vh.rowAt H H0.length = some ⟨true, false, [.nilslice, .nilslice]⟩ → s 3 = .int .i64 6 → retPost H0.length rs_kFracParse (AnsF (fpN l) (fpD l) (fpE l) H0) .ret s H := fun hE s H hB h2 hr h3 => by
    have hN : fpN l = 0 := by unfold fpN; rw [hE]; rfl
    have hD : fpD l = 0 := by unfold fpD; rw [hE]; rfl
    rw [hN, hD, hE]
    refine ret_keep hB.1 ?_
    rw [rs_kFracParse, ares_cell2 (r := H0.length) (row := ⟨true, false, [.nilslice, .nilslice]⟩) (l := [.nilslice, .nilslice]) h2 hr rfl rfl]
    exact ⟨hB, .nilslice, .nilslice, by rw [h3], .nil, .nil⟩
  simp (disch := omega) only [sN, ↓reduceIte, Nat.reduceEqDiff, Nat.reduceAdd, Nat.reduceMul, Nat.reduceSub, reduceCtorEq, e_none, e_some, e_bindS, e0, List.map_cons, List.map_nil]
  refine ⟨fun m s H => ∃ i : Nat, m = l.length - i ∧ i ≤ l.length ∧ (∀ j, j < i → l.getD j 0 ≠ 47) ∧ s 0 = .str (strOfNums l) ∧ s 2 = .ptr H0.length 0 ∧ s 4 = .int .i64 (i : Int) ∧ H = H1, l.length, ⟨0, rfl, by omega, fun j h => by omega, ?_, ?_, ?_, rfl⟩, ?_⟩
  · simp only [e_upd, e_putS, e_putN, e_t, e_c, Nat.reduceEqDiff, ↓reduceIte, reduceCtorEq, Nat.reduceAdd, e0]
  · simp only [e_upd, e_putS, e_putN, e_t, e_c, Nat.reduceEqDiff, ↓reduceIte, reduceCtorEq, Nat.reduceAdd]
  · simp only [e_upd, e_putS, e_putN, e_t, e_c, Nat.reduceEqDiff, ↓reduceIte, reduceCtorEq, Nat.reduceAdd]; rfl
  rintro mm s H ⟨i, rfl, hi, hall, k0, k2, k4, rfl⟩
  simp (disch := omega) only [sN, ↓reduceIte, Nat.reduceEqDiff, Nat.reduceAdd, Nat.reduceMul, Nat.reduceSub, reduceCtorEq, e_none, e_some, e_bindS, k0, k2, k4]
  rw [p_lenStrN (l := l) (by simp only [e_upd, e_putS, e_putN, e_t, e_c, Nat.reduceEqDiff, ↓reduceIte, reduceCtorEq, Nat.reduceAdd, k0])]
  by_cases hlt : i < l.length
  case neg =>
    obtain rfl : i = l.length := by omega
    have hE : fpE l = 6 := by unfold fpE fpOk; rw [cutL_none hall]; rfl
    simp (disch := omega) only [sN, ↓reduceIte, Nat.reduceEqDiff, Nat.reduceAdd, Nat.reduceMul, Nat.reduceSub, reduceCtorEq, e_none, e_some, e_bindS, k0, k2, k4]
    rw [p_lenStrN (l := l) (by simp only [e_upd, e_putS, e_putN, e_t, e_c, Nat.reduceEqDiff, ↓reduceIte, reduceCtorEq, Nat.reduceAdd, k0])]
    simp (disch := omega) only [sN, ↓reduceIte, Nat.reduceEqDiff, Nat.reduceAdd, Nat.reduceMul, Nat.reduceSub, reduceCtorEq, e_none, e_some, e_bindS, k0, k2, k4, p_build, afill, List.map_cons, List.map_nil, Option.map_some]
    rw [x_storeNA (n := 2) (r := H0.length) (l := [.nilslice, .nilslice]) (l' := [.nilslice, .nilslice]) (by simp only [e_upd, e_putS, e_putN, e_t, e_c, Nat.reduceEqDiff, ↓reduceIte, reduceCtorEq, Nat.reduceAdd, k2]) (by simp only [e_upd, e_putS, e_putN, e_t, e_c, Nat.reduceEqDiff, ↓reduceIte, reduceCtorEq, Nat.reduceAdd]) rfl r2 rfl rfl]
    simp (disch := omega) only [sN, ↓reduceIte, Nat.reduceEqDiff, Nat.reduceAdd, Nat.reduceMul, Nat.reduceSub, reduceCtorEq, e_none, e_some, e_bindS]
    exact bad hE _ _ (hB1.set (Nat.le_refl _)) (by simp only [e_upd, e_putS, e_putN, e_t, e_c, Nat.reduceEqDiff, ↓reduceIte, reduceCtorEq, Nat.reduceAdd, k2]) (by rw [rowAt_set (row_lt r2), if_pos rfl]; rfl) (by simp only [e_upd, e_putS, e_putN, e_t, e_c, Nat.reduceEqDiff, ↓reduceIte, reduceCtorEq, Nat.reduceAdd])
  have hbi := bytes_at hb hlt
  simp (disch := omega) only [sN, ↓reduceIte, Nat.reduceEqDiff, Nat.reduceAdd, Nat.reduceMul, Nat.reduceSub, reduceCtorEq, e_none, e_some, e_bindS, k0, k2, k4]
  rw [p_idxStrN (l := l) (i := i) (k := .i64) (by simp only [e_upd, e_putS, e_putN, e_t, e_c, Nat.reduceEqDiff, ↓reduceIte, reduceCtorEq, Nat.reduceAdd, k0]) (by simp only [e_upd, e_putS, e_putN, e_t, e_c, Nat.reduceEqDiff, ↓reduceIte, reduceCtorEq, Nat.reduceAdd, k4]) hb hlt]
  by_cases h47 : l.getD i 0 = 47
  case neg =>
    have hq : (l.getD i 0 != (47 : Int)) = true := by simpa using h47
    simp (disch := omega) only [sN, ↓reduceIte, Nat.reduceEqDiff, Nat.reduceAdd, Nat.reduceMul, Nat.reduceSub, reduceCtorEq, e_none, e_some, e_bindS, k0, k2, k4, hq]
    refine loop_keep (m := l.length - (i + 1)) (by omega) ⟨i + 1, rfl, by omega, fun j hj => ?_, ?_, ?_, ?_, rfl⟩
    · rcases Nat.lt_or_ge j i with h | h
      · exact hall j h
      · obtain rfl : j = i := by omega
        exact h47
    · simp only [e_upd, e_putS, e_putN, e_t, e_c, Nat.reduceEqDiff, ↓reduceIte, reduceCtorEq, Nat.reduceAdd, k0]
    · simp only [e_upd, e_putS, e_putN, e_t, e_c, Nat.reduceEqDiff, ↓reduceIte, reduceCtorEq, Nat.reduceAdd, k2]
    · simp only [e_upd, e_putS, e_putN, e_t, e_c, Nat.reduceEqDiff, ↓reduceIte, reduceCtorEq, Nat.reduceAdd]; rfl
  have hq : (l.getD i 0 != (47 : Int)) = false := by rw [h47]; rfl
  have hc := cutL_idx hlt hall h47
  have hcut : l = l.take i ++ 47 :: l.drop (i + 1) := by
    have := (cutL_yes (l := l) (by rw [hc])).1
    rw [hc] at this; exact this
  have hbp := cutL_bytes hb
  rw [hc] at hbp
  have hp' : (l.take i).length ≤ l.length := by rw [List.length_take]; omega
  have hq' : (l.drop (i + 1)).length ≤ l.length := by rw [List.length_drop]; omega
  have nel : (((i : Nat) : Int) == ((l.length : Nat) : Int)) = false := by simp; omega
  simp (disch := omega) only [sN, ↓reduceIte, Nat.reduceEqDiff, Nat.reduceAdd, Nat.reduceMul, Nat.reduceSub, reduceCtorEq, e_none, e_some, e_bindS, k0, k2, k4, hq]
  rw [p_lenStrN (l := l) (by simp only [e_upd, e_putS, e_putN, e_t, e_c, Nat.reduceEqDiff, ↓reduceIte, reduceCtorEq, Nat.reduceAdd, k0])]
  simp (disch := omega) only [sN, ↓reduceIte, Nat.reduceEqDiff, Nat.reduceAdd, Nat.reduceMul, Nat.reduceSub, reduceCtorEq, e_none, e_some, e_bindS, k0, k2, k4, nel]
  rw [p_takeStr (l := l) (k := i) (by simp only [e_upd, e_putS, e_putN, e_t, e_c, Nat.reduceEqDiff, ↓reduceIte, reduceCtorEq, Nat.reduceAdd, k0]) (by simp only [e_upd, e_putS, e_putN, e_t, e_c, Nat.reduceEqDiff, ↓reduceIte, reduceCtorEq, Nat.reduceAdd, k4]) (by omega)]
  simp (disch := omega) only [sN, ↓reduceIte, Nat.reduceEqDiff, Nat.reduceAdd, Nat.reduceMul, Nat.reduceSub, reduceCtorEq, e_none, e_some, e_bindS, k0, k2, k4, List.map_cons, List.map_nil]
  refine ⟨_, (kread_calls H (hB1.row hr0) (l.take i) hbp.1 (by omega)).g.mono ?_⟩
  rintro v2 H2 ⟨hB2, hv2⟩
  have hB02 := hB1.trans hB2
  have hv2 : isN (l.take i) = isN (cutL l).1 ∧ ∃ w1 b1, v2 = .tuple [w1, .bool b1] ∧ b1 = isN (l.take i) ∧ (b1 = true → ∃ r1, AtD H2 w1 (fpX l).toNat r1 ∧ w1.cell = true) := by
    have e1 : (cutL l).1 = l.take i := by rw [hc]
    refine ⟨by rw [e1], ?_⟩
    rcases hv2 with ⟨hN, w, r, rfl, hA, hcw⟩ | ⟨hN, rfl⟩
    · exact ⟨w, true, rfl, hN.symm, fun _ => ⟨r, by unfold fpX; rw [e1]; exact hA, hcw⟩⟩
    · exact ⟨_, false, rfl, hN.symm, fun h => by cases h⟩
  obtain ⟨hN1, w1, b1, rfl, hb1, hA1⟩ := hv2
  simp (disch := omega) only [sN, ↓reduceIte, Nat.reduceEqDiff, Nat.reduceAdd, Nat.reduceMul, Nat.reduceSub, reduceCtorEq, e_none, e_some, e_bindS, List.getElem?_cons_zero, List.getElem?_cons_succ, k0, k2, k4]
  rw [p_dropStr (l := l) (k := i + 1) (by simp only [e_upd, e_putS, e_putN, e_t, e_c, Nat.reduceEqDiff, ↓reduceIte, reduceCtorEq, Nat.reduceAdd, k0]) (by simp only [e_upd, e_putS, e_putN, e_t, e_c, Nat.reduceEqDiff, ↓reduceIte, reduceCtorEq, Nat.reduceAdd]; rfl) (by omega)]
  simp (disch := omega) only [sN, ↓reduceIte, Nat.reduceEqDiff, Nat.reduceAdd, Nat.reduceMul, Nat.reduceSub, reduceCtorEq, e_none, e_some, e_bindS, List.map_cons, List.map_nil, k0, k2, k4]
  refine ⟨_, (kread_calls H2 (hB02.row hr0) (l.drop (i + 1)) hbp.2 (by omega)).g.mono ?_⟩
  rintro v3 H3 ⟨hB3, hv3⟩
  have hB03 := hB02.trans hB3
  have hv3 : isN (l.drop (i + 1)) = isN (cutL l).2.1 ∧ ∃ w2 b2, v3 = .tuple [w2, .bool b2] ∧ b2 = isN (l.drop (i + 1)) ∧ (b2 = true → ∃ r2, AtD H3 w2 (fpY l).toNat r2 ∧ w2.cell = true) := by
    have e1 : (cutL l).2.1 = l.drop (i + 1) := by rw [hc]
    refine ⟨by rw [e1], ?_⟩
    rcases hv3 with ⟨hN, w, r, rfl, hA, hcw⟩ | ⟨hN, rfl⟩
    · exact ⟨w, true, rfl, hN.symm, fun _ => ⟨r, by unfold fpY; rw [e1]; exact hA, hcw⟩⟩
    · exact ⟨_, false, rfl, hN.symm, fun h => by cases h⟩
  obtain ⟨hN2, w2, b2, rfl, hb2, hA2⟩ := hv3
  have r2 := (hB2.trans hB3).row r2
  have r0 := hB03.row hr0
  have l0 := row_lt r2
  have hO : fpOk l = (b1 && b2) := by unfold fpOk; rw [← hN1, ← hN2, ← hb1, ← hb2, hc]; simp
  simp (disch := omega) only [sN, ↓reduceIte, Nat.reduceEqDiff, Nat.reduceAdd, Nat.reduceMul, Nat.reduceSub, reduceCtorEq, e_none, e_some, e_bindS, List.getElem?_cons_zero, List.getElem?_cons_succ, k0, k2, k4]
  cases b1 with
  | false =>
    have hE : fpE l = 6 := by unfold fpE; rw [hO]; rfl
    simp (disch := omega) only [sN, ↓reduceIte, Nat.reduceEqDiff, Nat.reduceAdd, Nat.reduceMul, Nat.reduceSub, reduceCtorEq, e_none, e_some, e_bindS, k0, k2, k4, p_build, afill, List.map_cons, List.map_nil, Option.map_some]
    rw [x_storeNA (n := 2) (r := H0.length) (l := [.nilslice, .nilslice]) (l' := [.nilslice, .nilslice]) (by simp only [e_upd, e_putS, e_putN, e_t, e_c, Nat.reduceEqDiff, ↓reduceIte, reduceCtorEq, Nat.reduceAdd, k2]) (by simp only [e_upd, e_putS, e_putN, e_t, e_c, Nat.reduceEqDiff, ↓reduceIte, reduceCtorEq, Nat.reduceAdd]) rfl r2 rfl rfl]
    simp (disch := omega) only [sN, ↓reduceIte, Nat.reduceEqDiff, Nat.reduceAdd, Nat.reduceMul, Nat.reduceSub, reduceCtorEq, e_none, e_some, e_bindS]
    exact bad hE _ _ (hB03.set (Nat.le_refl _)) (by simp only [e_upd, e_putS, e_putN, e_t, e_c, Nat.reduceEqDiff, ↓reduceIte, reduceCtorEq, Nat.reduceAdd, k2]) (by rw [rowAt_set l0, if_pos rfl]; rfl) (by simp only [e_upd, e_putS, e_putN, e_t, e_c, Nat.reduceEqDiff, ↓reduceIte, reduceCtorEq, Nat.reduceAdd])
  | true =>
  cases b2 with
  | false =>
    have hE : fpE l = 6 := by unfold fpE; rw [hO]; rfl
    simp (disch := omega) only [sN, ↓reduceIte, Nat.reduceEqDiff, Nat.reduceAdd, Nat.reduceMul, Nat.reduceSub, reduceCtorEq, e_none, e_some, e_bindS, k0, k2, k4, p_build, afill, List.map_cons, List.map_nil, Option.map_some]
    rw [x_storeNA (n := 2) (r := H0.length) (l := [.nilslice, .nilslice]) (l' := [.nilslice, .nilslice]) (by simp only [e_upd, e_putS, e_putN, e_t, e_c, Nat.reduceEqDiff, ↓reduceIte, reduceCtorEq, Nat.reduceAdd, k2]) (by simp only [e_upd, e_putS, e_putN, e_t, e_c, Nat.reduceEqDiff, ↓reduceIte, reduceCtorEq, Nat.reduceAdd]) rfl r2 rfl rfl]
    simp (disch := omega) only [sN, ↓reduceIte, Nat.reduceEqDiff, Nat.reduceAdd, Nat.reduceMul, Nat.reduceSub, reduceCtorEq, e_none, e_some, e_bindS]
    exact bad hE _ _ (hB03.set (Nat.le_refl _)) (by simp only [e_upd, e_putS, e_putN, e_t, e_c, Nat.reduceEqDiff, ↓reduceIte, reduceCtorEq, Nat.reduceAdd, k2]) (by rw [rowAt_set l0, if_pos rfl]; rfl) (by simp only [e_upd, e_putS, e_putN, e_t, e_c, Nat.reduceEqDiff, ↓reduceIte, reduceCtorEq, Nat.reduceAdd])
  | true =>
  obtain ⟨s1, a1, c1⟩ := hA1 rfl
  obtain ⟨s2, a2, c2⟩ := hA2 rfl
  have a1 := a1.base hB3
  have P1 : isN (cutL l).1 = true := by rw [← hN1, ← hb1]
  have P2 : isN (cutL l).2.1 = true := by rw [← hN2, ← hb2]
  have hE : fpE l = fpR (fpX l) (fpY l) := by unfold fpE; rw [hO]; rfl
  obtain ⟨⟨_, u1, _⟩, d1⟩ := isN_of P1
  obtain ⟨⟨_, u2, _⟩, d2⟩ := isN_of P2
  have hx : 0 ≤ fpX l ∧ fpX l < BB ^ (cutL l).1.length := vd_lt d1 (cutL l).1.length (Nat.le_refl _)
  have hy : 0 ≤ fpY l ∧ fpY l < BB ^ (cutL l).2.1.length := vd_lt d2 (cutL l).2.1.length (Nat.le_refl _)
  have hX : (((fpX l).toNat : Nat) : Int) = fpX l := Int.toNat_of_nonneg hx.1
  have hY : (((fpY l).toNat : Nat) : Int) = fpY l := Int.toNat_of_nonneg hy.1
  have g1 : (Dg.dg (fpX l).toNat).length ≤ 2468 := Nat.le_trans (dg_pow (i := (cutL l).1.length) (by rw [hX]; exact hx.2)) (by omega)
  have g2 : (Dg.dg (fpY l).toNat).length ≤ 2468 := Nat.le_trans (dg_pow (i := (cutL l).2.1.length) (by rw [hY]; exact hy.2)) (by omega)
  have over : ¬ (fpX l < BB ^ 64 ∧ fpY l < BB ^ 64) → ∀ (s : St) (H : AHeap), Base H0 H → s 2 = .ptr H0.length 0 → Vh.rowAt H H0.length = some ⟨true, false, [.nilslice, .nilslice]⟩ → s 3 = .int .i64 8 → retPost H0.length rs_kFracParse (AnsF (fpN l) (fpD l) (fpE l) H0) .ret s H := fun hS s H hB h2 hr h3 => by
    have hE8 : fpE l = 8 := by rw [hE]; exact if_neg hS
    have hN : fpN l = 0 := by unfold fpN; rw [hE8]; rfl
    have hD : fpD l = 0 := by unfold fpD; rw [hE8]; rfl
    rw [hN, hD, hE8]
    refine ret_keep hB.1 ?_
    rw [rs_kFracParse, ares_cell2 (r := H0.length) (row := ⟨true, false, [.nilslice, .nilslice]⟩) (l := [.nilslice, .nilslice]) h2 hr rfl rfl]
    exact ⟨hB, .nilslice, .nilslice, by rw [h3], .nil, .nil⟩
  simp (disch := omega) only [sN, ↓reduceIte, Nat.reduceEqDiff, Nat.reduceAdd, Nat.reduceMul, Nat.reduceSub, reduceCtorEq, e_none, e_some, e_bindS, k0, k2, k4, List.map_cons, List.map_nil]
  by_cases S1 : fpX l < BB ^ 64
  case neg =>
    refine call_fits (by omega) a1 (decide_eq_false (by rw [hX]; exact S1)) ?_
    simp (disch := omega) only [sN, ↓reduceIte, Nat.reduceEqDiff, Nat.reduceAdd, Nat.reduceMul, Nat.reduceSub, reduceCtorEq, e_none, e_some, e_bindS, k0, k2, k4, p_build, afill, List.map_cons, List.map_nil, Option.map_some]
    rw [x_storeNA (n := 2) (r := H0.length) (l := [.nilslice, .nilslice]) (l' := [.nilslice, .nilslice]) (by simp only [e_upd, e_putS, e_putN, e_t, e_c, Nat.reduceEqDiff, ↓reduceIte, reduceCtorEq, Nat.reduceAdd, k2]) (by simp only [e_upd, e_putS, e_putN, e_t, e_c, Nat.reduceEqDiff, ↓reduceIte, reduceCtorEq, Nat.reduceAdd]) rfl r2 rfl rfl]
    simp (disch := omega) only [sN, ↓reduceIte, Nat.reduceEqDiff, Nat.reduceAdd, Nat.reduceMul, Nat.reduceSub, reduceCtorEq, e_none, e_some, e_bindS]
    exact over (fun h => S1 h.1) _ _ (hB03.set (Nat.le_refl _)) (by simp only [e_upd, e_putS, e_putN, e_t, e_c, Nat.reduceEqDiff, ↓reduceIte, reduceCtorEq, Nat.reduceAdd, k2]) (by rw [rowAt_set l0, if_pos rfl]; rfl) (by simp only [e_upd, e_putS, e_putN, e_t, e_c, Nat.reduceEqDiff, ↓reduceIte, reduceCtorEq, Nat.reduceAdd])
  refine call_fits (by omega) a1 (decide_eq_true (by rw [hX]; exact S1)) ?_
  simp (disch := omega) only [sN, ↓reduceIte, Nat.reduceEqDiff, Nat.reduceAdd, Nat.reduceMul, Nat.reduceSub, reduceCtorEq, e_none, e_some, e_bindS, k0, k2, k4, List.map_cons, List.map_nil]
  by_cases S2 : fpY l < BB ^ 64
  case neg =>
    refine call_fits (by omega) a2 (decide_eq_false (by rw [hY]; exact S2)) ?_
    simp (disch := omega) only [sN, ↓reduceIte, Nat.reduceEqDiff, Nat.reduceAdd, Nat.reduceMul, Nat.reduceSub, reduceCtorEq, e_none, e_some, e_bindS, k0, k2, k4, p_build, afill, List.map_cons, List.map_nil, Option.map_some]
    rw [x_storeNA (n := 2) (r := H0.length) (l := [.nilslice, .nilslice]) (l' := [.nilslice, .nilslice]) (by simp only [e_upd, e_putS, e_putN, e_t, e_c, Nat.reduceEqDiff, ↓reduceIte, reduceCtorEq, Nat.reduceAdd, k2]) (by simp only [e_upd, e_putS, e_putN, e_t, e_c, Nat.reduceEqDiff, ↓reduceIte, reduceCtorEq, Nat.reduceAdd]) rfl r2 rfl rfl]
    simp (disch := omega) only [sN, ↓reduceIte, Nat.reduceEqDiff, Nat.reduceAdd, Nat.reduceMul, Nat.reduceSub, reduceCtorEq, e_none, e_some, e_bindS]
    exact over (fun h => S2 h.2) _ _ (hB03.set (Nat.le_refl _)) (by simp only [e_upd, e_putS, e_putN, e_t, e_c, Nat.reduceEqDiff, ↓reduceIte, reduceCtorEq, Nat.reduceAdd, k2]) (by rw [rowAt_set l0, if_pos rfl]; rfl) (by simp only [e_upd, e_putS, e_putN, e_t, e_c, Nat.reduceEqDiff, ↓reduceIte, reduceCtorEq, Nat.reduceAdd])
  refine call_fits (by omega) a2 (decide_eq_true (by rw [hY]; exact S2)) ?_
  have hR : fpE l = if ((Nat.gcd (fpX l).toNat (fpY l).toNat : Nat) : Int) = 1 ∧ fpY l ≠ 0 then 0 else 6 := by rw [hE]; exact if_pos ⟨S1, S2⟩
  simp (disch := omega) only [sN, ↓reduceIte, Nat.reduceEqDiff, Nat.reduceAdd, Nat.reduceMul, Nat.reduceSub, reduceCtorEq, e_none, e_some, e_bindS, k0, k2, k4, List.map_cons, List.map_nil]
  refine call_natV (by omega) a1 fun R1 w3 n1 => ?_
  simp (disch := omega) only [sN, ↓reduceIte, Nat.reduceEqDiff, Nat.reduceAdd, Nat.reduceMul, Nat.reduceSub, reduceCtorEq, e_none, e_some, e_bindS, k0, k2, k4, List.map_cons, List.map_nil]
  refine call_natV (by omega) (a2.base Base.one) fun R2 w4 n2 => ?_
  have n1 := n1.app (R := R2)
  rw [hX] at n1
  rw [hY] at n2
  have hB04 : Base H0 (H3 ++ R1 ++ R2) := hB03.app.app
  have n2 : NumV (H3 ++ R1 ++ R2) w4 (fpY l) H3.length := n2.le (by simp)
  have r2 : Vh.rowAt (H3 ++ R1 ++ R2) H0.length = some ⟨true, false, [.nilslice, .nilslice]⟩ := by rw [List.append_assoc, rowAt_append_left l0]; exact r2
  have l3 : H0.length < H3.length := l0
  generalize H3 ++ R1 ++ R2 = H4 at *
  have c3 := n1.cell
  have c4 := n2.cell
  simp (disch := omega) only [sN, ↓reduceIte, Nat.reduceEqDiff, Nat.reduceAdd, Nat.reduceMul, Nat.reduceSub, reduceCtorEq, e_none, e_some, e_bindS, k0, k2, k4]
  rw [p_build2 (v1 := w3) (v2 := w4) (by simp only [e_upd, e_putS, e_putN, e_t, e_c, Nat.reduceEqDiff, ↓reduceIte, reduceCtorEq, Nat.reduceAdd]) (by simp only [e_upd, e_putS, e_putN, e_t, e_c, Nat.reduceEqDiff, ↓reduceIte, reduceCtorEq, Nat.reduceAdd]) c3 c4]
  simp (disch := omega) only [sN, ↓reduceIte, Nat.reduceEqDiff, Nat.reduceAdd, Nat.reduceMul, Nat.reduceSub, reduceCtorEq, e_none, e_some, e_bindS]
  rw [x_allocA hz]
  simp (disch := omega) only [sN, ↓reduceIte, Nat.reduceEqDiff, Nat.reduceAdd, Nat.reduceMul, Nat.reduceSub, reduceCtorEq, e_none, e_some, e_bindS]
  rw [x_storeNA (n := 2) (r := H4.length) (l := [.nilslice, .nilslice]) (l' := [w3, w4]) (by simp only [e_upd, e_putS, e_putN, e_t, e_c, Nat.reduceEqDiff, ↓reduceIte, reduceCtorEq, Nat.reduceAdd]) (by simp only [e_upd, e_putS, e_putN, e_t, e_c, Nat.reduceEqDiff, ↓reduceIte, reduceCtorEq, Nat.reduceAdd]) (by simp [c3, c4]) (by simp [Vh.rowAt, rw_]) rfl rfl, set_last]
  have r5 : Vh.rowAt (H4 ++ [rw_ [w3, w4]]) H4.length = some ⟨true, false, [w3, w4]⟩ := by simp [Vh.rowAt, rw_]
  have r2 : Vh.rowAt (H4 ++ [rw_ [w3, w4]]) H0.length = some ⟨true, false, [.nilslice, .nilslice]⟩ := by rw [rowAt_append_left (row_lt r2)]; exact r2
  have hB05 : Base H0 (H4 ++ [rw_ [w3, w4]]) := hB04.app
  have n1 : NumV (H4 ++ [rw_ [w3, w4]]) w3 (fpX l) H3.length := n1.app
  have n2 : NumV (H4 ++ [rw_ [w3, w4]]) w4 (fpY l) H3.length := n2.app
  obtain ⟨p5, hp5⟩ : ∃ p, p = H4.length := ⟨_, rfl⟩
  rw [← hp5] at r5 ⊢
  generalize H4 ++ [rw_ [w3, w4]] = H5 at *
  simp (disch := omega) only [sN, ↓reduceIte, Nat.reduceEqDiff, Nat.reduceAdd, Nat.reduceMul, Nat.reduceSub, reduceCtorEq, e_none, e_some, e_bindS, k0, k2, k4]
  rw [x_loadNA (n := 2) (r := p5) (l := [w3, w4]) (by simp only [e_upd, e_putS, e_putN, e_t, e_c, Nat.reduceEqDiff, ↓reduceIte, reduceCtorEq, Nat.reduceAdd]) r5 rfl rfl]
  simp (disch := omega) only [sN, ↓reduceIte, Nat.reduceEqDiff, Nat.reduceAdd, Nat.reduceMul, Nat.reduceSub, reduceCtorEq, e_none, e_some, e_bindS, k0, k2, k4, List.map_cons, List.map_nil]
  have r05 := hB05.row hr0
  obtain ⟨m1, hm1, x1⟩ := (n1.norm r05).x S1
  obtain ⟨m2, hm2, x2⟩ := (n2.norm r05).x S2
  have hq : Fr.ok H5 ⟨w3, w4, fpX l, fpY l, m1, m2⟩ := ⟨x1, x2, show m1 ≤ 100000 by omega, show m2 ≤ 100000 by omega⟩
  refine ⟨_, (rFracText_calls H5 hq).g.mono ?_⟩
  rintro v6 H6 ⟨rfl, hB6⟩
  have hB06 := hB05.trans hB6
  have r2 := hB6.row r2
  have r5 := hB6.row r5
  have n1 := n1.base hB6
  have n2 := n2.base hB6
  have l6 := row_lt r2
  by_cases hy0 : fpY l = 0
  · have hcf : cfE [(⟨w3, w4, fpX l, fpY l, m1, m2⟩ : Fr)] = 7 := by simp [cfE, Fr.short, Fr.den, hm1, hm2, hy0]
    have hrf : rfE (⟨w3, w4, fpX l, fpY l, m1, m2⟩ : Fr) = 7 := by rw [(rfE_bad (by rw [hcf]; decide)).1, hcf]
    have hE6 : fpE l = 6 := by rw [hR]; exact if_neg fun h => h.2 hy0
    rw [hrf]
    simp (disch := omega) only [sN, ↓reduceIte, Nat.reduceEqDiff, Nat.reduceAdd, Nat.reduceMul, Nat.reduceSub, reduceCtorEq, e_none, e_some, e_bindS, k0, k2, k4, List.getElem?_cons_zero, List.getElem?_cons_succ, p_build, afill, List.map_cons, List.map_nil, Option.map_some]
    rw [x_storeNA (n := 2) (r := H0.length) (l := [.nilslice, .nilslice]) (l' := [.nilslice, .nilslice]) (by simp only [e_upd, e_putS, e_putN, e_t, e_c, Nat.reduceEqDiff, ↓reduceIte, reduceCtorEq, Nat.reduceAdd, k2]) (by simp only [e_upd, e_putS, e_putN, e_t, e_c, Nat.reduceEqDiff, ↓reduceIte, reduceCtorEq, Nat.reduceAdd]) rfl r2 rfl rfl]
    simp (disch := omega) only [sN, ↓reduceIte, Nat.reduceEqDiff, Nat.reduceAdd, Nat.reduceMul, Nat.reduceSub, reduceCtorEq, e_none, e_some, e_bindS]
    exact bad hE6 _ _ (hB06.set (Nat.le_refl _)) (by simp only [e_upd, e_putS, e_putN, e_t, e_c, Nat.reduceEqDiff, ↓reduceIte, reduceCtorEq, Nat.reduceAdd, k2]) (by rw [rowAt_set l6, if_pos rfl]; rfl) (by simp only [e_upd, e_putS, e_putN, e_t, e_c, Nat.reduceEqDiff, ↓reduceIte, reduceCtorEq, Nat.reduceAdd])
  have yp : 0 < fpY l := by omega
  have lX := red_le (x := fpX l) (y := fpY l) hx.1
  have lY := red_le (x := fpY l) (y := fpX l) hy.1
  have hred : redE (fpX l) (fpY l) = 0 := by
    unfold redE
    exact if_pos ⟨by omega, by omega⟩
  have hcf : cfE [(⟨w3, w4, fpX l, fpY l, m1, m2⟩ : Fr)] = 0 := by simp [cfE, Fr.short, Fr.den, hm1, hm2, hy0]
  obtain ⟨E1, E2, E3⟩ := rfE_good hcf
  have E1 : rfE (⟨w3, w4, fpX l, fpY l, m1, m2⟩ : Fr) = 0 := E1.trans hred
  have E2 : rfN (⟨w3, w4, fpX l, fpY l, m1, m2⟩ : Fr) = redX (fpX l) (fpY l) := E2.trans (if_pos hred)
  have E3 : rfD (⟨w3, w4, fpX l, fpY l, m1, m2⟩ : Fr) = redX (fpY l) (fpX l) := E3.trans (if_pos hred)
  have hft : ftS (⟨w3, w4, fpX l, fpY l, m1, m2⟩ : Fr) = strOfNums (txN (redX (fpX l) (fpY l)).toNat ++ 47 :: txN (redX (fpY l) (fpX l)).toNat) := by
    unfold ftS
    rw [if_pos E1, E2, E3, slS_app]
  have hsame := fp_same P1 P2 (X := (fpX l).toNat) (Y := (fpY l).toNat) hX hY (x := fpX l) (y := fpY l) rfl rfl
  have hl : (cutL l).1 ++ 47 :: (cutL l).2.1 = l := by rw [hc]; exact hcut.symm
  rw [hl, red_self hx.1 yp] at hsame
  rw [E1, hft]
  simp (disch := omega) only [sN, ↓reduceIte, Nat.reduceEqDiff, Nat.reduceAdd, Nat.reduceMul, Nat.reduceSub, reduceCtorEq, e_none, e_some, e_bindS, k0, k2, k4, List.getElem?_cons_zero, List.getElem?_cons_succ, neq_str]
  by_cases hg : ((Nat.gcd (fpX l).toNat (fpY l).toNat : Nat) : Int) = 1
  case neg =>
    have hE6 : fpE l = 6 := by rw [hR]; exact if_neg fun h => hg h.1
    rw [decide_eq_false (fun h => hg (hsame.1 h))]
    simp (disch := omega) only [sN, ↓reduceIte, Nat.reduceEqDiff, Nat.reduceAdd, Nat.reduceMul, Nat.reduceSub, reduceCtorEq, e_none, e_some, e_bindS, k0, k2, k4, p_build, afill, List.map_cons, List.map_nil, Option.map_some]
    rw [x_storeNA (n := 2) (r := H0.length) (l := [.nilslice, .nilslice]) (l' := [.nilslice, .nilslice]) (by simp only [e_upd, e_putS, e_putN, e_t, e_c, Nat.reduceEqDiff, ↓reduceIte, reduceCtorEq, Nat.reduceAdd, k2]) (by simp only [e_upd, e_putS, e_putN, e_t, e_c, Nat.reduceEqDiff, ↓reduceIte, reduceCtorEq, Nat.reduceAdd]) rfl r2 rfl rfl]
    simp (disch := omega) only [sN, ↓reduceIte, Nat.reduceEqDiff, Nat.reduceAdd, Nat.reduceMul, Nat.reduceSub, reduceCtorEq, e_none, e_some, e_bindS]
    exact bad hE6 _ _ (hB06.set (Nat.le_refl _)) (by simp only [e_upd, e_putS, e_putN, e_t, e_c, Nat.reduceEqDiff, ↓reduceIte, reduceCtorEq, Nat.reduceAdd, k2]) (by rw [rowAt_set l6, if_pos rfl]; rfl) (by simp only [e_upd, e_putS, e_putN, e_t, e_c, Nat.reduceEqDiff, ↓reduceIte, reduceCtorEq, Nat.reduceAdd])
  rw [decide_eq_true (hsame.2 hg)]
  have hE0 : fpE l = 0 := by rw [hR]; exact if_pos ⟨hg, hy0⟩
  have hN : fpN l = fpX l := by unfold fpN; rw [if_pos hE0]
  have hD : fpD l = fpY l := by unfold fpD; rw [if_pos hE0]
  rw [hN, hD, hE0]
  simp (disch := omega) only [sN, ↓reduceIte, Nat.reduceEqDiff, Nat.reduceAdd, Nat.reduceMul, Nat.reduceSub, reduceCtorEq, e_none, e_some, e_bindS, k0, k2, k4]
  rw [x_loadNA (n := 2) (r := p5) (l := [w3, w4]) (by simp only [e_upd, e_putS, e_putN, e_t, e_c, Nat.reduceEqDiff, ↓reduceIte, reduceCtorEq, Nat.reduceAdd]) r5 rfl rfl]
  simp (disch := omega) only [sN, ↓reduceIte, Nat.reduceEqDiff, Nat.reduceAdd, Nat.reduceMul, Nat.reduceSub, reduceCtorEq, e_none, e_some, e_bindS, k0, k2, k4]
  rw [x_storeNA (n := 2) (r := H0.length) (l := [.nilslice, .nilslice]) (l' := [w3, w4]) (by simp only [e_upd, e_putS, e_putN, e_t, e_c, Nat.reduceEqDiff, ↓reduceIte, reduceCtorEq, Nat.reduceAdd, k2]) (by simp only [e_upd, e_putS, e_putN, e_t, e_c, Nat.reduceEqDiff, ↓reduceIte, reduceCtorEq, Nat.reduceAdd]) (by simp [c3, c4]) r2 rfl rfl]
  simp (disch := omega) only [sN, ↓reduceIte, Nat.reduceEqDiff, Nat.reduceAdd, Nat.reduceMul, Nat.reduceSub, reduceCtorEq, e_none, e_some, e_bindS]
  refine ret_keep (hB06.set (Nat.le_refl _)).1 ?_
  rw [rs_kFracParse, ares_cell2 (r := H0.length) (row := ⟨true, false, [w3, w4]⟩) (l := [w3, w4]) (by simp only [e_upd, e_putS, e_putN, e_t, e_c, Nat.reduceEqDiff, ↓reduceIte, reduceCtorEq, Nat.reduceAdd, k2]) (by rw [rowAt_set l6, if_pos rfl]; rfl) rfl rfl]
  refine ⟨hB06.set (Nat.le_refl _), w3, w4, ?_, (n1.set l3).le hB03.1, (n2.set l3).le hB03.1⟩
  simp only [e_upd, e_putS, e_putN, e_t, e_c, Nat.reduceEqDiff, ↓reduceIte, reduceCtorEq, Nat.reduceAdd]
end Go.Proofs.YtjmceapnhmeflaaDoor

