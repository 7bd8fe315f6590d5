/- Contracts: the reference's digits, Check and CheckFrac, of numbers somewhere in a heap. -/
import Derived.Test.YtjmceapnhmeflaaDoorVX
import Derived.Test.YtjmceapnhmeflaaDoorFI
import Derived.Test.YtjmceapnhmeflaaDoorIrD
import Derived.Test.YtjmceapnhmeflaaDoorED
import Derived.Test.YtjmceapnhmeflaaDoorFK
set_option linter.unusedSimpArgs false
set_option linter.unusedVariables false
-- NEWSET
namespace Go.Proofs.YtjmceapnhmeflaaDoor
open Go Go.Vh

theorem digs_cons (x : Int) (l : List Int) : digs (x :: l) = dig4 x ++ digs l := by simp [digs]
theorem limbs_tail {x : Int} {l : List Int} (h : Limbs (x :: l)) : (0 ≤ x ∧ x ≤ 4294967295) ∧ Limbs l := ⟨by simpa using h 0, fun i => by simpa using h (i + 1)⟩
theorem dl_digs : ∀ {l : List Int}, Limbs l → Dg.DL (digs l)
  | [], _ => by intro i; simp [digs]
  | x :: l, h => by
    obtain ⟨h1, h2⟩ := limbs_tail h
    have ih := dl_digs h2
    intro i
    rw [digs_cons]
    match i with
    | 0 => simp [dig4]; omega
    | 1 => simp [dig4]; omega
    | 2 => simp [dig4]; omega
    | 3 => simp [dig4]; omega
    | i + 4 => simpa [dig4] using ih i
theorem nv_cons2 (x : Int) (l : List Int) : ∀ k, nv (x :: l) (k + 1) = x + 4294967296 * nv l k
  | 0 => by simp [nv]
  | k + 1 => by
    rw [nv, nv_cons2 x l k, nv]
    simp only [List.getD_cons_succ, Int.pow_succ]
    rw [Int.mul_add, Int.mul_comm (BB ^ k) BB, Int.mul_left_comm, show BB = 4294967296 from rfl]
    omega
theorem num_cons2 (x : Int) (l : List Int) : num (x :: l) = x + 4294967296 * num l := nv_cons2 x l l.length
theorem num_digs : ∀ {l : List Int}, Limbs l → Dg.num (digs l) = num l
  | [], _ => rfl
  | x :: l, h => by
    obtain ⟨h1, h2⟩ := limbs_tail h
    have ih := num_digs h2
    rw [digs_cons, num_cons2, ← ih]
    simp only [dig4, List.cons_append, List.nil_append, Dg.num_cons]
    omega

section
variable {K : St → AHeap → Prop} {d : Option Nat} {s : St} {H : AHeap}
theorem call_digV {x : Int} {n : Nat} {w : AV} (hu : AtX H w x n) (hn : n ≤ 100000) (hK : ∀ R v r, AtD (H ++ R) v x.toNat r → v.cell = true → K (putI d s v) (H ++ R)) : thenC Tryd.prog K d s H [w] (.func 64 []) := by
  obtain ⟨κ, l, row, r, h1, rfl, h3, h4, h5, rfl, rfl⟩ := hu
  have hlen := digs_length l
  have htr := Dg.trim_dg (dl_digs h5)
  rw [num_digs h5, hlen, ← tz_dg] at htr
  have hle := tz_le (digs l) (4 * l.length)
  have hll : tz (digs l) (4 * l.length) = (Dg.dg (num l).toNat).length := by
    have := congrArg List.length htr
    rw [List.length_take, hlen] at this
    omega
  refine call_c1 (da := 0) (rest := []) (rdigits_calls κ l h1 (by omega) h5) ints_flat rfl h3 (by rw [ints_length, Nat.zero_add]; have := congrArg List.length h4; simp only [List.length_take, ints_length] at this; omega) (by rw [List.drop_zero, ints_length, h4]) rfl ?_
  rintro v0 H0' ⟨rfl, rfl⟩
  by_cases hl : l = []
  · subst hl
    have := hK [] .nilslice r (by rw [List.append_nil]; exact AtD.zero h3) rfl
    rw [List.append_nil] at this
    rw [show ((digH []).drop 1) = [] from rfl, List.map_nil, List.append_nil]
    exact this
  · have hk : digK l = .u := by rw [digK, if_neg hl]
    have hh : (digH l).drop 1 = [sl (ints .i64 (digs l))] := by rw [digH, if_neg hl]; rfl
    rw [hk, hh, hll, n_mkS0 (r' := H.length) (by simp [sig]), List.map_cons, List.map_nil, show renRow (sig [(r, 0)] H.length) (sl (ints .i64 (digs l))) = sl (ints .i64 (digs l)) from flat_row ints_flat rfl]
    refine hK [sl (ints .i64 (digs l))] _ H.length ⟨.u, ⟨true, true, ints .i64 (digs l)⟩, okS_u, rfl, by simp [Vh.rowAt, sl], ?_⟩ mkS_cell
    rw [ints_take, ← hll, htr]
end

theorem rCheck_calls (κ : SK) (n : Nat) (hk : okS κ n) (hn : n < 9223372036854775807) : ACalls Tryd.prog 115 [mkS κ 0 0 n] [ro []] (List.range 1) fun v H => v = .int .i64 (if n ≤ 64 then 0 else 4) ∧ H = [ro []] := by
  refine ACalls.body Tryd.func115 ent_rCheck ir_rCheck_ok rs_rCheck_ok Tryd.ntmps115 (by simp) rfl ?_
  unfold ir_rCheck
  have e0 : s0 [mkS κ 0 0 n] 0 = mkS κ 0 0 n := rfl
  by_cases h : n ≤ 64
  · simp (disch := omega) only [sN, ↓reduceIte, Nat.reduceEqDiff, Nat.reduceAdd, Nat.reduceMul, Nat.reduceSub, reduceCtorEq, e_none, e_some, e_bindS, e0, k_len hk]
    refine ret_keep (by simp) ⟨?_, rfl⟩
    rw [if_pos h]
    simp only [e_upd, e_putS, e_putN, e_t, e_c, Nat.reduceEqDiff, ↓reduceIte, reduceCtorEq, Nat.reduceAdd]
  · simp (disch := omega) only [sN, ↓reduceIte, Nat.reduceEqDiff, Nat.reduceAdd, Nat.reduceMul, Nat.reduceSub, reduceCtorEq, e_none, e_some, e_bindS, e0, k_len hk]
    refine ret_keep (by simp) ⟨?_, rfl⟩
    rw [if_neg h]
    simp only [e_upd, e_putS, e_putN, e_t, e_c, Nat.reduceEqDiff, ↓reduceIte, reduceCtorEq, Nat.reduceAdd]
theorem call_rCheck {x : Int} {n : Nat} {w : AV} {K : St → AHeap → Prop} {d : Option Nat} {s : St} {H : AHeap} (hu : AtX H w x n) (hn : n ≤ 100000) (hK : K (putI d s (.int .i64 (if n ≤ 64 then 0 else 4))) H) : thenC Tryd.prog K d s H [w] (.func 115 []) := by
  obtain ⟨κ, l, row, r, h1, rfl, h3, h4, h5, rfl, rfl⟩ := hu
  refine call_c1 (da := 0) (rest := []) (cs := []) (rCheck_calls κ l.length h1 (by omega)) rfl rfl h3 (by simp) (by simp) rfl ?_
  rintro v0 H0' ⟨rfl, rfl⟩
  rw [n_int, show ([ro []] : AHeap).drop 1 = [] from rfl, List.map_nil, List.append_nil]
  exact hK
theorem rboth_calls (H0 : AHeap) {x y : Int} {n m : Nat} {u v : AV} (hu : AtX H0 u x n) (hv : AtX H0 v y m) (hn : n ≤ 100000) (hm : m ≤ 100000) : ACalls Tryd.prog 78 [u, v] H0 (List.range H0.length) fun w H => w = .int .i64 (if n ≤ 64 ∧ m ≤ 64 then 0 else 4) ∧ Base H0 H := by
  refine ACalls.body Tryd.func78 ent_rboth ir_rboth_ok rs_rboth_ok Tryd.ntmps78 (by simp) rfl ?_
  unfold ir_rboth
  have e0 : s0 [u, v] 0 = u := rfl
  have e1 : s0 [u, v] 1 = v := rfl
  simp (disch := omega) only [sN, ↓reduceIte, Nat.reduceEqDiff, Nat.reduceAdd, Nat.reduceMul, Nat.reduceSub, reduceCtorEq, e_none, e_some, e_bindS, e0, e1, List.map_cons, List.map_nil]
  refine call_rCheck hu hn ?_
  by_cases h : n ≤ 64
  · rw [if_pos h]
    simp (disch := omega) only [sN, ↓reduceIte, Nat.reduceEqDiff, Nat.reduceAdd, Nat.reduceMul, Nat.reduceSub, reduceCtorEq, e_none, e_some, e_bindS, e0, e1, List.map_cons, List.map_nil]
    refine call_rCheck hv hm ?_
    by_cases h' : m ≤ 64
    · rw [if_pos h', if_pos ⟨h, h'⟩]
      simp (disch := omega) only [sN, ↓reduceIte, Nat.reduceEqDiff, Nat.reduceAdd, Nat.reduceMul, Nat.reduceSub, reduceCtorEq, e_none, e_some, e_bindS]
      refine ret_keep (Nat.le_refl _) ⟨?_, Base.refl⟩
      simp only [e_upd, e_putS, e_putN, e_t, e_c, Nat.reduceEqDiff, ↓reduceIte, reduceCtorEq, Nat.reduceAdd]
    · rw [if_neg h', if_neg fun q => h' q.2]
      simp (disch := omega) only [sN, ↓reduceIte, Nat.reduceEqDiff, Nat.reduceAdd, Nat.reduceMul, Nat.reduceSub, reduceCtorEq, e_none, e_some, e_bindS]
      refine ret_keep (Nat.le_refl _) ⟨?_, Base.refl⟩
      simp only [e_upd, e_putS, e_putN, e_t, e_c, Nat.reduceEqDiff, ↓reduceIte, reduceCtorEq, Nat.reduceAdd]
  · rw [if_neg h, if_neg fun q => h q.1]
    simp (disch := omega) only [sN, ↓reduceIte, Nat.reduceEqDiff, Nat.reduceAdd, Nat.reduceMul, Nat.reduceSub, reduceCtorEq, e_none, e_some, e_bindS]
    refine ret_keep (Nat.le_refl _) ⟨?_, Base.refl⟩
    simp only [e_upd, e_putS, e_putN, e_t, e_c, Nat.reduceEqDiff, ↓reduceIte, reduceCtorEq, Nat.reduceAdd]

set_option maxHeartbeats 1000000 in
theorem rCheckFrac_calls (H0 : AHeap) {q : Fr} (hq : q.ok H0) : ACalls Tryd.prog 27 [.agg [q.w, q.w2]] H0 (List.range H0.length) fun w H => w = .int .i64 (cfE [q]) ∧ Base H0 H := by
  refine ACalls.body Tryd.func27 ent_rCheckFrac ir_rCheckFrac_ok rs_rCheckFrac_ok Tryd.ntmps27 (by simp) rfl ?_
  unfold ir_rCheckFrac
  have e0 : s0 [.agg [q.w, q.w2]] 0 = .agg [q.w, q.w2] := rfl
  simp (disch := omega) only [sN, ↓reduceIte, Nat.reduceEqDiff, Nat.reduceAdd, Nat.reduceMul, Nat.reduceSub, reduceCtorEq, e_none, e_some, e_bindS, e0]
  rw [x_boxN (l := [q.w, q.w2]) (by simp only [e_upd, e_putS, e_putN, e_t, e_c, Nat.reduceEqDiff, ↓reduceIte, reduceCtorEq, Nat.reduceAdd, e0]) (by simp [hq.1.cell, hq.2.1.cell])]
  have hr : Vh.rowAt (H0 ++ [rw_ [q.w, q.w2]]) H0.length = some ⟨true, false, [q.w, q.w2]⟩ := by simp [Vh.rowAt, rw_]
  have hB : Base H0 (H0 ++ [rw_ [q.w, q.w2]]) := Base.one
  have hq1 := hq.base hB
  simp (disch := omega) only [sN, ↓reduceIte, Nat.reduceEqDiff, Nat.reduceAdd, Nat.reduceMul, Nat.reduceSub, reduceCtorEq, e_none, e_some, e_bindS, hr, p_fieldAddr, Nat.zero_add, Option.bind_some, Option.map_some, List.getElem?_cons_zero, List.getElem?_cons_succ, List.map_cons, List.map_nil]
  refine ⟨_, (rboth_calls _ hq1.1 hq1.2.1 hq1.2.2.1 hq1.2.2.2).g.mono ?_⟩
  rintro v H ⟨rfl, hB1⟩
  have hrH := hB1.row hr
  have hBH := hB.trans hB1
  have hq2 := hq1.base hB1
  by_cases hs : q.n ≤ 64 ∧ q.m ≤ 64
  · rw [if_pos hs]
    simp (disch := omega) only [sN, ↓reduceIte, Nat.reduceEqDiff, Nat.reduceAdd, Nat.reduceMul, Nat.reduceSub, reduceCtorEq, e_none, e_some, e_bindS, hrH, p_fieldAddr, Nat.zero_add, Option.bind_some, Option.map_some, List.getElem?_cons_zero, List.getElem?_cons_succ, List.map_cons, List.map_nil]
    refine call_digV hq2.2.1 hq2.2.2.2 ?_
    intro R w r hw hwc
    have hy0 : 0 ≤ q.y := (hq2.2.1.k (Nat.le_refl _)).choose_spec.nonneg
    obtain ⟨κ, row, k1, rfl, k3, k4⟩ := hw
    by_cases hd : q.y = 0
    · have hE : cfE [q] = 7 := by simp [cfE, Fr.short, Fr.den, hs, hd]
      rw [hE]
      have hl : (Dg.dg q.y.toNat).length = 0 := by rw [hd, Int.toNat_zero, Dg.dg_zero]; rfl
      simp (disch := omega) only [sN, ↓reduceIte, Nat.reduceEqDiff, Nat.reduceAdd, Nat.reduceMul, Nat.reduceSub, reduceCtorEq, e_none, e_some, e_bindS, k_len k1]
      refine ret_keep (by have := hBH.1; simp; omega) ⟨?_, hBH.app⟩
      simp only [e_upd, e_putS, e_putN, e_t, e_c, Nat.reduceEqDiff, ↓reduceIte, reduceCtorEq, Nat.reduceAdd]
    · have hE : cfE [q] = 0 := by simp [cfE, Fr.short, Fr.den, hs, hd]
      rw [hE]
      have hl : (Dg.dg q.y.toNat).length ≠ 0 := by
        rw [Dg.dg_pos (by omega)]; simp
      simp (disch := omega) only [sN, ↓reduceIte, Nat.reduceEqDiff, Nat.reduceAdd, Nat.reduceMul, Nat.reduceSub, reduceCtorEq, e_none, e_some, e_bindS, k_len k1]
      refine ret_keep (by have := hBH.1; simp; omega) ⟨?_, hBH.app⟩
      simp only [e_upd, e_putS, e_putN, e_t, e_c, Nat.reduceEqDiff, ↓reduceIte, reduceCtorEq, Nat.reduceAdd]
  · have hE : cfE [q] = 4 := by simp only [cfE, Fr.short, List.all_cons, List.all_nil, Bool.and_true, decide_eq_false hs]; rfl
    rw [if_neg hs, hE]
    simp (disch := omega) only [sN, ↓reduceIte, Nat.reduceEqDiff, Nat.reduceAdd, Nat.reduceMul, Nat.reduceSub, reduceCtorEq, e_none, e_some, e_bindS]
    refine ret_keep hBH.1 ⟨?_, hBH⟩
    simp only [e_upd, e_putS, e_putN, e_t, e_c, Nat.reduceEqDiff, ↓reduceIte, reduceCtorEq, Nat.reduceAdd]
end Go.Proofs.YtjmceapnhmeflaaDoor


/- Contracts: the reference's Bound. -/
-- NEWSET
namespace Go.Proofs.YtjmceapnhmeflaaDoor
open Go Go.Vh

theorem AtO.frame {H H' : AHeap} {v : AV} {n r : Nat} (h : AtO H' v n r) : AtD (H ++ H'.map (renRow (sig [] H.length))) (v.ren (sig [] H.length)) n (H.length + r) := by
  obtain ⟨⟨κ, row, h1, rfl, h3, h4⟩, row', h5, h6⟩ := h
  rw [h3] at h5; cases h5
  have hr : H'[r]? = some (some row) := by
    unfold Vh.rowAt at h3
    cases hq : H'[r]? with
    | none => rw [hq] at h3; simp at h3
    | some z => rw [hq] at h3; simp at h3; rw [h3]
  refine ⟨κ, ⟨true, row.slack, renL (sig [] H.length) row.cells⟩, h1, ?_, ?_, ?_⟩
  · rw [n_mkS0 (r' := H.length + r) (by simp [sig])]
  · unfold Vh.rowAt
    rw [List.getElem?_append_right (by omega), Nat.add_sub_cancel_left, List.getElem?_map, hr]
    simp [renRow, h6]
  · show (renL _ row.cells).take _ = _
    rw [renL_take, h4, flatL_ren ints_flat]

section
variable {K : St → AHeap → Prop} {d : Option Nat} {s : St} {H : AHeap}
theorem call_digV0 {x : Int} {n : Nat} {w : AV} (hu : AtX H w x n) (hn : n ≤ 100000) (hK : ∀ R v r, AtD (H ++ R) v x.toNat r → v.cell = true → K (putI d s v) (H ++ R)) : thenC0 Tryd.prog K d s H [w] (.func 64 []) := by
  obtain ⟨κ, l, row, r, h1, rfl, h3, h4, h5, rfl, rfl⟩ := hu
  have hlen := digs_length l
  have htr := Dg.trim_dg (dl_digs h5)
  rw [num_digs h5, hlen, ← tz_dg] at htr
  have hle := tz_le (digs l) (4 * l.length)
  have hll : tz (digs l) (4 * l.length) = (Dg.dg (num l).toNat).length := by
    have := congrArg List.length htr
    rw [List.length_take, hlen] at this
    omega
  refine call_do0 (rdigits_calls κ l h1 (by omega) h5) [(r, 0)] rfl ?_ rfl rfl ?_ ⟨seen_limbs h3 h4, trivial⟩ ?_
  · simp [underL, mkS_under]
  · rw [n_lcons, n_mkS0 (r' := r) rfl]; rfl
  rintro v0 H0' ⟨rfl, rfl⟩
  rw [m_merge, m_ro, m_nil]
  by_cases hl : l = []
  · subst hl
    have := hK [] .nilslice r (by rw [List.append_nil]; exact AtD.zero h3) rfl
    rw [List.append_nil] at this
    rw [show ((digH []).drop [ro (ints .u32 [])].length) = [] from rfl, List.map_nil, List.append_nil]
    exact this
  · have hk : digK l = .u := by rw [digK, if_neg hl]
    have hh : (digH l).drop [ro (ints .u32 l)].length = [sl (ints .i64 (digs l))] := by rw [digH, if_neg hl]; rfl
    rw [hk, hh, hll, n_mkS0 (r' := H.length) (by simp [sig]), List.map_cons, List.map_nil, show renRow (sig [(r, 0)] H.length) (sl (ints .i64 (digs l))) = sl (ints .i64 (digs l)) from flat_row ints_flat rfl]
    refine hK [sl (ints .i64 (digs l))] _ H.length ⟨.u, ⟨true, true, ints .i64 (digs l)⟩, okS_u, rfl, by simp [Vh.rowAt, sl], ?_⟩ mkS_cell
    rw [ints_take, ← hll, htr]
end
theorem AtX.dgl {H : AHeap} {w : AV} {x : Int} {n : Nat} (h : AtX H w x n) : 0 ≤ x ∧ (Dg.dg x.toNat).length ≤ 4 * n := by
  obtain ⟨r, hk⟩ := h.k (Nat.le_refl n)
  have h0 := hk.nonneg
  exact ⟨h0, dg_fits.2 (by rw [Int.toNat_of_nonneg h0]; exact hk.lt_pow)⟩
theorem dg_mul_len {x y a b : Nat} (hx : (Dg.dg x).length ≤ 4 * a) (hy : (Dg.dg y).length ≤ 4 * b) : (Dg.dg (x * y)).length ≤ 4 * (a + b) := by
  rw [dg_fits] at *
  rw [Int.natCast_mul]
  exact mul_pow (by omega) (by omega) hx hy

end Go.Proofs.YtjmceapnhmeflaaDoor

