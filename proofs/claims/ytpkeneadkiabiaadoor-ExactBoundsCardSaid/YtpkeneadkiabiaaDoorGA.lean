/- Contracts: the reference's digits, Check and CheckFrac, of numbers somewhere in a heap. -/
import Derived.Test.YtpkeneadkiabiaaDoorVX
import Derived.Test.YtpkeneadkiabiaaDoorFI
import Derived.Test.YtpkeneadkiabiaaDoorIrE
import Derived.Test.YtpkeneadkiabiaaDoorEE
import Derived.Test.YtpkeneadkiabiaaDoorFK
set_option linter.unusedSimpArgs false
set_option linter.unusedVariables false
-- NEWSET
namespace Go.Proofs.YtpkeneadkiabiaaDoor
open Go Go.Vh

theorem digs_cons (x : Int) (l : List Int) : digs (x :: l) = dig4 x ++ digs l := by simp [digs]
theorem limbs_tail {x : Int} {l : List Int} (h : Limbs (x :: l)) : (0 ≤ x ∧ x ≤ 4294967295) ∧ Limbs l := ⟨by simpa using h 0, fun i => by simpa using h (i + 1)⟩
theorem dl_digs : ∀ {l : List Int}, Limbs l → Dg.DL (digs l)
  | [], _ => by intro i; simp [digs]
  | x :: l, h => by
    obtain ⟨h1, h2⟩ := limbs_tail h
    have ih := dl_digs h2
    intro i
    rw [digs_cons]
    match i with
    | 0 => simp [dig4]; omega
    | 1 => simp [dig4]; omega
    | 2 => simp [dig4]; omega
    | 3 => simp [dig4]; omega
    | i + 4 => simpa [dig4] using ih i
theorem nv_cons2 (x : Int) (l : List Int) : ∀ k, nv (x :: l) (k + 1) = x + 4294967296 * nv l k
  | 0 => by simp [nv]
  | k + 1 => by
    rw [nv, nv_cons2 x l k, nv]
    simp only [List.getD_cons_succ, Int.pow_succ]
    rw [Int.mul_add, Int.mul_comm (BB ^ k) BB, Int.mul_left_comm, show BB = 4294967296 from rfl]
    omega
theorem num_cons2 (x : Int) (l : List Int) : num (x :: l) = x + 4294967296 * num l := nv_cons2 x l l.length
theorem num_digs : ∀ {l : List Int}, Limbs l → Dg.num (digs l) = num l
  | [], _ => rfl
  | x :: l, h => by
    obtain ⟨h1, h2⟩ := limbs_tail h
    have ih := num_digs h2
    rw [digs_cons, num_cons2, ← ih]
    simp only [dig4, List.cons_append, List.nil_append, Dg.num_cons]
    omega

section
variable {K : St → AHeap → Prop} {d : Option Nat} {s : St} {H : AHeap}
theorem call_digV {x : Int} {n : Nat} {w : AV} (hu : AtX H w x n) (hn : n ≤ 100000) (hK : ∀ R v r, AtD (H ++ R) v x.toNat r → v.cell = true → K (putI d s v) (H ++ R)) : thenC Tryd.prog K d s H [w] (.func 64 []) := by
  obtain ⟨κ, l, row, r, h1, rfl, h3, h4, h5, rfl, rfl⟩ := hu
  have hlen := digs_length l
  have htr := Dg.trim_dg (dl_digs h5)
  rw [num_digs h5, hlen, ← tz_dg] at htr
  have hle := tz_le (digs l) (4 * l.length)
  have hll : tz (digs l) (4 * l.length) = (Dg.dg (num l).toNat).length := by
    have := congrArg List.length htr
    rw [List.length_take, hlen] at this
    omega
  refine call_c1 (da := 0) (rest := []) (rdigits_calls κ l h1 (by omega) h5) ints_flat rfl h3 (by rw [ints_length, Nat.zero_add]; have := congrArg List.length h4; simp only [List.length_take, ints_length] at this; omega) (by rw [List.drop_zero, ints_length, h4]) rfl ?_
  rintro v0 H0' ⟨rfl, rfl⟩
  by_cases hl : l = []
  · subst hl
    have := hK [] .nilslice r (by rw [List.append_nil]; exact AtD.zero h3) rfl
    rw [List.append_nil] at this
    rw [show ((digH []).drop 1) = [] from rfl, List.map_nil, List.append_nil]
    exact this
  · have hk : digK l = .u := by rw [digK, if_neg hl]
    have hh : (digH l).drop 1 = [sl (ints .i64 (digs l))] := by rw [digH, if_neg hl]; rfl
    rw [hk, hh, hll, n_mkS0 (r' := H.length) (by simp [sig]), List.map_cons, List.map_nil, show renRow (sig [(r, 0)] H.length) (sl (ints .i64 (digs l))) = sl (ints .i64 (digs l)) from flat_row ints_flat rfl]
    refine hK [sl (ints .i64 (digs l))] _ H.length ⟨.u, ⟨true, true, ints .i64 (digs l)⟩, okS_u, rfl, by simp [Vh.rowAt, sl], ?_⟩ mkS_cell
    rw [ints_take, ← hll, htr]
end

theorem rCheck_calls (κ : SK) (n : Nat) (hk : okS κ n) (hn : n < 9223372036854775807) : ACalls Tryd.prog 115 [mkS κ 0 0 n] [ro []] (List.range 1) fun v H => v = .int .i64 (if n ≤ 64 then 0 else 4) ∧ H = [ro []] := by
  refine ACalls.body Tryd.func115 ent_rCheck ir_rCheck_ok rs_rCheck_ok Tryd.ntmps115 (by simp) rfl ?_
  unfold ir_rCheck
  have e0 : s0 [mkS κ 0 0 n] 0 = mkS κ 0 0 n := rfl
  by_cases h : n ≤ 64
  · simp (disch := omega) only [sN, ↓reduceIte, Nat.reduceEqDiff, Nat.reduceAdd, Nat.reduceMul, Nat.reduceSub, reduceCtorEq, e_none, e_some, e_bindS, e0, k_len hk]
    refine ret_keep (by simp) ⟨?_, rfl⟩
    rw [if_pos h]
    simp only [e_upd, e_putS, e_putN, e_t, e_c, Nat.reduceEqDiff, ↓reduceIte, reduceCtorEq, Nat.reduceAdd]
  · simp (disch := omega) only [sN, ↓reduceIte, Nat.reduceEqDiff, Nat.reduceAdd, Nat.reduceMul, Nat.reduceSub, reduceCtorEq, e_none, e_some, e_bindS, e0, k_len hk]
    refine ret_keep (by simp) ⟨?_, rfl⟩
    rw [if_neg h]
    simp only [e_upd, e_putS, e_putN, e_t, e_c, Nat.reduceEqDiff, ↓reduceIte, reduceCtorEq, Nat.reduceAdd]
theorem call_rCheck {x : Int} {n : Nat} {w : AV} {K : St → AHeap → Prop} {d : Option Nat} {s : St} {H : AHeap} (hu : AtX H w x n) (hn : n ≤ 100000) (hK : K (putI d s (.int .i64 (if n ≤ 64 then 0 else 4))) H) : thenC Tryd.prog K d s H [w] (.func 115 []) := by
  obtain ⟨κ, l, row, r, h1, rfl, h3, h4, h5, rfl, rfl⟩ := hu
  refine call_c1 (da := 0) (rest := []) (cs := []) (rCheck_calls κ l.length h1 (by omega)) rfl rfl h3 (by simp) (by simp) rfl ?_
  rintro v0 H0' ⟨rfl, rfl⟩
  rw [n_int, show ([ro []] : AHeap).drop 1 = [] from rfl, List.map_nil, List.append_nil]
  exact hK
theorem rboth_calls (H0 : AHeap) {x y : Int} {n m : Nat} {u v : AV} (hu : AtX H0 u x n) (hv : AtX H0 v y m) (hn : n ≤ 100000) (hm : m ≤ 100000) : ACalls Tryd.prog 78 [u, v] H0 (List.range H0.length) fun w H => w = .int .i64 (if n ≤ 64 ∧ m ≤ 64 then 0 else 4) ∧ Base H0 H := by
  refine ACalls.body Tryd.func78 ent_rboth ir_rboth_ok rs_rboth_ok Tryd.ntmps78 (by simp) rfl ?_
  unfold ir_rboth
  have e0 : s0 [u, v] 0 = u := rfl
  have e1 : s0 [u, v] 1 = v := rfl
  simp (disch := omega) only [sN, ↓reduceIte, Nat.reduceEqDiff, Nat.reduceAdd, Nat.reduceMul, Nat.reduceSub, reduceCtorEq, e_none, e_some, e_bindS, e0, e1, List.map_cons, List.map_nil]
  refine call_rCheck hu hn ?_
  by_cases h : n ≤ 64
  · rw [if_pos h]
    simp (disch := omega) only [sN, ↓reduceIte, Nat.reduceEqDiff, Nat.reduceAdd, Nat.reduceMul, Nat.reduceSub, reduceCtorEq, e_none, e_some, e_bindS, e0, e1, List.map_cons, List.map_nil]
    refine call_rCheck hv hm ?_
    by_cases h' : m ≤ 64
    · rw [if_pos h', if_pos ⟨h, h'⟩]
      simp (disch := omega) only [sN, ↓reduceIte, Nat.reduceEqDiff, Nat.reduceAdd, Nat.reduceMul, Nat.reduceSub, reduceCtorEq, e_none, e_some, e_bindS]
      refine ret_keep (Nat.le_refl _) ⟨?_, Base.refl⟩
      simp only [e_upd, e_putS, e_putN, e_t, e_c, Nat.reduceEqDiff, ↓reduceIte, reduceCtorEq, Nat.reduceAdd]
    · rw [if_neg h', if_neg fun q => h' q.2]
      simp (disch := omega) only [sN, ↓reduceIte, Nat.reduceEqDiff, Nat.reduceAdd, Nat.reduceMul, Nat.reduceSub, reduceCtorEq, e_none, e_some, e_bindS]
      refine ret_keep (Nat.le_refl _) ⟨?_, Base.refl⟩
      simp only [e_upd, e_putS, e_putN, e_t, e_c, Nat.reduceEqDiff, ↓reduceIte, reduceCtorEq, Nat.reduceAdd]
  · rw [if_neg h, if_neg fun q => h q.1]
    simp (disch := omega) only [sN, ↓reduceIte, Nat.reduceEqDiff, Nat.reduceAdd, Nat.reduceMul, Nat.reduceSub, reduceCtorEq, e_none, e_some, e_bindS]
    refine ret_keep (Nat.le_refl _) ⟨?_, Base.refl⟩
    simp only [e_upd, e_putS, e_putN, e_t, e_c, Nat.reduceEqDiff, ↓reduceIte, reduceCtorEq, Nat.reduceAdd]

set_option maxHeartbeats 1000000 in
theorem rCheckFrac_calls (H0 : AHeap) {q : Fr} (hq : q.ok H0) : ACalls Tryd.prog 27 [.agg [q.w, q.w2]] H0 (List.range H0.length) fun w H => w = .int .i64 (cfE [q]) ∧ Base H0 H := by
  refine ACalls.body Tryd.func27 ent_rCheckFrac ir_rCheckFrac_ok rs_rCheckFrac_ok Tryd.ntmps27 (by simp) rfl ?_
  unfold ir_rCheckFrac
  have e0 : s0 [.agg [q.w, q.w2]] 0 = .agg [q.w, q.w2] := rfl
  simp (disch := omega) only [sN, ↓reduceIte, Nat.reduceEqDiff, Nat.reduceAdd, Nat.reduceMul, Nat.reduceSub, reduceCtorEq, e_none, e_some, e_bindS, e0]
  rw [x_boxN (l := [q.w, q.w2]) (by simp only [e_upd, e_putS, e_putN, e_t, e_c, Nat.reduceEqDiff, ↓reduceIte, reduceCtorEq, Nat.reduceAdd, e0]) (by simp [hq.1.cell, hq.2.1.cell])]
  have hr : Vh.rowAt (H0 ++ [rw_ [q.w, q.w2]]) H0.length = some ⟨true, false, [q.w, q.w2]⟩ := by simp [Vh.rowAt, rw_]
  have hB : Base H0 (H0 ++ [rw_ [q.w, q.w2]]) := Base.one
  have hq1 := hq.base hB
  simp (disch := omega) only [sN, ↓reduceIte, Nat.reduceEqDiff, Nat.reduceAdd, Nat.reduceMul, Nat.reduceSub, reduceCtorEq, e_none, e_some, e_bindS, hr, p_fieldAddr, Nat.zero_add, Option.bind_some, Option.map_some, List.getElem?_cons_zero, List.getElem?_cons_succ, List.map_cons, List.map_nil]
  refine ⟨_, (rboth_calls _ hq1.1 hq1.2.1 hq1.2.2.1 hq1.2.2.2).g.mono ?_⟩
  rintro v H ⟨rfl, hB1⟩
  have hrH := hB1.row hr
  have hBH := hB.trans hB1
  have hq2 := hq1.base hB1
  by_cases hs : q.n ≤ 64 ∧ q.m ≤ 64
  · rw [if_pos hs]
    simp (disch := omega) only [sN, ↓reduceIte, Nat.reduceEqDiff, Nat.reduceAdd, Nat.reduceMul, Nat.reduceSub, reduceCtorEq, e_none, e_some, e_bindS, hrH, p_fieldAddr, Nat.zero_add, Option.bind_some, Option.map_some, List.getElem?_cons_zero, List.getElem?_cons_succ, List.map_cons, List.map_nil]
    refine call_digV hq2.2.1 hq2.2.2.2 ?_
    intro R w r hw hwc
    have hy0 : 0 ≤ q.y := (hq2.2.1.k (Nat.le_refl _)).choose_spec.nonneg
    obtain ⟨κ, row, k1, rfl, k3, k4⟩ := hw
    by_cases hd : q.y = 0
    · have hE : cfE [q] = 7 := by simp [cfE, Fr.short, Fr.den, hs, hd]
      rw [hE]
      have hl : (Dg.dg q.y.toNat).length = 0 := by rw [hd, Int.toNat_zero, Dg.dg_zero]; rfl
      simp (disch := omega) only [sN, ↓reduceIte, Nat.reduceEqDiff, Nat.reduceAdd, Nat.reduceMul, Nat.reduceSub, reduceCtorEq, e_none, e_some, e_bindS, k_len k1]
      refine ret_keep (by have := hBH.1; simp; omega) ⟨?_, hBH.app⟩
      simp only [e_upd, e_putS, e_putN, e_t, e_c, Nat.reduceEqDiff, ↓reduceIte, reduceCtorEq, Nat.reduceAdd]
    · have hE : cfE [q] = 0 := by simp [cfE, Fr.short, Fr.den, hs, hd]
      rw [hE]
      have hl : (Dg.dg q.y.toNat).length ≠ 0 := by
        rw [Dg.dg_pos (by omega)]; simp
      simp (disch := omega) only [sN, ↓reduceIte, Nat.reduceEqDiff, Nat.reduceAdd, Nat.reduceMul, Nat.reduceSub, reduceCtorEq, e_none, e_some, e_bindS, k_len k1]
      refine ret_keep (by have := hBH.1; simp; omega) ⟨?_, hBH.app⟩
      simp only [e_upd, e_putS, e_putN, e_t, e_c, Nat.reduceEqDiff, ↓reduceIte, reduceCtorEq, Nat.reduceAdd]
  · have hE : cfE [q] = 4 := by simp only [cfE, Fr.short, List.all_cons, List.all_nil, Bool.and_true, decide_eq_false hs]; rfl
    rw [if_neg hs, hE]
    simp (disch := omega) only [sN, ↓reduceIte, Nat.reduceEqDiff, Nat.reduceAdd, Nat.reduceMul, Nat.reduceSub, reduceCtorEq, e_none, e_some, e_bindS]
    refine ret_keep hBH.1 ⟨?_, hBH⟩
    simp only [e_upd, e_putS, e_putN, e_t, e_c, Nat.reduceEqDiff, ↓reduceIte, reduceCtorEq, Nat.reduceAdd]
end Go.Proofs.YtpkeneadkiabiaaDoor


/- Contracts: the reference's Bound. -/
-- NEWSET
namespace Go.Proofs.YtpkeneadkiabiaaDoor
open Go Go.Vh

theorem AtO.frame {H H' : AHeap} {v : AV} {n r : Nat} (h : AtO H' v n r) : AtD (H ++ H'.map (renRow (sig [] H.length))) (v.ren (sig [] H.length)) n (H.length + r) := by
  obtain ⟨⟨κ, row, h1, rfl, h3, h4⟩, row', h5, h6⟩ := h
  rw [h3] at h5; cases h5
  have hr : H'[r]? = some (some row) := by
    unfold Vh.rowAt at h3
    cases hq : H'[r]? with
    | none => rw [hq] at h3; simp at h3
    | some z => rw [hq] at h3; simp at h3; rw [h3]
  refine ⟨κ, ⟨true, row.slack, renL (sig [] H.length) row.cells⟩, h1, ?_, ?_, ?_⟩
  · rw [n_mkS0 (r' := H.length + r) (by simp [sig])]
  · unfold Vh.rowAt
    rw [List.getElem?_append_right (by omega), Nat.add_sub_cancel_left, List.getElem?_map, hr]
    simp [renRow, h6]
  · show (renL _ row.cells).take _ = _
    rw [renL_take, h4, flatL_ren ints_flat]

section
variable {K : St → AHeap → Prop} {d : Option Nat} {s : St} {H : AHeap}
theorem call_ways0 {b g k : Nat} {seen : Int} (hbg : b + g ≤ 512) (hk : k ≤ b + g) (hs0 : -9223372036854775808 ≤ seen) (hs1 : seen ≤ 9223372036854775807) (hK : ∀ R v r, AtD (H ++ R) v (wN b g k seen) r → K (putI d s v) (H ++ R)) :
    thenC0 Tryd.prog K d s H [.int .i64 ((b + g : Nat) : Int), .int .i64 (b : Int), .int .i64 (k : Int), .int .i64 seen] (.func 100 []) := by
  refine call_do0 (rwaysO_calls [] b g k seen hbg hk hs0 hs1) [] rfl rfl rfl rfl rfl trivial fun v0 H0' ⟨_, r, hq⟩ => ?_
  rw [m_merge, m_nil]
  exact hK _ _ _ hq.frame
theorem call_digV0 {x : Int} {n : Nat} {w : AV} (hu : AtX H w x n) (hn : n ≤ 100000) (hK : ∀ R v r, AtD (H ++ R) v x.toNat r → v.cell = true → K (putI d s v) (H ++ R)) : thenC0 Tryd.prog K d s H [w] (.func 64 []) := by
  obtain ⟨κ, l, row, r, h1, rfl, h3, h4, h5, rfl, rfl⟩ := hu
  have hlen := digs_length l
  have htr := Dg.trim_dg (dl_digs h5)
  rw [num_digs h5, hlen, ← tz_dg] at htr
  have hle := tz_le (digs l) (4 * l.length)
  have hll : tz (digs l) (4 * l.length) = (Dg.dg (num l).toNat).length := by
    have := congrArg List.length htr
    rw [List.length_take, hlen] at this
    omega
  refine call_do0 (rdigits_calls κ l h1 (by omega) h5) [(r, 0)] rfl ?_ rfl rfl ?_ ⟨seen_limbs h3 h4, trivial⟩ ?_
  · simp [underL, mkS_under]
  · rw [n_lcons, n_mkS0 (r' := r) rfl]; rfl
  rintro v0 H0' ⟨rfl, rfl⟩
  rw [m_merge, m_ro, m_nil]
  by_cases hl : l = []
  · subst hl
    have := hK [] .nilslice r (by rw [List.append_nil]; exact AtD.zero h3) rfl
    rw [List.append_nil] at this
    rw [show ((digH []).drop [ro (ints .u32 [])].length) = [] from rfl, List.map_nil, List.append_nil]
    exact this
  · have hk : digK l = .u := by rw [digK, if_neg hl]
    have hh : (digH l).drop [ro (ints .u32 l)].length = [sl (ints .i64 (digs l))] := by rw [digH, if_neg hl]; rfl
    rw [hk, hh, hll, n_mkS0 (r' := H.length) (by simp [sig]), List.map_cons, List.map_nil, show renRow (sig [(r, 0)] H.length) (sl (ints .i64 (digs l))) = sl (ints .i64 (digs l)) from flat_row ints_flat rfl]
    refine hK [sl (ints .i64 (digs l))] _ H.length ⟨.u, ⟨true, true, ints .i64 (digs l)⟩, okS_u, rfl, by simp [Vh.rowAt, sl], ?_⟩ mkS_cell
    rw [ints_take, ← hll, htr]
end
theorem AtX.dgl {H : AHeap} {w : AV} {x : Int} {n : Nat} (h : AtX H w x n) : 0 ≤ x ∧ (Dg.dg x.toNat).length ≤ 4 * n := by
  obtain ⟨r, hk⟩ := h.k (Nat.le_refl n)
  have h0 := hk.nonneg
  exact ⟨h0, dg_fits.2 (by rw [Int.toNat_of_nonneg h0]; exact hk.lt_pow)⟩
theorem dg_mul_len {x y a b : Nat} (hx : (Dg.dg x).length ≤ 4 * a) (hy : (Dg.dg y).length ≤ 4 * b) : (Dg.dg (x * y)).length ≤ 4 * (a + b) := by
  rw [dg_fits] at *
  rw [Int.natCast_mul]
  exact mul_pow (by omega) (by omega) hx hy

set_option maxHeartbeats 1000000 in
theorem rBound_calls (H0 : AHeap) {q : Fr} (hq : q.ok H0) (total sample seen : Int) (h0 : -9223372036854775808 ≤ total ∧ total ≤ 9223372036854775807) (h1 : -9223372036854775808 ≤ sample ∧ sample ≤ 9223372036854775807) (h2 : -9223372036854775808 ≤ seen ∧ seen ≤ 9223372036854775807) :
    ACalls Tryd.prog 46 [.int .i64 total, .int .i64 sample, .int .i64 seen, .agg [q.w, q.w2]] H0 (List.range H0.length) fun v H => v = .tuple [.int .i64 (bdV q total sample seen), .int .i64 (bdE q total sample seen)] ∧ Base H0 H := by
  refine ACalls.body Tryd.func46 ent_rBound ir_rBound_ok rs_rBound_ok Tryd.ntmps46 (by simp) rfl ?_
  unfold ir_rBound
  have e0 : s0 [.int .i64 total, .int .i64 sample, .int .i64 seen, .agg [q.w, q.w2]] 0 = .int .i64 total := rfl
  have e1 : s0 [.int .i64 total, .int .i64 sample, .int .i64 seen, .agg [q.w, q.w2]] 1 = .int .i64 sample := rfl
  have e2 : s0 [.int .i64 total, .int .i64 sample, .int .i64 seen, .agg [q.w, q.w2]] 2 = .int .i64 seen := rfl
  have e3 : s0 [.int .i64 total, .int .i64 sample, .int .i64 seen, .agg [q.w, q.w2]] 3 = .agg [q.w, q.w2] := rfl
  simp (disch := omega) only [sN, ↓reduceIte, Nat.reduceEqDiff, Nat.reduceAdd, Nat.reduceMul, Nat.reduceSub, reduceCtorEq, e_none, e_some, e_bindS, e0, e1, e2, e3]
  rw [x_boxN (l := [q.w, q.w2]) (by simp only [e_upd, e_putS, e_putN, e_t, e_c, Nat.reduceEqDiff, ↓reduceIte, reduceCtorEq, Nat.reduceAdd, e3]) (by simp [hq.1.cell, hq.2.1.cell])]
  obtain ⟨H1, hH1⟩ : ∃ h, h = H0 ++ [rw_ [q.w, q.w2]] := ⟨_, rfl⟩
  have r7 : Vh.rowAt H1 H0.length = some ⟨true, false, [q.w, q.w2]⟩ := by rw [hH1]; simp [Vh.rowAt, rw_]
  have hB1 : Base H0 H1 := by rw [hH1]; exact Base.one
  rw [← hH1]
  simp (disch := omega) only [sN, ↓reduceIte, Nat.reduceEqDiff, Nat.reduceAdd, Nat.reduceMul, Nat.reduceSub, reduceCtorEq, e_none, e_some, e_bindS]
  rw [x_loadNA (n := 2) (r := H0.length) (l := [q.w, q.w2]) (by simp only [e_upd, e_putS, e_putN, e_t, e_c, Nat.reduceEqDiff, ↓reduceIte, reduceCtorEq, Nat.reduceAdd]) r7 rfl rfl]
  simp (disch := omega) only [sN, ↓reduceIte, Nat.reduceEqDiff, Nat.reduceAdd, Nat.reduceMul, Nat.reduceSub, reduceCtorEq, e_none, e_some, e_bindS, List.map_cons, List.map_nil]
  refine ⟨_, (rCheckFrac_calls H1 (hq.base hB1)).g.mono ?_⟩
  rintro v H ⟨rfl, hB2⟩
  have hBH := hB1.trans hB2
  have q7 := hB2.row r7
  have hqH := hq.base hBH
  clear r7 hB2 hH1
  by_cases he : cfE [q] = 0
  case neg =>
    have hE : bdE q total sample seen = cfE [q] := by unfold bdE; rw [if_neg he]
    have hV : bdV q total sample seen = 0 := by unfold bdV; rw [if_neg (by rw [hE]; exact he)]
    rw [hE, hV]
    simp (disch := omega) only [sN, ↓reduceIte, Nat.reduceEqDiff, Nat.reduceAdd, Nat.reduceMul, Nat.reduceSub, reduceCtorEq, e_none, e_some, e_bindS, e0, e1, e2]
    refine ret_keep hBH.1 ?_
    rw [rs_rBound, q_tmp2, q_then]
    refine ⟨?_, hBH⟩
    simp only [e_upd, e_putS, e_putN, e_t, e_c, Nat.reduceEqDiff, ↓reduceIte, reduceCtorEq, Nat.reduceAdd]
  case pos =>
  obtain ⟨l1, l2, l3⟩ := cfE1_short he
  rw [he]
  have hbad : ¬ bdOK total sample seen → bdE q total sample seen = 3 ∧ bdV q total sample seen = 0 := fun hok => by
    have hE : bdE q total sample seen = 3 := by unfold bdE; rw [if_pos he, if_neg hok]
    exact ⟨hE, by unfold bdV; rw [if_neg (by rw [hE]; decide)]⟩
  by_cases c0 : 0 ≤ total
  case neg =>
    obtain ⟨hE, hV⟩ := hbad (fun h => by obtain ⟨g0, g1, g2, g3, g4, g5⟩ := h; omega)
    rw [hE, hV]
    simp (disch := omega) only [sN, ↓reduceIte, Nat.reduceEqDiff, Nat.reduceAdd, Nat.reduceMul, Nat.reduceSub, reduceCtorEq, e_none, e_some, e_bindS, e0, e1, e2]
    refine ret_keep hBH.1 ?_
    rw [rs_rBound, q_tmp2, q_then]
    refine ⟨?_, hBH⟩
    simp only [e_upd, e_putS, e_putN, e_t, e_c, Nat.reduceEqDiff, ↓reduceIte, reduceCtorEq, Nat.reduceAdd]
  case pos =>
  by_cases c1' : total ≤ 512
  case neg =>
    obtain ⟨hE, hV⟩ := hbad (fun h => by obtain ⟨g0, g1, g2, g3, g4, g5⟩ := h; omega)
    rw [hE, hV]
    simp (disch := omega) only [sN, ↓reduceIte, Nat.reduceEqDiff, Nat.reduceAdd, Nat.reduceMul, Nat.reduceSub, reduceCtorEq, e_none, e_some, e_bindS, e0, e1, e2]
    refine ret_keep hBH.1 ?_
    rw [rs_rBound, q_tmp2, q_then]
    refine ⟨?_, hBH⟩
    simp only [e_upd, e_putS, e_putN, e_t, e_c, Nat.reduceEqDiff, ↓reduceIte, reduceCtorEq, Nat.reduceAdd]
  case pos =>
  by_cases c2' : 0 ≤ sample
  case neg =>
    obtain ⟨hE, hV⟩ := hbad (fun h => by obtain ⟨g0, g1, g2, g3, g4, g5⟩ := h; omega)
    rw [hE, hV]
    simp (disch := omega) only [sN, ↓reduceIte, Nat.reduceEqDiff, Nat.reduceAdd, Nat.reduceMul, Nat.reduceSub, reduceCtorEq, e_none, e_some, e_bindS, e0, e1, e2]
    refine ret_keep hBH.1 ?_
    rw [rs_rBound, q_tmp2, q_then]
    refine ⟨?_, hBH⟩
    simp only [e_upd, e_putS, e_putN, e_t, e_c, Nat.reduceEqDiff, ↓reduceIte, reduceCtorEq, Nat.reduceAdd]
  case pos =>
  by_cases c3 : sample ≤ total
  case neg =>
    obtain ⟨hE, hV⟩ := hbad (fun h => by obtain ⟨g0, g1, g2, g3, g4, g5⟩ := h; omega)
    rw [hE, hV]
    simp (disch := omega) only [sN, ↓reduceIte, Nat.reduceEqDiff, Nat.reduceAdd, Nat.reduceMul, Nat.reduceSub, reduceCtorEq, e_none, e_some, e_bindS, e0, e1, e2]
    refine ret_keep hBH.1 ?_
    rw [rs_rBound, q_tmp2, q_then]
    refine ⟨?_, hBH⟩
    simp only [e_upd, e_putS, e_putN, e_t, e_c, Nat.reduceEqDiff, ↓reduceIte, reduceCtorEq, Nat.reduceAdd]
  case pos =>
  by_cases c4 : 0 ≤ seen
  case neg =>
    obtain ⟨hE, hV⟩ := hbad (fun h => by obtain ⟨g0, g1, g2, g3, g4, g5⟩ := h; omega)
    rw [hE, hV]
    simp (disch := omega) only [sN, ↓reduceIte, Nat.reduceEqDiff, Nat.reduceAdd, Nat.reduceMul, Nat.reduceSub, reduceCtorEq, e_none, e_some, e_bindS, e0, e1, e2]
    refine ret_keep hBH.1 ?_
    rw [rs_rBound, q_tmp2, q_then]
    refine ⟨?_, hBH⟩
    simp only [e_upd, e_putS, e_putN, e_t, e_c, Nat.reduceEqDiff, ↓reduceIte, reduceCtorEq, Nat.reduceAdd]
  case pos =>
  by_cases c5 : seen ≤ sample
  case neg =>
    obtain ⟨hE, hV⟩ := hbad (fun h => by obtain ⟨g0, g1, g2, g3, g4, g5⟩ := h; omega)
    rw [hE, hV]
    simp (disch := omega) only [sN, ↓reduceIte, Nat.reduceEqDiff, Nat.reduceAdd, Nat.reduceMul, Nat.reduceSub, reduceCtorEq, e_none, e_some, e_bindS, e0, e1, e2]
    refine ret_keep hBH.1 ?_
    rw [rs_rBound, q_tmp2, q_then]
    refine ⟨?_, hBH⟩
    simp only [e_upd, e_putS, e_putN, e_t, e_c, Nat.reduceEqDiff, ↓reduceIte, reduceCtorEq, Nat.reduceAdd]
  case pos =>
  clear hbad
  obtain ⟨x0, xl⟩ := hqH.1.dgl
  obtain ⟨y0, yl⟩ := hqH.2.1.dgl
  simp (disch := omega) only [sN, ↓reduceIte, Nat.reduceEqDiff, Nat.reduceAdd, Nat.reduceMul, Nat.reduceSub, reduceCtorEq, e_none, e_some, e_bindS, e0, e1, e2, q7, p_fieldAddr, Nat.zero_add, Option.bind_some, Option.map_some, List.getElem?_cons_zero, List.getElem?_cons_succ, List.map_cons, List.map_nil]
  refine call_digV0 hqH.1 hqH.2.2.1 fun R1 v1 r1 a1 c1 => ?_
  simp (disch := omega) only [sN, ↓reduceIte, Nat.reduceEqDiff, Nat.reduceAdd, Nat.reduceMul, Nat.reduceSub, reduceCtorEq, e_none, e_some, e_bindS, e0, e1, e2, List.map_cons, List.map_nil]
  refine call_digV (hqH.2.1.base Base.one) hqH.2.2.2 fun R2 v2 r2 a2 c2 => ?_
  simp (disch := omega) only [sN, ↓reduceIte, Nat.reduceEqDiff, Nat.reduceAdd, Nat.reduceMul, Nat.reduceSub, reduceCtorEq, e_none, e_some, e_bindS, e0, e1, e2, List.map_cons, List.map_nil]
  refine call_cmp (Nat.le_trans xl (by omega)) (Nat.le_trans yl (by omega)) (a1.base Base.one) a2 ?_
  obtain ⟨H2, hH2⟩ : ∃ h, h = H ++ R1 ++ R2 := ⟨_, rfl⟩
  have hB2 : Base H H2 := by rw [hH2]; exact Base.one.app
  rw [← hH2]
  clear a1 a2 hH2
  have hBH2 := hBH.trans hB2
  have q7' := hB2.row q7
  have hqH2 := hqH.base hB2
  have hqq : bdOK total sample seen := ⟨c0, c1', c2', c3, c4, c5⟩
  rw [Int.toNat_of_nonneg x0, Int.toNat_of_nonneg y0]
  by_cases hxy : q.x < q.y
  case neg =>
    have hc : 0 ≤ Dg.cmpI q.x q.y := by unfold Dg.cmpI; rw [if_neg hxy]; split <;> omega
    have hE : bdE q total sample seen = 2 := by unfold bdE; rw [if_pos he, if_pos hqq, if_neg hxy]
    have hV : bdV q total sample seen = 0 := by unfold bdV; rw [if_neg (by rw [hE]; decide)]
    rw [hE, hV]
    simp (disch := omega) only [sN, ↓reduceIte, Nat.reduceEqDiff, Nat.reduceAdd, Nat.reduceMul, Nat.reduceSub, reduceCtorEq, e_none, e_some, e_bindS, e0, e1, e2]
    refine ret_keep hBH2.1 ?_
    rw [rs_rBound, q_tmp2, q_then]
    refine ⟨?_, hBH2⟩
    simp only [e_upd, e_putS, e_putN, e_t, e_c, Nat.reduceEqDiff, ↓reduceIte, reduceCtorEq, Nat.reduceAdd]
  case pos =>
  have hc : Dg.cmpI q.x q.y = -1 := by unfold Dg.cmpI; rw [if_pos hxy]
  have hE : bdE q total sample seen = 0 := by unfold bdE; rw [if_pos he, if_pos hqq, if_pos hxy]
  have hV : bdV q total sample seen = ((lastF (exclP total.toNat sample.toNat seen q.x q.y) total.toNat : Nat) : Int) := by unfold bdV; rw [if_pos hE]
  rw [hE, hV, hc]
  obtain ⟨n, rfl⟩ := Int.eq_ofNat_of_zero_le c0
  obtain ⟨k, rfl⟩ := Int.eq_ofNat_of_zero_le c2'
  rw [Int.toNat_natCast, Int.toNat_natCast]
  have hn : n ≤ 512 := by omega
  have hk : k ≤ n := by omega
  obtain ⟨sn, rfl⟩ := Int.eq_ofNat_of_zero_le c4
  have hcl := cnk_dg (k := k) hn
  simp (disch := omega) only [sN, ↓reduceIte, Nat.reduceEqDiff, Nat.reduceAdd, Nat.reduceMul, Nat.reduceSub, reduceCtorEq, e_none, e_some, e_bindS, e0, e1, e2, q7', p_fieldAddr, Nat.zero_add, Option.bind_some, Option.map_some, List.getElem?_cons_zero, List.getElem?_cons_succ, List.map_cons, List.map_nil]
  refine call_digV hqH2.1 hqH2.2.2.1 fun R3 v3 r3 a3 c3' => ?_
  simp (disch := omega) only [sN, ↓reduceIte, Nat.reduceEqDiff, Nat.reduceAdd, Nat.reduceMul, Nat.reduceSub, reduceCtorEq, e_none, e_some, e_bindS, e0, e1, e2, List.map_cons, List.map_nil]
  refine ⟨_, (rrowB_calls (H2 ++ R3) n hn).g.mono ?_⟩
  rintro v4 H4 ⟨D, cells, rfl, rD, hR, hB4, hD⟩
  obtain ⟨x1, rx, b1, b2, b3, b4⟩ := hR.2 k (by omega)
  have hi := dblS_idx (D := D) (k := n + 1) (j := k) (by omega)
  simp (disch := omega) only [sN, ↓reduceIte, Nat.reduceEqDiff, Nat.reduceAdd, Nat.reduceMul, Nat.reduceSub, reduceCtorEq, e_none, e_some, e_bindS, e0, e1, e2, hi, rD, b1, Option.bind_some, Option.map_some, List.map_cons, List.map_nil]
  refine call_mul (Nat.le_trans xl (by omega)) (Nat.le_trans hcl (by omega)) (a3.base hB4) b3 ?_
  intro w5 row5 o5 f5 a5 c5'
  obtain ⟨H5, hH5⟩ : ∃ h, h = H4 ++ [some row5] := ⟨_, rfl⟩
  have hB5 : Base H2 H5 := by rw [hH5]; exact (Base.one.trans hB4).app
  rw [← hH5] at a5 ⊢
  have hBH5 := hBH2.trans hB5
  have p7 := hB5.row q7'
  have hqH5 := hqH2.base hB5
  obtain ⟨rl, hrl⟩ : ∃ r, r = H4.length := ⟨_, rfl⟩
  rw [← hrl] at a5
  clear a3 hB4 rD hR b1 b2 b3 b4 hi hH5 hrl q7' hqH2 hB5
  have hpl := dg_mul_len (a := 64) (b := 25) (Nat.le_trans xl (by omega)) (Nat.le_trans hcl (by omega))
  simp (disch := omega) only [sN, ↓reduceIte, Nat.reduceEqDiff, Nat.reduceAdd, Nat.reduceMul, Nat.reduceSub, reduceCtorEq, e_none, e_some, e_bindS, e0, e1, e2]
  refine ⟨fun t s H => ∃ lo hi : Nat, t = hi - lo ∧ lo ≤ hi ∧ hi ≤ n ∧ exclP n k sn q.x q.y lo = false ∧ (∀ i, hi < i → i ≤ n → exclP n k sn q.x q.y i = true) ∧ Base H5 H ∧ s 0 = .int .i64 (n : Int) ∧ s 1 = .int .i64 (k : Int) ∧ s 2 = .int .i64 (sn : Int) ∧ s 7 = .ptr H0.length 0 ∧ s 11 = w5 ∧ s 12 = .int .i64 (lo : Int) ∧ s 13 = .int .i64 (hi : Int), n - sn, ⟨sn, n, rfl, by omega, by omega, excl_zero hk (by omega) hxy (by omega) (by omega), fun i h1 h2 => by omega, Base.refl, ?_, ?_, ?_, ?_, ?_, ?_, ?_⟩, ?_⟩
  · simp only [e_upd, e_putS, e_putN, e_t, e_c, Nat.reduceEqDiff, ↓reduceIte, reduceCtorEq, Nat.reduceAdd, e0]
  · simp only [e_upd, e_putS, e_putN, e_t, e_c, Nat.reduceEqDiff, ↓reduceIte, reduceCtorEq, Nat.reduceAdd, e1]
  · simp only [e_upd, e_putS, e_putN, e_t, e_c, Nat.reduceEqDiff, ↓reduceIte, reduceCtorEq, Nat.reduceAdd, e2]
  · simp only [e_upd, e_putS, e_putN, e_t, e_c, Nat.reduceEqDiff, ↓reduceIte, reduceCtorEq, Nat.reduceAdd]
  · simp only [e_upd, e_putS, e_putN, e_t, e_c, Nat.reduceEqDiff, ↓reduceIte, reduceCtorEq, Nat.reduceAdd]
  · simp only [e_upd, e_putS, e_putN, e_t, e_c, Nat.reduceEqDiff, ↓reduceIte, reduceCtorEq, Nat.reduceAdd, e2]
  · simp only [e_upd, e_putS, e_putN, e_t, e_c, Nat.reduceEqDiff, ↓reduceIte, reduceCtorEq, Nat.reduceAdd, e0]
  rintro t s H6 ⟨lo, hi, rfl, d1, d2, d3, d4, hB6, t0, t1, t2, t7, t11, t12, t13⟩
  have hBH6 := hBH5.trans hB6
  by_cases hlt : lo < hi
  case neg =>
    obtain rfl : lo = hi := by omega
    simp (disch := omega) only [sN, ↓reduceIte, Nat.reduceEqDiff, Nat.reduceAdd, Nat.reduceMul, Nat.reduceSub, reduceCtorEq, e_none, e_some, e_bindS, e0, e1, e2, t0, t1, t2, t7, t11, t12, t13]
    refine ret_keep hBH6.1 ?_
    rw [rs_rBound, q_tmp2, q_then]
    refine ⟨?_, hBH6⟩
    rw [lastF_eq (r := lo) (by omega) (fun _ => d3) fun i h3 h4 => d4 i h3 h4]
    simp only [e_upd, e_putS, e_putN, e_t, e_c, Nat.reduceEqDiff, ↓reduceIte, reduceCtorEq, Nat.reduceAdd]
  case pos =>
    obtain ⟨mid, hmid⟩ : ∃ mid, mid = (lo + hi + 1) / 2 := ⟨_, rfl⟩
    have hm1 : ((lo : Int) + (hi : Int) + 1) / 2 = (mid : Int) := by omega
    have hm2 : lo < mid ∧ mid ≤ hi := by omega
    obtain ⟨g, hg⟩ : ∃ g, n = mid + g := ⟨n - mid, by omega⟩
    have hwT : wT n mid k sn = wN mid g k sn := by unfold wT; rw [show n - mid = g by omega]
    have hm3 : ((mid : Nat) : Int) - 1 = ((mid - 1 : Nat) : Int) := by omega
    have t0' : s 0 = .int .i64 ((mid + g : Nat) : Int) := by rw [t0, hg]
    simp (disch := omega) only [sN, ↓reduceIte, Nat.reduceEqDiff, Nat.reduceAdd, Nat.reduceMul, Nat.reduceSub, reduceCtorEq, e_none, e_some, e_bindS, e0, e1, e2, t0', t1, t2, t7, t11, t12, t13, hm1, hB6.row p7, p_fieldAddr, Nat.zero_add, Option.bind_some, Option.map_some, List.getElem?_cons_zero, List.getElem?_cons_succ, List.map_cons, List.map_nil, b_quo]
    refine call_ways0 (b := mid) (g := g) (k := k) (by omega) (by omega) h2.1 h2.2 fun R7 v7 r7 a7 => ?_
    simp (disch := omega) only [sN, ↓reduceIte, Nat.reduceEqDiff, Nat.reduceAdd, Nat.reduceMul, Nat.reduceSub, reduceCtorEq, e_none, e_some, e_bindS, e0, e1, e2, List.map_cons, List.map_nil]
    refine call_digV ((hqH5.2.1.base hB6).base Base.one) hqH.2.2.2 fun R8 v8 r8 a8 c8 => ?_
    simp (disch := omega) only [sN, ↓reduceIte, Nat.reduceEqDiff, Nat.reduceAdd, Nat.reduceMul, Nat.reduceSub, reduceCtorEq, e_none, e_some, e_bindS, e0, e1, e2, List.map_cons, List.map_nil]
    have hwl : (Dg.dg (wN mid g k sn)).length ≤ 4 * 25 := dg_fits.2 (Int.lt_of_lt_of_le (wN_bb (b := mid) (g := g) (k := k) (by omega) (by omega)) (BB_mono (by omega)))
    refine call_mul (Nat.le_trans hwl (by omega)) (Nat.le_trans yl (by omega)) (a7.base Base.one) a8 ?_
    intro w9 row9 o9 f9 a9 c9
    have hwl2 := dg_mul_len hwl yl
    simp (disch := omega) only [sN, ↓reduceIte, Nat.reduceEqDiff, Nat.reduceAdd, Nat.reduceMul, Nat.reduceSub, reduceCtorEq, e_none, e_some, e_bindS, e0, e1, e2, List.map_cons, List.map_nil]
    refine call_cmp (Nat.le_trans hwl2 (by omega)) (Nat.le_trans hpl (by omega)) a9 (((a5.base hB6).base Base.one.app).base Base.one) ?_
    have hcx : exclP n k sn q.x q.y mid = decide (Dg.cmpI (((wN mid g k sn * q.y.toNat : Nat)) : Int) ((q.x.toNat * cnk n k : Nat) : Int) ≤ 0) := by
      unfold exclP
      rw [hwT, Int.natCast_mul, Int.natCast_mul, Int.toNat_of_nonneg x0, Int.toNat_of_nonneg y0]
      refine decide_eq_decide.2 ?_
      unfold Dg.cmpI
      constructor
      · intro h; split
        · omega
        · split <;> omega
      · intro h; split at h
        · omega
        · split at h <;> omega
    by_cases hx : Dg.cmpI (((wN mid g k sn * q.y.toNat : Nat)) : Int) ((q.x.toNat * cnk n k : Nat) : Int) ≤ 0
    · rw [decide_eq_true hx] at hcx
      simp (disch := omega) only [sN, ↓reduceIte, Nat.reduceEqDiff, Nat.reduceAdd, Nat.reduceMul, Nat.reduceSub, reduceCtorEq, e_none, e_some, e_bindS, e0, e1, e2, hm3]
      refine loop_keep (m := mid - 1 - lo) (by omega) ⟨lo, mid - 1, rfl, by omega, by omega, d3, fun i h3 h4 => ?_, (hB6.app.app).app, ?_, ?_, ?_, ?_, ?_, ?_, ?_⟩
      · have hm := exclP_mono (n := n) (k := k) (seen := sn) (x := q.x) (y := q.y) (by omega)
        exact hm mid i (by omega) (by omega) hcx
      · simp only [e_upd, e_putS, e_putN, e_t, e_c, Nat.reduceEqDiff, ↓reduceIte, reduceCtorEq, Nat.reduceAdd, t0]
      · simp only [e_upd, e_putS, e_putN, e_t, e_c, Nat.reduceEqDiff, ↓reduceIte, reduceCtorEq, Nat.reduceAdd, t1]
      · simp only [e_upd, e_putS, e_putN, e_t, e_c, Nat.reduceEqDiff, ↓reduceIte, reduceCtorEq, Nat.reduceAdd, t2]
      · simp only [e_upd, e_putS, e_putN, e_t, e_c, Nat.reduceEqDiff, ↓reduceIte, reduceCtorEq, Nat.reduceAdd, t7]
      · simp only [e_upd, e_putS, e_putN, e_t, e_c, Nat.reduceEqDiff, ↓reduceIte, reduceCtorEq, Nat.reduceAdd, t11]
      · simp only [e_upd, e_putS, e_putN, e_t, e_c, Nat.reduceEqDiff, ↓reduceIte, reduceCtorEq, Nat.reduceAdd, t12]
      · simp only [e_upd, e_putS, e_putN, e_t, e_c, Nat.reduceEqDiff, ↓reduceIte, reduceCtorEq, Nat.reduceAdd, hm3]
    · rw [decide_eq_false hx] at hcx
      simp (disch := omega) only [sN, ↓reduceIte, Nat.reduceEqDiff, Nat.reduceAdd, Nat.reduceMul, Nat.reduceSub, reduceCtorEq, e_none, e_some, e_bindS, e0, e1, e2]
      refine loop_keep (m := hi - mid) (by omega) ⟨mid, hi, rfl, by omega, by omega, hcx, d4, (hB6.app.app).app, ?_, ?_, ?_, ?_, ?_, ?_, ?_⟩
      · simp only [e_upd, e_putS, e_putN, e_t, e_c, Nat.reduceEqDiff, ↓reduceIte, reduceCtorEq, Nat.reduceAdd, t0]
      · simp only [e_upd, e_putS, e_putN, e_t, e_c, Nat.reduceEqDiff, ↓reduceIte, reduceCtorEq, Nat.reduceAdd, t1]
      · simp only [e_upd, e_putS, e_putN, e_t, e_c, Nat.reduceEqDiff, ↓reduceIte, reduceCtorEq, Nat.reduceAdd, t2]
      · simp only [e_upd, e_putS, e_putN, e_t, e_c, Nat.reduceEqDiff, ↓reduceIte, reduceCtorEq, Nat.reduceAdd, t7]
      · simp only [e_upd, e_putS, e_putN, e_t, e_c, Nat.reduceEqDiff, ↓reduceIte, reduceCtorEq, Nat.reduceAdd, t11]
      · simp only [e_upd, e_putS, e_putN, e_t, e_c, Nat.reduceEqDiff, ↓reduceIte, reduceCtorEq, Nat.reduceAdd]
      · simp only [e_upd, e_putS, e_putN, e_t, e_c, Nat.reduceEqDiff, ↓reduceIte, reduceCtorEq, Nat.reduceAdd, t13]
end Go.Proofs.YtpkeneadkiabiaaDoor


/- ExactBounds' walk. -/
-- NEWSET
namespace Go.Proofs.YtpkeneadkiabiaaDoor
open Go Go.Vh

set_option maxHeartbeats 1000000 in
theorem bounds_calls {Ww : List Nat} (hw : ACalls Tryd.prog 18 [] [] Ww fun v _ => v = .bool true) (total sample seen : Int) (κ κ' : SK) (a b : List Int) (hk : okS κ a.length) (hk' : okS κ' b.length) (hm : a.length ≤ maxLen) (hm' : b.length ≤ maxLen) (la : Limbs a) (lb : Limbs b)
    (h0 : -9223372036854775808 ≤ total ∧ total ≤ 9223372036854775807) (h1 : -9223372036854775808 ≤ sample ∧ sample ≤ 9223372036854775807) (h2 : -9223372036854775808 ≤ seen ∧ seen ≤ 9223372036854775807) :
    ACalls Tryd.prog 8 [.int .i64 total, .int .i64 sample, .int .i64 seen, .agg [mkS κ 0 0 a.length, mkS κ' 1 0 b.length]] [ro (ints .u32 a), ro (ints .u32 b)] (List.range 2) fun v _ => v = .bool true := by
  have hfr : ∃ q : Fr, q = ⟨mkS κ 0 0 a.length, mkS κ' 1 0 b.length, num a, num b, a.length, b.length⟩ := ⟨_, rfl⟩
  obtain ⟨q, hqd⟩ := hfr
  have ax : AtX [ro (ints .u32 a), ro (ints .u32 b)] q.w q.x q.n := by rw [hqd]; exact ⟨κ, a, _, 0, hk, rfl, rfl, take_all, la, rfl, rfl⟩
  have bx : AtX [ro (ints .u32 a), ro (ints .u32 b)] q.w2 q.y q.m := by rw [hqd]; exact ⟨κ', b, _, 1, hk', rfl, rfl, take_all, lb, rfl, rfl⟩
  have hqn : q.n = a.length := by rw [hqd]
  have hqm : q.m = b.length := by rw [hqd]
  have hwa : mkS κ 0 0 a.length = q.w := by rw [hqd]
  have hwb : mkS κ' 1 0 b.length = q.w2 := by rw [hqd]
  have lw : alen q.w = some a.length := by rw [hqd]; exact k_len hk (Nat.le_refl _)
  have lw2 : alen q.w2 = some b.length := by rw [hqd]; exact k_len hk' (Nat.le_refl _)
  rw [hwa, hwb]
  clear hqd hwa hwb
  refine ACalls.body Tryd.func8 ent_bounds ir_bounds_ok rs_bounds_ok Tryd.ntmps8 (by simp) rfl ?_
  unfold ir_bounds
  have e0 : s0 [.int .i64 total, .int .i64 sample, .int .i64 seen, .agg [q.w, q.w2]] 0 = .int .i64 total := rfl
  have e1 : s0 [.int .i64 total, .int .i64 sample, .int .i64 seen, .agg [q.w, q.w2]] 1 = .int .i64 sample := rfl
  have e2 : s0 [.int .i64 total, .int .i64 sample, .int .i64 seen, .agg [q.w, q.w2]] 2 = .int .i64 seen := rfl
  have e3 : s0 [.int .i64 total, .int .i64 sample, .int .i64 seen, .agg [q.w, q.w2]] 3 = .agg [q.w, q.w2] := rfl
  obtain ⟨H0, hH0⟩ : ∃ h, h = [ro (ints .u32 a), ro (ints .u32 b)] := ⟨_, rfl⟩
  have hl0 : H0.length = 2 := by rw [hH0]; rfl
  rw [← hH0] at ax bx ⊢
  simp (disch := omega) only [sN, ↓reduceIte, Nat.reduceEqDiff, Nat.reduceAdd, Nat.reduceMul, Nat.reduceSub, reduceCtorEq, e_none, e_some, e_bindS, e0, e1, e2, e3]
  rw [x_boxN (l := [q.w, q.w2]) (by simp only [e_upd, e_putS, e_putN, e_t, e_c, Nat.reduceEqDiff, ↓reduceIte, reduceCtorEq, Nat.reduceAdd, e3]) (by simp [ax.cell, bx.cell])]
  obtain ⟨H1, hH1⟩ : ∃ h, h = H0 ++ [rw_ [q.w, q.w2]] := ⟨_, rfl⟩
  have r7 : Vh.rowAt H1 H0.length = some ⟨true, false, [q.w, q.w2]⟩ := by rw [hH1]; simp [Vh.rowAt, rw_]
  have hB1 : Base H0 H1 := by rw [hH1]; exact Base.one
  rw [← hH1]
  have hworks : ∀ {s : St} {H : AHeap} {K : St → AHeap → Prop} {d : Option Nat}, (∀ H', H.length ≤ H'.length → K (putI d s (.bool true)) H') → thenC Tryd.prog K d s H [] (.func 18 []) := fun hK => call_true hw fun H' => hK _ (by simp)
  by_cases c1 : a.length ≤ 100
  · by_cases c2 : b.length ≤ 100
    · simp (disch := omega) only [sN, ↓reduceIte, Nat.reduceEqDiff, Nat.reduceAdd, Nat.reduceMul, Nat.reduceSub, reduceCtorEq, e_none, e_some, e_bindS, e0, e1, e2, r7, p_fieldAddr, Nat.zero_add, Option.bind_some, Option.map_some, List.getElem?_cons_zero, List.getElem?_cons_succ, lw, lw2]
      rw [x_loadNA (n := 2) (r := H0.length) (l := [q.w, q.w2]) (by simp only [e_upd, e_putS, e_putN, e_t, e_c, Nat.reduceEqDiff, ↓reduceIte, reduceCtorEq, Nat.reduceAdd]) r7 rfl rfl]
      have hq1 : q.ok H1 := ⟨ax.base hB1, bx.base hB1, by omega, by omega⟩
      simp (disch := omega) only [sN, ↓reduceIte, Nat.reduceEqDiff, Nat.reduceAdd, Nat.reduceMul, Nat.reduceSub, reduceCtorEq, e_none, e_some, e_bindS, e0, e1, e2, List.map_cons, List.map_nil]
      refine ⟨_, (xBound_calls H1 hq1 total sample seen h0 h1 h2).g.mono ?_⟩
      rintro v H2 ⟨rfl, hB2⟩
      have r72 := hB2.row r7
      simp (disch := omega) only [sN, ↓reduceIte, Nat.reduceEqDiff, Nat.reduceAdd, Nat.reduceMul, Nat.reduceSub, reduceCtorEq, e_none, e_some, e_bindS, e0, e1, e2, List.map_cons, List.map_nil, List.getElem?_cons_zero, List.getElem?_cons_succ]
      rw [x_loadNA (n := 2) (r := H0.length) (l := [q.w, q.w2]) (by simp only [e_upd, e_putS, e_putN, e_t, e_c, Nat.reduceEqDiff, ↓reduceIte, reduceCtorEq, Nat.reduceAdd]) r72 rfl rfl]
      simp (disch := omega) only [sN, ↓reduceIte, Nat.reduceEqDiff, Nat.reduceAdd, Nat.reduceMul, Nat.reduceSub, reduceCtorEq, e_none, e_some, e_bindS, e0, e1, e2, List.map_cons, List.map_nil, List.getElem?_cons_zero, List.getElem?_cons_succ]
      refine ⟨_, (rBound_calls H2 (hq1.base hB2) total sample seen h0 h1 h2).g.mono ?_⟩
      rintro v H3 ⟨rfl, hB3⟩
      have hBH := (hB1.trans hB2).trans hB3
      simp (disch := omega) only [sN, ↓reduceIte, Nat.reduceEqDiff, Nat.reduceAdd, Nat.reduceMul, Nat.reduceSub, reduceCtorEq, e_none, e_some, e_bindS, List.map_cons, List.map_nil, List.getElem?_cons_zero, List.getElem?_cons_succ, beq_self_eq_true]
      refine hworks fun H' hl => ?_
      simp (disch := omega) only [sN, ↓reduceIte, Nat.reduceEqDiff, Nat.reduceAdd, Nat.reduceMul, Nat.reduceSub, reduceCtorEq, e_none, e_some, e_bindS]
      refine ret_keep (by have := hBH.1; omega) ?_
      simp only [q_tmp, q_then, rs_bounds, e_upd, e_putS, e_putN, e_t, e_c, Nat.reduceEqDiff, ↓reduceIte, reduceCtorEq, Nat.reduceAdd]
    · simp (disch := omega) only [sN, ↓reduceIte, Nat.reduceEqDiff, Nat.reduceAdd, Nat.reduceMul, Nat.reduceSub, reduceCtorEq, e_none, e_some, e_bindS, e0, e1, e2, r7, p_fieldAddr, Nat.zero_add, Option.bind_some, Option.map_some, List.getElem?_cons_zero, List.getElem?_cons_succ, lw, lw2, List.map_nil]
      refine hworks fun H' hl => ?_
      simp (disch := omega) only [sN, ↓reduceIte, Nat.reduceEqDiff, Nat.reduceAdd, Nat.reduceMul, Nat.reduceSub, reduceCtorEq, e_none, e_some, e_bindS]
      refine ret_keep (by have := hB1.1; omega) ?_
      simp only [q_tmp, q_then, rs_bounds, e_upd, e_putS, e_putN, e_t, e_c, Nat.reduceEqDiff, ↓reduceIte, reduceCtorEq, Nat.reduceAdd]
  · simp (disch := omega) only [sN, ↓reduceIte, Nat.reduceEqDiff, Nat.reduceAdd, Nat.reduceMul, Nat.reduceSub, reduceCtorEq, e_none, e_some, e_bindS, e0, e1, e2, r7, p_fieldAddr, Nat.zero_add, Option.bind_some, Option.map_some, List.getElem?_cons_zero, List.getElem?_cons_succ, lw, lw2, List.map_nil]
    refine hworks fun H' hl => ?_
    simp (disch := omega) only [sN, ↓reduceIte, Nat.reduceEqDiff, Nat.reduceAdd, Nat.reduceMul, Nat.reduceSub, reduceCtorEq, e_none, e_some, e_bindS]
    refine ret_keep (by have := hB1.1; omega) ?_
    simp only [q_tmp, q_then, rs_bounds, e_upd, e_putS, e_putN, e_t, e_c, Nat.reduceEqDiff, ↓reduceIte, reduceCtorEq, Nat.reduceAdd]
end Go.Proofs.YtpkeneadkiabiaaDoor

