/- Contracts: the reference's result and Parse; num; the text of a number is that of no other one. -/
import Derived.Test.YtjmceapnhmeflaaDoorVX
import Derived.Test.YtjmceapnhmeflaaDoorKA
import Derived.Test.YtjmceapnhmeflaaDoorF18
import Derived.Test.YtjmceapnhmeflaaDoorEC
set_option linter.unusedSimpArgs false
set_option linter.unusedVariables false
-- NEWSET
namespace Go.Proofs.YtjmceapnhmeflaaDoor
open Go Go.Vh

/-- num, of two numbers that are the same -/
theorem call_numN {x e : Int} {u v : AV} {K : St → AHeap → Prop} {d : Option Nat} {s : St} {H : AHeap} (hu : AtN H u x) (hv : AtN H v x) (hb : x < BB ^ 100000) (hK : K (putI d s (.bool true)) H) : thenC Tryd.prog K d s H [u, .int .i64 e, v, .int .i64 e] (.func 21 []) := by
  obtain ⟨κ, l, row, a, h1, rfl, h3, h4, h5, h6, h7⟩ := hu
  obtain ⟨κ', l', row', b, k1, rfl, k3, k4, k5, k6, k7⟩ := hv
  have hl : l = l' := by
    have := num_inj h5 k5 (h6.trans k6.symm)
    rwa [h7, k7, List.take_length, List.take_length] at this
  have hlen : l.length ≤ 100000 := norm_len h5 h7 (by rw [h6]; exact hb)
  subst hl
  refine call_do (lnum_calls κ κ' l e h1 k1 (by omega)) [(a, 0), (b, 0)] rfl (by simp [underL, mkS_under, AV.under]) (allRo_once rfl _) ?_ ⟨seen_limbs h3 h4, seen_limbs k3 k4, trivial⟩ ?_
  · rw [n_lcons, n_mkS0 (r' := a) rfl, n_lcons, n_lcons, n_mkS0 (r' := b) rfl, n_lcons, n_lnil]; rfl
  rintro v0 H0' ⟨rfl, rfl⟩
  rw [m_merge, n_bool]
  simpa [m_ro, m_nil] using hK

theorem kresult_calls (H0 : AHeap) {x a : Nat} {u : AV} (hx : (Dg.dg x).length ≤ 100000) (hu : AtD H0 u x a) : ACalls Tryd.prog 69 [u] H0 (List.range H0.length) fun v H => Base H0 H ∧ ∃ w, v = .tuple [w, .int .i64 (if (x : Int) < BB ^ 64 then 0 else 8)] ∧ NumV H w (if (x : Int) < BB ^ 64 then x else 0) H0.length := by
  refine ACalls.body Tryd.func69 ent_kresult ir_kresult_ok rs_kresult_ok Tryd.ntmps69 (by simp) rfl ?_
  unfold ir_kresult
  have e0 : s0 [u] 0 = u := rfl
  simp (disch := omega) only [sN, ↓reduceIte, Nat.reduceEqDiff, Nat.reduceAdd, Nat.reduceMul, Nat.reduceSub, reduceCtorEq, e_none, e_some, e_bindS, e0, List.map_cons, List.map_nil]
  by_cases h : (x : Int) < BB ^ 64
  · refine call_fits (by omega) hu (decide_eq_true h) ?_
    simp (disch := omega) only [sN, ↓reduceIte, Nat.reduceEqDiff, Nat.reduceAdd, Nat.reduceMul, Nat.reduceSub, reduceCtorEq, e_none, e_some, e_bindS, e0, List.map_cons, List.map_nil]
    refine call_natV (by omega) hu fun R w hw => ?_
    simp (disch := omega) only [sN, ↓reduceIte, Nat.reduceEqDiff, Nat.reduceAdd, Nat.reduceMul, Nat.reduceSub, reduceCtorEq, e_none, e_some, e_bindS]
    refine ret_keep (by simp) ?_
    rw [rs_kresult, q_tmp2, q_then, if_pos h, if_pos h]
    refine ⟨Base.one, w, ?_, hw⟩
    simp only [e_upd, e_putS, e_putN, e_t, e_c, Nat.reduceEqDiff, ↓reduceIte, reduceCtorEq, Nat.reduceAdd]
  · refine call_fits (by omega) hu (decide_eq_false h) ?_
    simp (disch := omega) only [sN, ↓reduceIte, Nat.reduceEqDiff, Nat.reduceAdd, Nat.reduceMul, Nat.reduceSub, reduceCtorEq, e_none, e_some, e_bindS, e0]
    refine ret_keep (Nat.le_refl _) ?_
    rw [rs_kresult, q_tmp2, q_then, if_neg h, if_neg h]
    refine ⟨Base.refl, .nilslice, ?_, .nil⟩
    simp only [e_upd, e_putS, e_putN, e_t, e_c, Nat.reduceEqDiff, ↓reduceIte, reduceCtorEq, Nat.reduceAdd]

theorem kParse_calls (H0 : AHeap) {row0 : ARow} (hr0 : Vh.rowAt H0 0 = some row0) (l : List Int) (hb : Bytes l) (hm : l.length ≤ 9223372036854775800) : ACalls Tryd.prog 20 [.str (strOfNums l)] H0 (List.range H0.length) fun v H => Base H0 H ∧ ∃ w, v = .tuple [w, .int .i64 (psE l)] ∧ NumV H w (psN l) H0.length := by
  refine ACalls.body Tryd.func20 ent_kParse ir_kParse_ok rs_kParse_ok Tryd.ntmps20 (by simp) rfl ?_
  unfold ir_kParse
  have e0 : s0 [.str (strOfNums l)] 0 = .str (strOfNums l) := rfl
  simp (disch := omega) only [sN, ↓reduceIte, Nat.reduceEqDiff, Nat.reduceAdd, Nat.reduceMul, Nat.reduceSub, reduceCtorEq, e_none, e_some, e_bindS, e0, List.map_cons, List.map_nil]
  refine ⟨_, (kread_calls H0 hr0 l hb hm).g.mono ?_⟩
  rintro v H ⟨hB, ⟨hN, w, r, rfl, hA, hc⟩ | ⟨hN, rfl⟩⟩
  · obtain ⟨⟨h1, h2, _⟩, hd⟩ := isN_of hN
    have hv := vd_lt hd l.length (Nat.le_refl _)
    have hE : psE l = if vd l l.length < BB ^ 64 then 0 else 8 := by unfold psE; rw [if_pos hN]
    have hV : psN l = if vd l l.length < BB ^ 64 then vd l l.length else 0 := by
      unfold psN; rw [hE]; split <;> simp_all
    have hX : (((vd l l.length).toNat : Nat) : Int) = vd l l.length := Int.toNat_of_nonneg hv.1
    simp (disch := omega) only [sN, ↓reduceIte, Nat.reduceEqDiff, Nat.reduceAdd, Nat.reduceMul, Nat.reduceSub, reduceCtorEq, e_none, e_some, e_bindS, List.getElem?_cons_zero, List.getElem?_cons_succ, List.map_cons, List.map_nil]
    refine ⟨_, (kresult_calls H (Nat.le_trans (dg_pow (i := l.length) (by rw [hX]; exact hv.2)) (by omega)) hA).g.mono ?_⟩
    rintro v2 H2 ⟨hB2, w2, rfl, n2⟩
    rw [hX] at n2
    rw [hX, hE, hV]
    simp (disch := omega) only [sN, ↓reduceIte, Nat.reduceEqDiff, Nat.reduceAdd, Nat.reduceMul, Nat.reduceSub, reduceCtorEq, e_none, e_some, e_bindS, List.getElem?_cons_zero, List.getElem?_cons_succ]
    refine ret_keep (hB.trans hB2).1 ?_
    rw [rs_kParse, q_tmp2, q_then]
    refine ⟨hB.trans hB2, w2, ?_, n2.le hB.1⟩
    simp only [e_upd, e_putS, e_putN, e_t, e_c, Nat.reduceEqDiff, ↓reduceIte, reduceCtorEq, Nat.reduceAdd]
  · have hE : psE l = 6 := by unfold psE; rw [hN]; rfl
    have hV : psN l = 0 := by unfold psN; rw [hE]; rfl
    rw [hE, hV]
    simp (disch := omega) only [sN, ↓reduceIte, Nat.reduceEqDiff, Nat.reduceAdd, Nat.reduceMul, Nat.reduceSub, reduceCtorEq, e_none, e_some, e_bindS, List.getElem?_cons_zero, List.getElem?_cons_succ]
    refine ret_keep hB.1 ?_
    rw [rs_kParse, q_tmp2, q_then]
    refine ⟨hB, .nilslice, ?_, .nil⟩
    simp only [e_upd, e_putS, e_putN, e_t, e_c, Nat.reduceEqDiff, ↓reduceIte, reduceCtorEq, Nat.reduceAdd]

theorem str_inj {l l' : List Int} (hb : Bytes l) (hb' : Bytes l') (h : strOfNums l = strOfNums l') : l = l' := by
  have hl : l.length = l'.length := by rw [← str_size l, ← str_size l', h]
  refine List.ext_getElem hl fun i h1 h2 => ?_
  have q1 := str_at! h1
  have q2 := str_at! h2
  rw [h, q2] at q1
  have e1 : l.getD i 0 = l[i] := by simp [List.getD_eq_getElem?_getD, h1]
  have e2 : l'.getD i 0 = l'[i] := by simp [List.getD_eq_getElem?_getD, h2]
  rw [e1, e2] at q1
  exact (u8_inj (hb' _ (List.getElem_mem h2)) (hb _ (List.getElem_mem h1)) q1).symm

theorem dnv_mono {D : List Int} (h : Dt.DL D) {i j : Nat} (hij : i ≤ j) : Dt.nv D i ≤ Dt.nv D j := by
  induction j with
  | zero => obtain rfl : i = 0 := by omega
            exact Int.le_refl _
  | succ j ih =>
    rcases Nat.lt_or_ge j i with h1 | h1
    · obtain rfl : i = j + 1 := by omega
      exact Int.le_refl _
    · refine Int.le_trans (ih h1) ?_
      have q := (h j).1
      have q2 := Dt.DB_pos j
      have := Int.mul_nonneg q (Int.le_of_lt q2)
      simp only [Dt.nv]
      omega

theorem txN_vd {p : List Int} (h : isN p = true) : txN (vd p p.length).toNat = p := by
  obtain ⟨⟨h1, h2, h3⟩, hd⟩ := isN_of h
  have hD : ∃ D : List Int, p = (tb D).reverse ∧ Dt.DL D := by
    refine ⟨(p.map fun x => x - 48).reverse, ?_, fun i => ?_⟩
    · simp only [tb, List.map_reverse, List.reverse_reverse, List.map_map]
      conv => lhs; rw [← List.map_id p]
      exact List.map_congr_left fun x _ => by simp; omega
    · rcases Nat.lt_or_ge i (p.map fun x => x - 48).reverse.length with hi | hi
      · have hm : (p.map fun x => x - 48).reverse.getD i 0 ∈ (p.map fun x => x - 48).reverse := by
          rw [List.getD_eq_getElem?_getD, List.getElem?_eq_getElem hi]; exact List.getElem_mem hi
        rw [List.mem_reverse, List.mem_map] at hm
        obtain ⟨x, hx, e⟩ := hm
        obtain ⟨j, hj⟩ := List.mem_iff_getElem?.1 hx
        have hjl := (List.getElem?_eq_some_iff.1 hj).1
        have := dgs_at hd hjl
        rw [List.getD_eq_getElem?_getD, hj] at this
        simp only [Option.getD_some] at this
        rw [← e]; omega
      · rw [List.getD_eq_getElem?_getD, List.getElem?_eq_none hi]; simp
  obtain ⟨D, hp, hDL⟩ := hD
  have hv : vd p p.length = Dt.num D := by rw [hp]; exact vd_tb D
  have hn0 := Dt.num_nonneg hDL
  have hn : Dt.num D = (((Dt.num D).toNat : Nat) : Int) := (Int.toNat_of_nonneg hn0).symm
  have hlen : D.length = p.length := by rw [hp]; simp [tb_length]
  have hlast : p.getD 0 0 = 48 + D.getD (D.length - 1) 0 := by
    rw [hp, List.getD_eq_getElem?_getD, List.getElem?_reverse (by simp [tb_length]; omega)]
    simp only [tb, List.getElem?_map, List.length_map, Nat.sub_zero]
    rw [List.getElem?_eq_getElem (by omega)]
    simp [List.getD_eq_getElem?_getD, List.getElem?_eq_getElem (show D.length - 1 < D.length by omega)]
  rw [hv]
  by_cases hz : (Dt.num D).toNat = 0
  · have hge : ∀ k, D.getD k 0 ≠ 0 → k < D.length → False := fun k hk hkl => by
      have q := Dt.nv_ge hDL hk
      have q2 : Dt.nv D (k + 1) ≤ Dt.nv D D.length := dnv_mono hDL (by omega)
      have q3 := Dt.DB_pos k
      have q4 : Dt.nv D D.length = Dt.num D := rfl
      omega
    have h0 : D.getD (D.length - 1) 0 = 0 := by
      by_cases h : D.getD (D.length - 1) 0 = 0
      · exact h
      · exact (hge _ h (by omega)).elim
    have h4 : p.length = 1 := by rcases h3 with h3 | h3; exact h3; omega
    rw [hz]
    have hp0 : p.getD 0 0 = 48 := by rw [hlast, h0]; rfl
    have : p = [48] := by
      match p, h4, hp0 with
      | [a], _, hl =>
        have : a = 48 := by simpa using hl
        rw [this]
    rw [this]; rfl
  · have hl : D.length ≠ 0 → D.getD (D.length - 1) 0 ≠ 0 := fun _ hzero => by
      rcases h3 with h3 | h3
      · have : D.length = 1 := by omega
        obtain ⟨d, hd'⟩ : ∃ d, D = [d] := by
          match D, this with
          | [d], _ => exact ⟨d, rfl⟩
        rw [hd'] at hzero hz
        simp at hzero
        rw [hzero] at hz
        exact hz (by decide)
      · omega
    have := txN_dg hDL hn hz hl
    rw [← this]
    exact hp.symm
end Go.Proofs.YtjmceapnhmeflaaDoor

