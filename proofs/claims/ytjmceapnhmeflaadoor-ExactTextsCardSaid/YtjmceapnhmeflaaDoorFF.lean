/- Contracts: Norm, Bits; the law's short, add, mul. -/
import Derived.Test.YtjmceapnhmeflaaDoorVX
import Derived.Test.YtjmceapnhmeflaaDoorFE
set_option linter.unusedSimpArgs false
set_option linter.unusedVariables false
-- NEWSET
namespace Go.Proofs.YtjmceapnhmeflaaDoor
open Go Go.Vh

section
variable {K : St → AHeap → Prop} {d : Option Nat} {s : St} {H : AHeap}
/-- A call of tooLong with one number. -/
theorem call_tooLongA {a b n : Nat} {κ : SK} {row rowb : ARow} (hk : okS κ n) (hn : n < 9223372036854775807) (ha : Vh.rowAt H a = some row) (hc : row.cells = [mkS κ b 0 n]) (hb : Vh.rowAt H b = some rowb)
    (hK : K (putI d s (.int .i64 (if n ≤ 64 then 0 else 4))) H) : thenC Tryd.prog K d s H [.slice a 0 1 1] (.func 60 []) := by
  have hl : alen (mkS κ 1 0 n) = some n := k_len hk (Nat.le_refl _)
  have hl' : lenOf (mkS κ 1 0 n) = n := by simp [lenOf, hl]
  have s0' : sig [(a, 0), (b, 0)] H.length 0 = some (a, 0) := rfl
  have s1' : sig [(a, 0), (b, 0)] H.length 1 = some (b, 0) := rfl
  refine call_do (tooLong_calls [mkS κ 1 0 n] [ro []] (fun c hc => ?_) (by simp)) [(a, 0), (b, 0)] rfl rfl (allRo_once rfl _) ?_ ⟨seen_ro_whole ha ?_ ?_, seen_ro hb ?_ rfl rfl, trivial⟩ ?_
  · simp only [List.mem_singleton] at hc
    subst hc
    exact ⟨by rw [hl]; rfl, by rw [hl']; exact hn⟩
  · simp only [List.length_cons, List.length_nil]; rw [n_lcons, n_lnil, n_slice s0']; rfl
  · rw [n_lcons, n_lnil, n_mkS0 s1', hc]
  · simp [underL, mkS_under]
  · simp
  · rintro v0 H0' ⟨rfl, rfl⟩
    rw [n_int, m_merge, m_ro, m_ro, m_nil]
    have e : ([mkS κ 1 0 n].all fun c => decide (lenOf c ≤ 64)) = decide (n ≤ 64) := by
      simp only [List.all_cons, List.all_nil, Bool.and_true, hl']
    rw [e]
    simp only [List.length_cons, List.length_nil, Nat.reduceAdd, List.drop_succ_cons, List.drop_zero, List.map_nil, List.append_nil, decide_eq_true_eq]
    exact hK
/-- An append to an empty slice without room. -/
theorem x_app0 {bytes : Nat} {x y : Opd} {q o n : Nat} {v : AV} {xs : List AV} (hx : evo s x = .slice q o 0 0) (hy : evo s y = v) (hl : alen v = some n) (hsrc : asrc 1 v H = some xs) (hb : n * bytes ≤ 70368744177664) (hcell : xs.all AV.cell = true) :
    ieff (.append 1 bytes x y) s H = some (.sliceU H.length 0 n 1, H ++ [sl xs]) := by
  simp only [ieff, hx, hy, hl, hsrc, Option.bind_some, aappend, Nat.zero_add, if_pos hb, if_true, anew, hcell, Option.map_some]
  rfl
theorem x_bs0 {bytes : Nat} : ieff (.buildSlice 0 [] []) s H = some (.slice H.length 0 0 0, H ++ [rw_ []]) := by
  simp [ieff, afill, anew, rw_]
end

/-- how many binary digits -/
def blen (x : Int) : Nat := if x = 0 then 0 else x.toNat.log2 + 1

theorem log2_uniq {n k : Nat} (h1 : 2 ^ k ≤ n) (h2 : n < 2 ^ (k + 1)) : n.log2 = k := by
  have hn : n ≠ 0 := by have := Nat.pow_pos (a := 2) (n := k) (by omega); omega
  have h3 := (Nat.le_log2 hn).2 h1
  have h4 := (Nat.log2_lt hn).2 h2
  omega

theorem in_size {x : Int} : In1 106 x 100000 [] (UpP (.int .i64 (blen x))) := by
  intro κ a hk hm ha hx
  refine ⟨_, ACalls.body Tryd.func106 ent_size ir_size_ok rs_size_ok Tryd.ntmps106 (by simp) rfl ?_⟩
  unfold ir_size
  have e0 : s0 [mkS κ 0 0 a.length] 0 = mkS κ 0 0 a.length := rfl
  have ht := tz_le a a.length
  have hz := tz_zero_iff ha
  simp -implicitDefEqProofs (disch := omega) only [sN, ↓reduceIte, Nat.reduceEqDiff, Nat.reduceAdd, Nat.reduceMul, Nat.reduceSub, reduceCtorEq, e_none, e_some, e_bindS, e0]
  refine call_rdS (r := 0) (row := ⟨false, false, ints .u32 a⟩) (xtrim_calls κ a hk (by omega)) rfl rfl take_all rfl ?_
  by_cases h0 : tz a a.length = 0
  · have hx0 : x = 0 := by rw [← hx]; exact hz.1 h0
    simp -implicitDefEqProofs (disch := omega) only [sN, ↓reduceIte, Nat.reduceEqDiff, Nat.reduceAdd, Nat.reduceMul, Nat.reduceSub, reduceCtorEq, e_none, e_some, e_bindS, k_len hk, h0]
    refine ret_keep (by simp) ⟨[], rfl, ?_⟩
    simp only [e_upd, e_putS, e_putN, e_t, e_c, Nat.reduceEqDiff, ↓reduceIte, reduceCtorEq, Nat.reduceAdd, hx0]; rfl
  · have hx0 : x ≠ 0 := by rw [← hx]; exact fun h => h0 (hz.2 h)
    obtain ⟨t, htt⟩ : ∃ t, tz a a.length = t + 1 := ⟨tz a a.length - 1, by omega⟩
    have hlast := tz_last a a.length (by omega)
    rw [htt, Nat.add_sub_cancel] at hlast
    have hat := ha t
    obtain ⟨y, hy⟩ : ∃ y : Nat, (a.getD t 0).toNat = y := ⟨_, rfl⟩
    have hyI : a.getD t 0 = (y : Int) := by omega
    obtain ⟨L, l1, l2, l3, l4, hc⟩ := xlen32_calls y (by omega) (by omega)
    have i1 : ((t + 1 : Nat) : Int) - 1 = (t : Int) := by omega
    have ia : aindexAddr 1 (mkS κ 0 0 (t + 1)) (.int .i64 (t : Int)) = some (.ptr 0 t) := by
      rw [k_idx (hk.le (show t + 1 ≤ a.length by omega)) (Nat.le_refl _) (by omega) (by omega)]; simp
    have ga : (ints .u32 a)[t]? = some (.int .u32 (y : Int)) := by rw [ints_get (by omega), hyI]
    have w1 : abin .mul (.int .i64 32) (.int .i64 (t : Int)) = some (.int .i64 ((32 * t : Nat) : Int)) := by
      rw [b_mul, w64 (by omega) (by omega)]; simp
    rw [htt]
    simp -implicitDefEqProofs (disch := omega) only [sN, ↓reduceIte, Nat.reduceEqDiff, Nat.reduceAdd, Nat.reduceMul, Nat.reduceSub, reduceCtorEq, e_none, e_some, e_bindS, k_len (hk.le (show t + 1 ≤ a.length by omega)), i1, ia, ga, w1]
    refine call_sc hc rfl rfl (fun _ => rfl) ?_
    have i2 : ((32 * t : Nat) : Int) + (L : Int) = ((32 * t + L : Nat) : Int) := by omega
    simp -implicitDefEqProofs (disch := omega) only [sN, ↓reduceIte, Nat.reduceEqDiff, Nat.reduceAdd, Nat.reduceMul, Nat.reduceSub, reduceCtorEq, e_none, e_some, e_bindS, i2]
    refine ret_keep (by simp) ⟨[], rfl, ?_⟩
    simp only [e_upd, e_putS, e_putN, e_t, e_c, Nat.reduceEqDiff, ↓reduceIte, reduceCtorEq, Nat.reduceAdd]
    congr 1
    have hnv : x = nv a t + (y : Int) * BB ^ t := by
      rw [← hx]
      show nv a a.length = _
      rw [← nv_tz a a.length, htt, nv, hyI]
    have hb := nv_bound ha t
    obtain ⟨P, hP⟩ : ∃ P : Nat, 2 ^ (32 * t) = P := ⟨_, rfl⟩
    have hPB : BB ^ t = (P : Int) := by
      rw [← hP]
      have : (4294967296 : Int) = ((2 ^ 32 : Nat) : Int) := by decide
      rw [show BB = ((2 ^ 32 : Nat) : Int) from this, ← Int.natCast_pow, ← Nat.pow_mul]
    rw [hPB] at hnv hb
    obtain ⟨N, hN⟩ : ∃ N : Nat, nv a t = N := ⟨(nv a t).toNat, by omega⟩
    rw [hN] at hnv hb
    have hxN : x = ((N + y * P : Nat) : Int) := by rw [hnv]; simp
    have hlog : (N + y * P).log2 = 32 * t + L - 1 := by
      refine log2_uniq ?_ ?_
      · rw [show 32 * t + L - 1 = (L - 1) + 32 * t by omega, Nat.pow_add, hP]
        have := Nat.mul_le_mul_right P l3
        omega
      · rw [show 32 * t + L - 1 + 1 = L + 32 * t by omega, Nat.pow_add, hP]
        have h1 : (y + 1) * P ≤ 2 ^ L * P := Nat.mul_le_mul_right P l4
        rw [Nat.add_mul, Nat.one_mul] at h1
        omega
    unfold blen
    rw [if_neg hx0, hxN, Int.toNat_natCast, hlog]
    omega

theorem in_Norm {x : Int} : In1 51 x 64 [] (UpE x 0) := by
  intro κ a hk hm ha hx
  refine ⟨_, ACalls.body Tryd.func51 ent_xNorm ir_xNorm_ok rs_xNorm_ok Tryd.ntmps51 (by simp) rfl ?_⟩
  unfold ir_xNorm
  have e0 : s0 [mkS κ 0 0 a.length] 0 = mkS κ 0 0 a.length := rfl
  have u0 : AtK [ro (ints .u32 a)] (mkS κ 0 0 a.length) x 0 100000 := ⟨κ, a, _, hk, rfl, rfl, take_all, ha, hx, by omega⟩
  have v0 := u0.app (R := [rw_ [mkS κ 0 0 a.length]])
  simp -implicitDefEqProofs (disch := omega) only [sN, ↓reduceIte, Nat.reduceEqDiff, Nat.reduceAdd, Nat.reduceMul, Nat.reduceSub, reduceCtorEq, e_none, e_some, e_bindS, e0]
  rw [x_bs1 (v := mkS κ 0 0 a.length) (by simp only [e_upd, e_putS, e_putN, e_t, e_c, Nat.reduceEqDiff, ↓reduceIte, reduceCtorEq, Nat.reduceAdd]) c_mkS]
  simp -implicitDefEqProofs (disch := omega) only [sN, ↓reduceIte, Nat.reduceEqDiff, Nat.reduceAdd, Nat.reduceMul, Nat.reduceSub, reduceCtorEq, e_none, e_some, e_bindS, e0]
  refine call_tooLongA (a := 1) (b := 0) hk (by omega) rfl rfl rfl ?_
  simp -implicitDefEqProofs (disch := omega) only [sN, ↓reduceIte, Nat.reduceEqDiff, Nat.reduceAdd, Nat.reduceMul, Nat.reduceSub, reduceCtorEq, e_none, e_some, e_bindS, if_pos hm, e0]
  refine call_in1 in_own rfl v0 (hk_N fun R w hw => ?_)
  simp -implicitDefEqProofs (disch := omega) only [sN, ↓reduceIte, Nat.reduceEqDiff, Nat.reduceAdd, Nat.reduceMul, Nat.reduceSub, reduceCtorEq, e_none, e_some, e_bindS]
  refine ret_keep (by simp) ⟨rw_ [mkS κ 0 0 a.length] :: R, w, rfl, ?_, hw.le (by simp)⟩
  simp only [e_upd, e_putS, e_putN, e_t, e_c, Nat.reduceEqDiff, ↓reduceIte, reduceCtorEq, Nat.reduceAdd]
theorem in_Bits {x : Int} : In1 52 x 64 [] (UpP (.tuple [.int .i64 (blen x), .int .i64 0])) := by
  intro κ a hk hm ha hx
  refine ⟨_, ACalls.body Tryd.func52 ent_xBits ir_xBits_ok rs_xBits_ok Tryd.ntmps52 (by simp) rfl ?_⟩
  unfold ir_xBits
  have e0 : s0 [mkS κ 0 0 a.length] 0 = mkS κ 0 0 a.length := rfl
  have u0 : AtK [ro (ints .u32 a)] (mkS κ 0 0 a.length) x 0 100000 := ⟨κ, a, _, hk, rfl, rfl, take_all, ha, hx, by omega⟩
  have v0 := u0.app (R := [rw_ [mkS κ 0 0 a.length]])
  simp -implicitDefEqProofs (disch := omega) only [sN, ↓reduceIte, Nat.reduceEqDiff, Nat.reduceAdd, Nat.reduceMul, Nat.reduceSub, reduceCtorEq, e_none, e_some, e_bindS, e0]
  rw [x_bs1 (v := mkS κ 0 0 a.length) (by simp only [e_upd, e_putS, e_putN, e_t, e_c, Nat.reduceEqDiff, ↓reduceIte, reduceCtorEq, Nat.reduceAdd]) c_mkS]
  simp -implicitDefEqProofs (disch := omega) only [sN, ↓reduceIte, Nat.reduceEqDiff, Nat.reduceAdd, Nat.reduceMul, Nat.reduceSub, reduceCtorEq, e_none, e_some, e_bindS, e0]
  refine call_tooLongA (a := 1) (b := 0) hk (by omega) rfl rfl rfl ?_
  simp -implicitDefEqProofs (disch := omega) only [sN, ↓reduceIte, Nat.reduceEqDiff, Nat.reduceAdd, Nat.reduceMul, Nat.reduceSub, reduceCtorEq, e_none, e_some, e_bindS, if_pos hm, e0]
  refine call_in1 in_size rfl v0 (hk_P (fun _ => rfl) fun R => ?_)
  simp -implicitDefEqProofs (disch := omega) only [sN, ↓reduceIte, Nat.reduceEqDiff, Nat.reduceAdd, Nat.reduceMul, Nat.reduceSub, reduceCtorEq, e_none, e_some, e_bindS]
  refine ret_keep (by simp) ⟨rw_ [mkS κ 0 0 a.length] :: R, rfl, ?_⟩
  simp only [e_upd, e_putS, e_putN, e_t, e_c, Nat.reduceEqDiff, ↓reduceIte, reduceCtorEq, Nat.reduceAdd]

theorem blen_zero {x : Int} (hx : 0 ≤ x) : blen x = 0 ↔ x = 0 := by
  unfold blen
  split
  · simp_all
  · simp_all

/-! ### The law's own -/
/-- Same, of two normal numbers that are equal. -/
theorem call_same {x : Int} {u v : AV} {K : St → AHeap → Prop} {d : Option Nat} {s : St} {H : AHeap} (hu : AtN H u x) (hv : AtN H v x) (hb : x < BB ^ 100000) (hK : K (putI d s (.bool true)) H) : thenC Tryd.prog K d s H [u, v] (.func 16 []) := by
  obtain ⟨κ, l, row, a, h1, rfl, h3, h4, h5, h6, h7⟩ := hu
  obtain ⟨κ', l', row', b, k1, rfl, k3, k4, k5, k6, k7⟩ := hv
  have hl : l = l' := by
    have := num_inj h5 k5 (h6.trans k6.symm)
    rwa [h7, k7, List.take_length, List.take_length] at this
  have hlen : l.length ≤ 100000 := norm_len h5 h7 (by rw [h6]; exact hb)
  have hlen' : l'.length ≤ 100000 := by rw [← hl]; exact hlen
  refine call_rd2 (rsame_calls κ κ' l l' h1 k1 (by omega) (by omega)) rfl h3 h4 k3 k4 rfl (fun _ => rfl) ?_
  rw [decide_eq_true hl]
  exact hK

/-- The law's short. -/
theorem call_short {x : Int} {a k : Nat} {u : AV} {K : St → AHeap → Prop} {d : Option Nat} {s : St} {H : AHeap} {n : Nat} (hn : n ≤ 64) (hu : AtK H u x a k)
    (hK : ∀ R w z r, AtK (H ++ R) w z r n → K (putI d s w) (H ++ R)) : thenC Tryd.prog K d s H [u, .int .i64 (n : Int)] (.func 47 []) := by
  obtain ⟨κ, l, row, h1, rfl, h3, h4, h5, h6, h7⟩ := hu
  have hc : ACalls Tryd.prog 47 [mkS κ 0 0 l.length, .int .i64 (n : Int)] [ro (ints .u32 l)] (List.range 1) fun v H => v = .sliceU 2 0 (l.take n).length 1 ∧ H = [ro (ints .u32 l), rw_ [], sl (ints .u32 (l.take n))] := by
    refine ACalls.body Tryd.func47 ent_short ir_short_ok rs_short_ok Tryd.ntmps47 (by simp) rfl ?_
    unfold ir_short
    have e0 : s0 [mkS κ 0 0 l.length, .int .i64 (n : Int)] 0 = mkS κ 0 0 l.length := rfl
    have e1 : s0 [mkS κ 0 0 l.length, .int .i64 (n : Int)] 1 = .int .i64 n := rfl
    have hmin : (if false = true then (if (n : Int) > (l.length : Int) then (n : Int) else (l.length : Int)) else (if (n : Int) < (l.length : Int) then (n : Int) else (l.length : Int))) = (((l.take n).length : Nat) : Int) := by
      simp only [Bool.false_eq_true, if_false, List.length_take]
      split <;> omega
    have hlt : (l.take n).length ≤ l.length := by rw [List.length_take]; omega
    simp -implicitDefEqProofs (disch := omega) only [sN, ↓reduceIte, Nat.reduceEqDiff, Nat.reduceAdd, Nat.reduceMul, Nat.reduceSub, reduceCtorEq, e_none, e_some, e_bindS, x_bs0 (bytes := 4), e0, e1, k_len h1]
    rw [p_minmax (k := .i64) (k' := .i64) (a := (l.length : Int)) (b := (n : Int)) (by simp only [e_upd, e_putS, e_putN, e_t, e_c, Nat.reduceEqDiff, ↓reduceIte, reduceCtorEq, Nat.reduceAdd]) (by simp only [e_upd, e_putS, e_putN, e_t, e_c, Nat.reduceEqDiff, ↓reduceIte, reduceCtorEq, Nat.reduceAdd]), hmin]
    simp -implicitDefEqProofs (disch := omega) only [sN, ↓reduceIte, Nat.reduceEqDiff, Nat.reduceAdd, Nat.reduceMul, Nat.reduceSub, reduceCtorEq, e_none, e_some, e_bindS, e0, e1, k_len h1, k_sl h1]
    rw [x_app0 (q := 1) (o := 0) (n := (l.take n).length) (v := mkS κ 0 0 (l.take n).length) (xs := ints .u32 (l.take n)) (by simp only [e_upd, e_putS, e_putN, e_t, e_c, Nat.reduceEqDiff, ↓reduceIte, reduceCtorEq, Nat.reduceAdd]; rfl) (by simp only [e_upd, e_putS, e_putN, e_t, e_c, Nat.reduceEqDiff, ↓reduceIte, reduceCtorEq, Nat.reduceAdd]) (k_len (h1.le hlt) (Nat.le_refl _)) ?_ ?_ ints_cell]
    · simp -implicitDefEqProofs (disch := omega) only [sN, ↓reduceIte, Nat.reduceEqDiff, Nat.reduceAdd, Nat.reduceMul, Nat.reduceSub, reduceCtorEq, e_none, e_some, e_bindS]
      refine ret_keep (by simp) ⟨?_, rfl⟩
      simp only [e_upd, e_putS, e_putN, e_t, e_c, Nat.reduceEqDiff, ↓reduceIte, reduceCtorEq, Nat.reduceAdd]; rfl
    · rw [src_mkS (row := ⟨false, false, ints .u32 l⟩) (h1.le hlt) rfl (by simp only [ints_length]; exact hlt)]
      simp only
      rw [ints_take]
      congr 2
      rw [List.length_take, ← List.take_eq_take_min]
    · rw [List.length_take]; omega

  refine call_ints (r := a) (row := row) hc rfl h3 h4 rfl ?_
  rintro v0 H0' ⟨rfl, rfl⟩
  rw [n_sliceU (r' := H.length + 1) (d := 0) (by simp [sig])]
  refine hK _ _ (num (l.take n)) (H.length + 1) ⟨.u, l.take n, ⟨true, true, ints .u32 (l.take n)⟩, trivial, rfl, ?_, take_all, fun j => ?_, rfl, by rw [List.length_take]; omega⟩
  · simp [Vh.rowAt, List.getElem?_append_right, renRow, sl, rw_, ints_ren]
  · simp only [List.getD_eq_getElem?_getD, List.getElem?_take]
    split
    · have := h5 j; rwa [List.getD_eq_getElem?_getD] at this
    · simp
end Go.Proofs.YtjmceapnhmeflaaDoor


/- ExactLaws' walk. -/
-- NEWSET
namespace Go.Proofs.YtjmceapnhmeflaaDoor
open Go Go.Vh

theorem NumV.len0 {H : AHeap} {w : AV} {m : Nat} (h : NumV H w 0 m) : alen w = some 0 := by
  rcases h with ⟨rfl, _⟩ | ⟨κ, l, row, r, h1, rfl, h3, h4⟩
  · rfl
  · have h0 := (tz_zero_iff h4.limbs).2 h4.num
    rw [h4.norm] at h0
    rw [k_len h4.ok (Nat.le_refl _), h0]
/-- What is known of a heap: its first row, and some numbers. -/
structure Has (n0 : Nat) (H : AHeap) (L : List (AV × Int × Nat)) : Prop where
  len : n0 ≤ H.length
  z : ∃ row, Vh.rowAt H 0 = some row
  nums : ∀ p ∈ L, ∃ r, AtK H p.1 p.2.1 r p.2.2
theorem Has.app {n0 : Nat} {H R : AHeap} {L : List (AV × Int × Nat)} (h : Has n0 H L) : Has n0 (H ++ R) L := by
  obtain ⟨hlen, ⟨row, hr⟩, hn⟩ := h
  exact ⟨by rw [List.length_append]; omega, ⟨row, by rw [rowAt_append_left (rowAt_lt hr)]; exact hr⟩, fun p hp => by obtain ⟨r, h⟩ := hn p hp; exact ⟨r, h.app⟩⟩
theorem Has.cons {n0 : Nat} {H : AHeap} {L : List (AV × Int × Nat)} {w : AV} {x : Int} {m k : Nat} (h : Has n0 H L) (hw : NumV H w x m) (hx : x < BB ^ k) : Has n0 H ((w, x, k) :: L) := by
  obtain ⟨row, hr⟩ := h.z
  refine ⟨h.len, ⟨row, hr⟩, fun p hp => ?_⟩
  rcases List.mem_cons.1 hp with rfl | hp
  · exact hw.at hr hx
  · exact h.nums p hp
section
variable {f : FuncId} {x y z z' e : Int} {k k' m m' n0 : Nat} {u v c : AV} {rest : List AV} {K : St → AHeap → Prop} {d : Option Nat} {s : St} {H : AHeap} {L : List (AV × Int × Nat)}
end
end Go.Proofs.YtjmceapnhmeflaaDoor

