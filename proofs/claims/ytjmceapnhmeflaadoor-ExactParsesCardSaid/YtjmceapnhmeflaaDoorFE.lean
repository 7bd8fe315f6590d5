/- Contracts: exact's gcd. -/
import Derived.Test.YtjmceapnhmeflaaDoorVX
import Derived.Test.YtjmceapnhmeflaaDoorFD
import Derived.Test.YtjmceapnhmeflaaDoorV7
import Derived.Test.YtjmceapnhmeflaaDoorCD
import Derived.Test.YtjmceapnhmeflaaDoorC8
import Derived.Test.YtjmceapnhmeflaaDoorIrB
set_option linter.unusedSimpArgs false
set_option linter.unusedVariables false
-- NEWSET
namespace Go.Proofs.YtjmceapnhmeflaaDoor
open Go Go.Vh

section
variable {P : Program} {f : FuncId} {args0 : List AV} {H0 : AHeap} {W0 : List Nat} {x y : Int} {K : St → AHeap → Prop} {d : Option Nat} {s : St} {H : AHeap} {args caps : List AV}
theorem fresh2_merge {σ : List (Nat × Nat)} {κ κ' : SK} {l l' : List Int} {row row' : ARow} (hro : allRo H0 = true) (hl : σ.length = H0.length) (hn : NewNum x κ l row) (hn' : NewNum y κ' l' row') :
    (AV.tuple [mkS κ H0.length 0 l.length, mkS κ' (H0.length + 1) 0 l'.length]).ren (sig σ H.length) = .tuple [mkS κ H.length 0 l.length, mkS κ' (H.length + 1) 0 l'.length] ∧ merge H σ H0 (H0 ++ [some row, some row']) = H ++ [some row, some row'] := by
  have hs : sig σ H.length H0.length = some (H.length, 0) := by rw [sig_ge (by omega)]; simp [hl]
  have hs' : sig σ H.length (H0.length + 1) = some (H.length + 1, 0) := by rw [sig_ge (by omega)]; simp [hl]
  refine ⟨by rw [n_tuple, n_lcons, n_lcons, n_lnil, n_mkS0 hs, n_mkS0 hs'], ?_⟩
  rw [m_merge, mergeGo_ro hro]
  simp [renRow, hn.own, hn.ren, hn'.own, hn'.ren]
theorem call_fresh2 (h : ACalls P f args0 H0 W0 (Fresh2 H0 x y)) (σ : List (Nat × Nat)) (hro : allRo H0 = true) (hl : σ.length = H0.length) (hu : underL H0.length args0 = true) (hargs : args ++ caps = renL (sig σ H.length) args0)
    (hseen : seenAll H (sig σ H.length) H0.length H0 σ) (hK : ∀ κ l row κ' l' row', NewNum x κ l row → NewNum y κ' l' row' → K (putI d s (.tuple [mkS κ H.length 0 l.length, mkS κ' (H.length + 1) 0 l'.length])) (H ++ [some row, some row'])) : thenC P K d s H args (.func f caps) :=
  call_do h σ (allRo_some hro) hu (allRo_once hro σ) hargs hseen fun v0 H0' ⟨κ, l, row, κ', l', row', e1, e2, hn, hn'⟩ => by
    subst e1; subst e2
    obtain ⟨k1, k2⟩ := fresh2_merge (H := H) hro hl hn hn'
    rw [k1, k2]
    exact hK _ _ _ _ _ _ hn hn'
end

/-- A number in limbs somewhere in a heap. -/
def AtK (H : AHeap) (v : AV) (x : Int) (r k : Nat) : Prop := ∃ κ l row, okS κ l.length ∧ v = mkS κ r 0 l.length ∧ Vh.rowAt H r = some row ∧ row.cells.take l.length = ints .u32 l ∧ Limbs l ∧ num l = x ∧ l.length ≤ k
abbrev AtL (H : AHeap) (v : AV) (x : Int) (r : Nat) : Prop := AtK H v x r 100000
theorem AtK.mono {H : AHeap} {v : AV} {x : Int} {r k k' : Nat} (h : AtK H v x r k) (hk : k ≤ k') : AtK H v x r k' := by
  obtain ⟨κ, l, row, h1, h2, h3, h4, h5, h6, h7⟩ := h
  exact ⟨κ, l, row, h1, h2, h3, h4, h5, h6, Nat.le_trans h7 hk⟩
theorem AtK.lt {H : AHeap} {v : AV} {x : Int} {r k : Nat} (h : AtK H v x r k) : r < H.length := by
  obtain ⟨_, _, _, _, _, h1, _⟩ := h
  exact rowAt_lt h1
theorem AtK.keep {H H' : AHeap} {v : AV} {x : Int} {r k : Nat} (h : AtK H v x r k) (he : Vh.rowAt H' r = Vh.rowAt H r) : AtK H' v x r k := by
  obtain ⟨κ, l, row, h1, h2, h3, h4⟩ := h
  exact ⟨κ, l, row, h1, h2, by rw [he, h3], h4⟩
theorem AtK.app {H R : AHeap} {v : AV} {x : Int} {r k : Nat} (h : AtK H v x r k) : AtK (H ++ R) v x r k := h.keep (rowAt_append_left h.lt)
theorem AtK.nonneg {H : AHeap} {v : AV} {x : Int} {r k : Nat} (h : AtK H v x r k) : 0 ≤ x := by
  obtain ⟨κ, l, row, _, _, _, _, hl, rfl, _⟩ := h
  exact num_nonneg hl
theorem NewNum.at {H : AHeap} {x : Int} {κ : SK} {l : List Int} {row : ARow} {r : Nat} (h : NewNum x κ l row) (hr : Vh.rowAt H r = some row) (hl : l.length ≤ 100000) : AtL H (mkS κ r 0 l.length) x r :=
  ⟨κ, l, row, h.ok, rfl, hr, h.cells, h.limbs, h.num, hl⟩
theorem NewNum.short {x : Int} {κ : SK} {l : List Int} {row : ARow} {k : Nat} (h : NewNum x κ l row) (hx : x < BB ^ k) : l.length ≤ k := norm_len h.limbs h.norm (by rw [h.num]; exact hx)

section
variable {K : St → AHeap → Prop} {d : Option Nat} {s : St} {H : AHeap}
theorem seen_limbs {σ : Sig} {n : Nat} {r : Nat} {row : ARow} {l : List Int} (hr : Vh.rowAt H r = some row) (hc : row.cells.take l.length = ints .u32 l) : Vh.seen H σ n (ro (ints .u32 l)) (r, 0) := by
  have h := congrArg List.length hc
  simp only [List.length_take, ints_length] at h
  exact seen_ro hr (by simp only [ints_length]; omega) (by rw [ints_ren, ints_length, List.drop_zero, hc]) (flatL_under ints_flat)
theorem call_num2_2 {P : Program} {f : FuncId} {x y z z' : Int} {a b : Nat} {u v : AV} {W0 : List Nat} (hu : AtL H u x a) (hv : AtL H v y b)
    (h : ∀ (κ κ' : SK) (l l' : List Int), okS κ l.length → okS κ' l'.length → l.length ≤ 100000 → l'.length ≤ 100000 → Limbs l → Limbs l' → num l = x → num l' = y → ACalls P f [mkS κ 0 0 l.length, mkS κ' 1 0 l'.length] [ro (ints .u32 l), ro (ints .u32 l')] W0 (Fresh2 [ro (ints .u32 l), ro (ints .u32 l')] z z'))
    (hK : ∀ κ l row κ' l' row', NewNum z κ l row → NewNum z' κ' l' row' → K (putI d s (.tuple [mkS κ H.length 0 l.length, mkS κ' (H.length + 1) 0 l'.length])) (H ++ [some row, some row'])) : thenC P K d s H [u, v] (.func f []) := by
  obtain ⟨κ, l, row, h1, rfl, h3, h4, h5, h6, h7⟩ := hu
  obtain ⟨κ', l', row', k1, rfl, k3, k4, k5, k6, k7⟩ := hv
  refine call_fresh2 (h κ κ' l l' h1 k1 h7 k7 h5 k5 h6 k6) [(a, 0), (b, 0)] rfl rfl (by simp [underL, mkS_under]) ?_ ⟨seen_limbs h3 h4, seen_limbs k3 k4, trivial⟩ hK
  rw [n_lcons, n_lcons, n_lnil, n_mkS0 (r' := a) rfl, n_mkS0 (r' := b) rfl]; rfl
/-- exact's quotient and remainder, somewhere. -/
theorem call_xdivide {x y : Int} {a b : Nat} {u v : AV} (hu : AtL H u x a) (hv : AtL H v y b) (hy : y ≠ 0)
    (hK : ∀ κ l row κ' l' row', NewNum (x / y) κ l row → NewNum (x % y) κ' l' row' → K (putI d s (.tuple [mkS κ H.length 0 l.length, mkS κ' (H.length + 1) 0 l'.length])) (H ++ [some row, some row'])) : thenC Tryd.prog K d s H [u, v] (.func 107 []) :=
  call_num2_2 hu hv (fun κ κ' l l' h1 h2 h3 h4 h5 h6 h7 h8 => by
    have := xdivide_fresh κ κ' l l' h1 h2 h3 h4 h5 h6 (by rw [h8]; exact hy)
    rw [h7, h8] at this
    exact this) hK
end

/-- A number copied, somewhere. -/
theorem call_own' {K : St → AHeap → Prop} {d : Option Nat} {s : St} {H : AHeap} {x : Int} {a : Nat} {u : AV} (hu : AtL H u x a)
    (hK : ∀ κ l row, NewNum x κ l row → l.length ≤ 100000 → K (putI d s (mkS κ H.length 0 l.length)) (H ++ [some row])) : thenC Tryd.prog K d s H [u] (.func 105 []) := by
  obtain ⟨κ, l, row, h1, rfl, h3, h4, h5, rfl, h7⟩ := hu
  refine call_fresh (own_fresh κ l h1 (by omega) h5) [(a, 0)] rfl rfl (by simp [underL, mkS_under]) ?_ ⟨seen_limbs h3 h4, trivial⟩ fun κ' l' row' hn => hK κ' l' row' hn (Nat.le_trans (hn.short (nv_bound h5 l.length).2) h7)
  rw [n_lcons, n_lnil, n_mkS0 (r' := a) rfl]; rfl

theorem xgcd_fresh (κ κ' : SK) (a b : List Int) (hk : okS κ a.length) (hk' : okS κ' b.length) (hm : a.length ≤ 100000) (hm' : b.length ≤ 100000) (ha : Limbs a) (hb : Limbs b) :
    ACalls Tryd.prog 72 [mkS κ 0 0 a.length, mkS κ' 1 0 b.length] [ro (ints .u32 a), ro (ints .u32 b)] (List.range 2) (Fresh [ro (ints .u32 a), ro (ints .u32 b)] ((Nat.gcd (num a).toNat (num b).toNat : Nat) : Int)) := by
  refine ACalls.body Tryd.func72 ent_xgcd ir_xgcd_ok rs_xgcd_ok Tryd.ntmps72 (by simp) rfl ?_
  unfold ir_xgcd
  have e0 : s0 [mkS κ 0 0 a.length, mkS κ' 1 0 b.length] 0 = mkS κ 0 0 a.length := rfl
  have e1 : s0 [mkS κ 0 0 a.length, mkS κ' 1 0 b.length] 1 = mkS κ' 1 0 b.length := rfl
  have ua : AtL [ro (ints .u32 a), ro (ints .u32 b)] (mkS κ 0 0 a.length) (num a) 0 := ⟨κ, a, _, hk, rfl, rfl, take_all, ha, rfl, hm⟩
  have ub : AtL [ro (ints .u32 a), ro (ints .u32 b)] (mkS κ' 1 0 b.length) (num b) 1 := ⟨κ', b, _, hk', rfl, rfl, take_all, hb, rfl, hm'⟩
  have hap := num_nonneg ha
  have hbp := num_nonneg hb
  simp -implicitDefEqProofs (disch := omega) only [sN, ↓reduceIte, Nat.reduceEqDiff, Nat.reduceAdd, Nat.reduceMul, Nat.reduceSub, reduceCtorEq, e_none, e_some, e_bindS, e0, e1]
  refine call_own' ua ?_
  intro κ1 l1 row1 n1 s1
  simp -implicitDefEqProofs (disch := omega) only [sN, ↓reduceIte, Nat.reduceEqDiff, Nat.reduceAdd, Nat.reduceMul, Nat.reduceSub, reduceCtorEq, e_none, e_some, e_bindS, e0, e1]
  refine call_own' ub.app ?_
  intro κ2 l2 row2 n2 s2
  simp -implicitDefEqProofs (disch := omega) only [sN, ↓reduceIte, Nat.reduceEqDiff, Nat.reduceAdd, Nat.reduceMul, Nat.reduceSub, reduceCtorEq, e_none, e_some, e_bindS]
  refine ⟨fun m s H => ∃ (p q : Nat) (κ1 : SK) (l1 : List Int) (row1 : ARow) (κ2 : SK) (l2 : List Int) (row2 : ARow), m = q ∧ Nat.gcd p q = Nat.gcd (num a).toNat (num b).toNat ∧ NewNum (p : Int) κ1 l1 row1 ∧ NewNum (q : Int) κ2 l2 row2 ∧ l1.length ≤ 100000 ∧ l2.length ≤ 100000 ∧ s 0 = mkS κ1 2 0 l1.length ∧ s 1 = mkS κ2 3 0 l2.length ∧ H = [ro (ints .u32 a), ro (ints .u32 b), some row1, some row2], (num b).toNat,
    ⟨(num a).toNat, (num b).toNat, κ1, l1, row1, κ2, l2, row2, rfl, rfl, by rw [Int.toNat_of_nonneg hap]; exact n1, by rw [Int.toNat_of_nonneg hbp]; exact n2, s1, s2, ?_, ?_, rfl⟩, ?_⟩
  · simp only [e_upd, e_putS, e_putN, e_t, e_c, Nat.reduceEqDiff, ↓reduceIte, reduceCtorEq, Nat.reduceAdd]; rfl
  · simp only [e_upd, e_putS, e_putN, e_t, e_c, Nat.reduceEqDiff, ↓reduceIte, reduceCtorEq, Nat.reduceAdd]; rfl
  rintro m s H ⟨p, q, κ1, l1, row1, κ2, l2, row2, rfl, hg, n1, n2, s1, s2, h0, h1, rfl⟩
  by_cases hz : l2.length = 0
  · have hq0 : m = 0 := by
      have := n2.num
      rw [List.length_eq_zero_iff.1 hz] at this
      simp [num, nv] at this
      omega
    subst hq0
    rw [Nat.gcd_zero_right] at hg
    simp -implicitDefEqProofs (disch := omega) only [sN, ↓reduceIte, Nat.reduceEqDiff, Nat.reduceAdd, Nat.reduceMul, Nat.reduceSub, reduceCtorEq, e_none, e_some, e_bindS, h0, h1, k_len n2.ok, hz]
    refine ret_gc [0, 1, 2] rfl ?_ (by simp) ?_
    · simp only [gcH, List.map_cons, List.map_nil]
      simp [Vh.rowAt, ro, ints_ren, n1.back]
      exact ⟨List.all_eq_true.1 ints_cell, List.all_eq_true.1 ints_cell, List.all_eq_true.1 n1.cell⟩
    · show Fresh _ _ (gcS [0, 1, 2] _ 4) _
      rw [← hg]
      refine ⟨κ1, l1, row1, ?_, ?_, n1⟩
      · simp only [gcS, e_upd, e_putS, e_putN, e_t, e_c, Nat.reduceEqDiff, ↓reduceIte, reduceCtorEq, Nat.reduceAdd, h0]
        rw [n_mkS0 (r' := 2) rfl]; rfl
      · simp [gcH, Vh.rowAt, ro, ints_ren, n1.back]
  · have hq0 : m ≠ 0 := by
      intro h
      subst h
      have h2 := n2.num
      have h3 := tz_last l2 l2.length (by rw [n2.norm]; omega)
      rw [n2.norm] at h3
      have := nv_ge n2.limbs h3
      rw [show l2.length - 1 + 1 = l2.length by omega] at this
      have hp := BB_pos (l2.length - 1)
      have h4 : num l2 = nv l2 l2.length := rfl
      simp at h2
      omega
    simp -implicitDefEqProofs (disch := omega) only [sN, ↓reduceIte, Nat.reduceEqDiff, Nat.reduceAdd, Nat.reduceMul, Nat.reduceSub, reduceCtorEq, e_none, e_some, e_bindS, h0, h1, k_len n2.ok]
    refine call_xdivide (x := (p : Int)) (y := (m : Int)) (a := 2) (b := 3) (n1.at rfl s1) (n2.at rfl s2) (by omega) ?_
    intro κ3 l3 row3 κ4 l4 row4 n3 n4
    have hmod : ((p : Int) % (m : Int)) = ((p % m : Nat) : Int) := by simp
    rw [hmod] at n4
    have hlt : p % m < m := Nat.mod_lt _ (by omega)
    have s4 : l4.length ≤ 100000 := Nat.le_trans (n4.short (k := l2.length) (by
      have h5 := (nv_bound n2.limbs l2.length).2
      have h6 : num l2 = nv l2 l2.length := rfl
      rw [n2.num] at h6
      omega)) s2
    simp -implicitDefEqProofs (disch := omega) only [sN, ↓reduceIte, Nat.reduceEqDiff, Nat.reduceAdd, Nat.reduceMul, Nat.reduceSub, reduceCtorEq, e_none, e_some, e_bindS, List.getElem?_cons_zero, List.getElem?_cons_succ, h1]
    refine loop_gc [0, 1, 3, 5] rfl ?_ (m := p % m) hlt ⟨m, p % m, κ2, l2, row2, κ4, l4, row4, rfl, ?_, n2, n4, s2, s4, ?_, ?_, ?_⟩
    · simp [gcH, Vh.rowAt, ro, ints_ren, n2.back, n4.back]
      exact ⟨List.all_eq_true.1 ints_cell, List.all_eq_true.1 ints_cell, List.all_eq_true.1 n2.cell, List.all_eq_true.1 n4.cell⟩
    · rw [← hg, Nat.gcd_comm m, ← Nat.gcd_rec, Nat.gcd_comm]
    · simp only [gcS, e_upd, e_putS, e_putN, e_t, e_c, Nat.reduceEqDiff, ↓reduceIte, reduceCtorEq, Nat.reduceAdd]
      rw [n_mkS0 (r' := 2) rfl]
    · simp only [gcS, e_upd, e_putS, e_putN, e_t, e_c, Nat.reduceEqDiff, ↓reduceIte, reduceCtorEq, Nat.reduceAdd]
      rw [n_mkS0 (r' := 3) rfl]
    · simp [gcH, Vh.rowAt, ro, ints_ren, n2.back, n4.back]
end Go.Proofs.YtjmceapnhmeflaaDoor


/- Numbers as answers, in heaps that grow. -/
-- NEWSET
namespace Go.Proofs.YtjmceapnhmeflaaDoor
open Go Go.Vh

/-- A number as an answer: nil, or a new row at m or behind. -/
def NumV (H : AHeap) (w : AV) (x : Int) (m : Nat) : Prop := (w = .nilslice ∧ x = 0) ∨ ∃ κ l row r, m ≤ r ∧ w = mkS κ r 0 l.length ∧ Vh.rowAt H r = some row ∧ NewNum x κ l row
/-- A normal number somewhere. -/
def AtN (H : AHeap) (v : AV) (x : Int) : Prop := ∃ κ l row r, okS κ l.length ∧ v = mkS κ r 0 l.length ∧ Vh.rowAt H r = some row ∧ row.cells.take l.length = ints .u32 l ∧ Limbs l ∧ num l = x ∧ tz l l.length = l.length

section
variable {H H0 R : AHeap} {w : AV} {x y : Int} {m k : Nat}
theorem NumV.nil : NumV H .nilslice 0 m := .inl ⟨rfl, rfl⟩
theorem NumV.new {κ : SK} {l : List Int} {row : ARow} {r : Nat} (hr : Vh.rowAt H r = some row) (hm : m ≤ r) (h : NewNum x κ l row) : NumV H (mkS κ r 0 l.length) x m := .inr ⟨κ, l, row, r, hm, rfl, hr, h⟩
theorem NumV.app (h : NumV H w x m) : NumV (H ++ R) w x m := by
  rcases h with h | ⟨κ, l, row, r, h1, h2, h3, h4⟩
  · exact .inl h
  · exact .inr ⟨κ, l, row, r, h1, h2, by rw [rowAt_append_left (rowAt_lt h3)]; exact h3, h4⟩
theorem NumV.le {m' : Nat} (h : NumV H w x m) (hm : m' ≤ m) : NumV H w x m' := by
  rcases h with h | ⟨κ, l, row, r, h1, h2, h3, h4⟩
  · exact .inl h
  · exact .inr ⟨κ, l, row, r, by omega, h2, h3, h4⟩
theorem NumV.nonneg (h : NumV H w x m) : 0 ≤ x := by
  rcases h with ⟨_, h⟩ | ⟨κ, l, row, r, h1, h2, h3, h4⟩
  · omega
  · rw [← h4.num]; exact num_nonneg h4.limbs
theorem NumV.norm (h : NumV H w x m) {row0 : ARow} (h0 : Vh.rowAt H 0 = some row0) : AtN H w x := by
  rcases h with ⟨rfl, rfl⟩ | ⟨κ, l, row, r, h1, h2, h3, h4⟩
  · exact ⟨.nil, [], row0, 0, rfl, rfl, h0, rfl, fun i => by simp, rfl, rfl⟩
  · exact ⟨κ, l, row, r, h4.ok, h2, h3, h4.cells, h4.limbs, h4.num, h4.norm⟩
theorem AtN.at (h : AtN H w x) (hx : x < BB ^ k) : ∃ r, AtK H w x r k := by
  obtain ⟨κ, l, row, r, h1, h2, h3, h4, h5, h6, h7⟩ := h
  exact ⟨r, κ, l, row, h1, h2, h3, h4, h5, h6, norm_len h5 h7 (by rw [h6]; exact hx)⟩
theorem NumV.at (h : NumV H w x m) {row0 : ARow} (h0 : Vh.rowAt H 0 = some row0) (hx : x < BB ^ k) : ∃ r, AtK H w x r k := (h.norm h0).at hx
theorem AtK.lt_pow {v : AV} {r : Nat} (h : AtK H v x r k) : x < BB ^ k := by
  obtain ⟨κ, l, row, h1, h2, h3, h4, h5, rfl, h7⟩ := h
  exact Int.lt_of_lt_of_le (nv_bound h5 l.length).2 (BB_mono h7)
theorem rowAt_up {σ : Sig} {j : Nat} {row : ARow} (h : Vh.rowAt (H0 ++ R) (H0.length + j) = some row) (ho : row.own = true) (hf : row.cells.all AV.flat = true) : Vh.rowAt (H ++ R.map (renRow σ)) (H.length + j) = some row := by
  rw [rowAt_append_right (by omega), Nat.add_sub_cancel_left] at h
  rw [rowAt_append_right (by omega), Nat.add_sub_cancel_left, rowAt_map, h]
  simp only [renRow, ho, if_true, flatL_ren hf]
  cases row; simp only at ho; subst ho; rfl
theorem NumV.up {σ : List (Nat × Nat)} (h : NumV (H0 ++ R) w x H0.length) (hl : σ.length = H0.length) : NumV (H ++ R.map (renRow (sig σ H.length))) (w.ren (sig σ H.length)) x H.length := by
  rcases h with ⟨rfl, rfl⟩ | ⟨κ, l, row, r, h1, rfl, h3, h4⟩
  · exact .inl ⟨rfl, rfl⟩
  · obtain ⟨j, rfl⟩ : ∃ j, r = H0.length + j := ⟨r - H0.length, by omega⟩
    have hs : sig σ H.length (H0.length + j) = some (H.length + j, 0) := by
      rw [sig_ge (by omega)]
      congr 2; omega
    exact .inr ⟨κ, l, row, H.length + j, by omega, n_mkS0 hs, rowAt_up h3 h4.own h4.flat, h4⟩
end

/-! ### What a function answers -/
def UpN (x : Int) (H0 : AHeap) (v : AV) (H : AHeap) : Prop := ∃ R, H = H0 ++ R ∧ NumV H v x H0.length
def Up2 (x y : Int) (H0 : AHeap) (v : AV) (H : AHeap) : Prop := ∃ R w w2, H = H0 ++ R ∧ v = .tuple [w, w2] ∧ NumV H w x H0.length ∧ NumV H w2 y H0.length
def UpP (c : AV) (H0 : AHeap) (v : AV) (H : AHeap) : Prop := ∃ R, H = H0 ++ R ∧ v = c

/-- A function of two numbers (and plain values behind them). -/
def In2 (f : FuncId) (x y : Int) (k k' : Nat) (rest : List AV) (Q : AHeap → AV → AHeap → Prop) : Prop := ∀ (κ κ' : SK) (l l' : List Int), okS κ l.length → okS κ' l'.length → l.length ≤ k → l'.length ≤ k' → Limbs l → Limbs l' → num l = x → num l' = y →
  ∃ W, ACalls Tryd.prog f (mkS κ 0 0 l.length :: mkS κ' 1 0 l'.length :: rest) [ro (ints .u32 l), ro (ints .u32 l')] W (Q [ro (ints .u32 l), ro (ints .u32 l')])
def In1 (f : FuncId) (x : Int) (k : Nat) (rest : List AV) (Q : AHeap → AV → AHeap → Prop) : Prop := ∀ (κ : SK) (l : List Int), okS κ l.length → l.length ≤ k → Limbs l → num l = x →
  ∃ W, ACalls Tryd.prog f (mkS κ 0 0 l.length :: rest) [ro (ints .u32 l)] W (Q [ro (ints .u32 l)])

section
variable {f : FuncId} {x y z z' e : Int} {k k' a b : Nat} {u v c : AV} {rest : List AV} {K : St → AHeap → Prop} {d : Option Nat} {s : St} {H : AHeap}
theorem call_in2 {Q : AHeap → AV → AHeap → Prop} (h : In2 f x y k k' rest Q) (hr : rest.all AV.flat = true) (hu : AtK H u x a k) (hv : AtK H v y b k')
    (hK : ∀ (σ : List (Nat × Nat)) (H0 : AHeap) (v0 : AV) (H0' : AHeap), σ.length = H0.length → allRo H0 = true → Q H0 v0 H0' → K (putI d s (v0.ren (sig σ H.length))) (H ++ (H0'.drop H0.length).map (renRow (sig σ H.length)))) : thenC Tryd.prog K d s H (u :: v :: rest) (.func f []) := by
  obtain ⟨κ, l, row, h1, rfl, h3, h4, h5, h6, h7⟩ := hu
  obtain ⟨κ', l', row', k1, rfl, k3, k4, k5, k6, k7⟩ := hv
  obtain ⟨W, hc⟩ := h κ κ' l l' h1 k1 h7 k7 h5 k5 h6 k6
  refine call_do hc [(a, 0), (b, 0)] rfl ?_ (allRo_once rfl _) ?_ ⟨seen_limbs h3 h4, seen_limbs k3 k4, trivial⟩ fun v0 H0' hq => ?_
  · simp [underL, mkS_under, flatL_under hr]
  · rw [n_lcons, n_lcons, flatL_ren hr, n_mkS0 (r' := a) rfl, n_mkS0 (r' := b) rfl, List.append_nil]
  · have := hK [(a, 0), (b, 0)] [ro (ints .u32 l), ro (ints .u32 l')] v0 H0' rfl rfl hq
    rw [m_merge, m_ro, m_ro, m_nil]
    exact this
theorem call_in1 {Q : AHeap → AV → AHeap → Prop} (h : In1 f x k rest Q) (hr : rest.all AV.flat = true) (hu : AtK H u x a k)
    (hK : ∀ (σ : List (Nat × Nat)) (H0 : AHeap) (v0 : AV) (H0' : AHeap), σ.length = H0.length → allRo H0 = true → Q H0 v0 H0' → K (putI d s (v0.ren (sig σ H.length))) (H ++ (H0'.drop H0.length).map (renRow (sig σ H.length)))) : thenC Tryd.prog K d s H (u :: rest) (.func f []) := by
  obtain ⟨κ, l, row, h1, rfl, h3, h4, h5, h6, h7⟩ := hu
  obtain ⟨W, hc⟩ := h κ l h1 h7 h5 h6
  refine call_do hc [(a, 0)] rfl ?_ (allRo_once rfl _) ?_ ⟨seen_limbs h3 h4, trivial⟩ fun v0 H0' hq => ?_
  · simp [underL, mkS_under, flatL_under hr]
  · rw [n_lcons, flatL_ren hr, n_mkS0 (r' := a) rfl, List.append_nil]
  · have := hK [(a, 0)] [ro (ints .u32 l)] v0 H0' rfl rfl hq
    rw [m_merge, m_ro, m_nil]
    exact this
theorem drop_base {H0 R : AHeap} : (H0 ++ R).drop H0.length = R := List.drop_left
theorem hk_N (hK : ∀ R w, NumV (H ++ R) w z H.length → K (putI d s w) (H ++ R)) : ∀ (σ : List (Nat × Nat)) (H0 : AHeap) (v0 : AV) (H0' : AHeap), σ.length = H0.length → allRo H0 = true → UpN z H0 v0 H0' → K (putI d s (v0.ren (sig σ H.length))) (H ++ (H0'.drop H0.length).map (renRow (sig σ H.length))) := by
  rintro σ H0 v0 H0' hl _ ⟨R, rfl, hn⟩
  rw [drop_base]
  exact hK _ _ (hn.up hl)
theorem hk_2 (hK : ∀ R w w2, NumV (H ++ R) w z H.length → NumV (H ++ R) w2 z' H.length → K (putI d s (.tuple [w, w2])) (H ++ R)) : ∀ (σ : List (Nat × Nat)) (H0 : AHeap) (v0 : AV) (H0' : AHeap), σ.length = H0.length → allRo H0 = true → Up2 z z' H0 v0 H0' → K (putI d s (v0.ren (sig σ H.length))) (H ++ (H0'.drop H0.length).map (renRow (sig σ H.length))) := by
  rintro σ H0 v0 H0' hl _ ⟨R, w, w2, rfl, rfl, hn, hn2⟩
  rw [drop_base]
  exact hK _ _ _ (hn.up hl) (hn2.up hl)
theorem hk_P (hc : ∀ σ, c.ren σ = c) (hK : ∀ R, K (putI d s c) (H ++ R)) : ∀ (σ : List (Nat × Nat)) (H0 : AHeap) (v0 : AV) (H0' : AHeap), σ.length = H0.length → allRo H0 = true → UpP c H0 v0 H0' → K (putI d s (v0.ren (sig σ H.length))) (H ++ (H0'.drop H0.length).map (renRow (sig σ H.length))) := by
  rintro σ H0 v0 H0' hl _ ⟨R, rfl, rfl⟩
  rw [drop_base, hc]
  exact hK _
theorem fresh_up {H0 : AHeap} {v : AV} {H' : AHeap} (h : Fresh H0 x v H') : UpN x H0 v H' := by
  obtain ⟨κ, l, row, rfl, rfl, hn⟩ := h
  exact ⟨_, rfl, .new (by simp [Vh.rowAt]) (Nat.le_refl _) hn⟩
theorem fresh2_up {H0 : AHeap} {v : AV} {H' : AHeap} (h : Fresh2 H0 x y v H') : Up2 x y H0 v H' := by
  obtain ⟨κ, l, row, κ', l', row', rfl, rfl, hn, hn'⟩ := h
  exact ⟨_, _, _, rfl, rfl, .new (by simp [Vh.rowAt]) (Nat.le_refl _) hn, .new (r := H0.length + 1) (by simp [Vh.rowAt, List.getElem?_append_right]) (by omega) hn'⟩
end

/-! ### The parts -/
theorem in_divide {x y : Int} (hy : y ≠ 0) : In2 107 x y 100000 100000 [] (Up2 (x / y) (x % y)) := fun κ κ' l l' h1 h2 h3 h4 h5 h6 h7 h8 =>
  ⟨_, (xdivide_fresh κ κ' l l' h1 h2 h3 h4 h5 h6 (by rw [h8]; exact hy)).mono fun v H h => by rw [h7, h8] at h; exact fresh2_up h⟩
theorem in_gcd {x y : Int} : In2 72 x y 100000 100000 [] (UpN ((Nat.gcd x.toNat y.toNat : Nat) : Int)) := fun κ κ' l l' h1 h2 h3 h4 h5 h6 h7 h8 =>
  ⟨_, (xgcd_fresh κ κ' l l' h1 h2 h3 h4 h5 h6).mono fun v H h => by rw [h7, h8] at h; exact fresh_up h⟩
theorem in_compare {x y : Int} : In2 71 x y 100000 100000 [] (UpP (.int .i64 (cmpI x y))) := fun κ κ' l l' h1 h2 h3 h4 h5 h6 h7 h8 =>
  ⟨_, (xcompare_calls κ κ' l l' h1 h2 (by omega) (by omega) h5 h6).mono fun v H ⟨e1, e2⟩ => ⟨[], by rw [e2, List.append_nil], by rw [e1, h7, h8]⟩⟩
theorem tz_zero_iff {l : List Int} (h : Limbs l) : tz l l.length = 0 ↔ num l = 0 := by
  constructor
  · intro h0
    have := nv_tz l l.length
    rw [h0] at this
    exact this.symm
  · intro h0
    rcases Nat.eq_zero_or_pos (tz l l.length) with h1 | h1
    · exact h1
    · have h2 := nv_ge h (tz_last l l.length (by omega))
      rw [show tz l l.length - 1 + 1 = tz l l.length by omega, nv_tz] at h2
      have h3 : num l = nv l l.length := rfl
      have := BB_pos (tz l l.length - 1)
      omega
theorem in_isZero {x : Int} : In1 73 x 100000 [] (UpP (.bool (decide (x = 0)))) := fun κ l h1 h2 h3 h4 =>
  ⟨_, (isZero_calls κ l h1 (by omega)).mono fun v H ⟨e1, e2⟩ => ⟨[], by rw [e2, List.append_nil], by
    rw [e1]
    have := tz_zero_iff h3
    rw [h4] at this
    simp only [this]⟩⟩
end Go.Proofs.YtjmceapnhmeflaaDoor


/- Contracts: the entries of package exact, for numbers that are not too long. -/
-- NEWSET
namespace Go.Proofs.YtjmceapnhmeflaaDoor
open Go Go.Vh

/-- fit, of a number somewhere. -/
theorem call_fit {x : Int} {m k : Nat} {w : AV} {K : St → AHeap → Prop} {d : Option Nat} {s : St} {H : AHeap} {row0 : ARow} (h : NumV H w x m) (h0 : Vh.rowAt H 0 = some row0) (hx : x < BB ^ k) (hk : k ≤ 1000000)
    (hK : ∀ w', NumV H w' (if x < BB ^ 64 then x else 0) m → K (putI d s (.tuple [w', .int .i64 (if x < BB ^ 64 then 0 else 8)])) H) : thenC Tryd.prog K d s H [w] (.func 66 []) := by
  obtain ⟨κ, l, row, r, h1, rfl, h3, h4, h5, h6, h7⟩ := h.norm h0
  have hlen : l.length ≤ k := norm_len h5 h7 (by rw [h6]; exact hx)
  have h64 := norm_64 h5 h7
  rw [h6] at h64
  refine call_do (fit_calls κ l.length h1 (by omega)) [(r, 0)] rfl (by simp [underL, mkS_under]) (allRo_once rfl _) ?_ ⟨seen_ro h3 (by simp) rfl rfl, trivial⟩ ?_
  · rw [n_lcons, n_lnil, n_mkS0 (r' := r) rfl, List.append_nil]
  rintro v0 H0' ⟨rfl, rfl⟩
  rw [m_merge, m_ro, m_nil, show List.drop [ro []].length [ro []] = [] from rfl, List.map_nil, List.append_nil]
  by_cases hf : l.length ≤ 64
  · have hx64 := h64.1 hf
    rw [if_pos hf, n_tuple, n_lcons, n_lcons, n_lnil, n_int, n_mkS0 (r' := r) rfl]
    have := hK (mkS κ r 0 l.length)
    rw [if_pos hx64, if_pos hx64] at this
    exact this h
  · have hx64 : ¬ x < BB ^ 64 := fun h => hf (h64.2 h)
    rw [if_neg hf, n_tuple, n_lcons, n_lcons, n_lnil, n_int, n_nil]
    have := hK .nilslice
    rw [if_neg hx64, if_neg hx64] at this
    exact this .nil

theorem mul_pow {x y : Int} {j k : Nat} (hx0 : 0 ≤ x) (hy0 : 0 ≤ y) (hx : x < BB ^ j) (hy : y < BB ^ k) : x * y < BB ^ (j + k) := by
  rw [Int.pow_add]
  have h1 : x * y ≤ x * BB ^ k := Int.mul_le_mul_of_nonneg_left (by omega) hx0
  have h2 : x * BB ^ k < BB ^ j * BB ^ k := Int.mul_lt_mul_of_pos_right hx (BB_pos k)
  omega
end Go.Proofs.YtjmceapnhmeflaaDoor

