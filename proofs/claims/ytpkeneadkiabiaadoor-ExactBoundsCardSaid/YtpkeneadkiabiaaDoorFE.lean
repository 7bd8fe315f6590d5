/- Contracts: exact's gcd. -/
import Derived.Test.YtpkeneadkiabiaaDoorVX
import Derived.Test.YtpkeneadkiabiaaDoorF12
import Derived.Test.YtpkeneadkiabiaaDoorCD
import Derived.Test.YtpkeneadkiabiaaDoorIrB
set_option linter.unusedSimpArgs false
set_option linter.unusedVariables false
-- NEWSET
namespace Go.Proofs.YtpkeneadkiabiaaDoor
open Go Go.Vh

section
variable {P : Program} {f : FuncId} {args0 : List AV} {H0 : AHeap} {W0 : List Nat} {x y : Int} {K : St → AHeap → Prop} {d : Option Nat} {s : St} {H : AHeap} {args caps : List AV}
end

/-- A number in limbs somewhere in a heap. -/
def AtK (H : AHeap) (v : AV) (x : Int) (r k : Nat) : Prop := ∃ κ l row, okS κ l.length ∧ v = mkS κ r 0 l.length ∧ Vh.rowAt H r = some row ∧ row.cells.take l.length = ints .u32 l ∧ Limbs l ∧ num l = x ∧ l.length ≤ k
abbrev AtL (H : AHeap) (v : AV) (x : Int) (r : Nat) : Prop := AtK H v x r 100000
theorem AtK.mono {H : AHeap} {v : AV} {x : Int} {r k k' : Nat} (h : AtK H v x r k) (hk : k ≤ k') : AtK H v x r k' := by
  obtain ⟨κ, l, row, h1, h2, h3, h4, h5, h6, h7⟩ := h
  exact ⟨κ, l, row, h1, h2, h3, h4, h5, h6, Nat.le_trans h7 hk⟩
theorem AtK.lt {H : AHeap} {v : AV} {x : Int} {r k : Nat} (h : AtK H v x r k) : r < H.length := by
  obtain ⟨_, _, _, _, _, h1, _⟩ := h
  exact rowAt_lt h1
theorem AtK.keep {H H' : AHeap} {v : AV} {x : Int} {r k : Nat} (h : AtK H v x r k) (he : Vh.rowAt H' r = Vh.rowAt H r) : AtK H' v x r k := by
  obtain ⟨κ, l, row, h1, h2, h3, h4⟩ := h
  exact ⟨κ, l, row, h1, h2, by rw [he, h3], h4⟩
theorem AtK.app {H R : AHeap} {v : AV} {x : Int} {r k : Nat} (h : AtK H v x r k) : AtK (H ++ R) v x r k := h.keep (rowAt_append_left h.lt)
theorem AtK.nonneg {H : AHeap} {v : AV} {x : Int} {r k : Nat} (h : AtK H v x r k) : 0 ≤ x := by
  obtain ⟨κ, l, row, _, _, _, _, hl, rfl, _⟩ := h
  exact num_nonneg hl
theorem NewNum.at {H : AHeap} {x : Int} {κ : SK} {l : List Int} {row : ARow} {r : Nat} (h : NewNum x κ l row) (hr : Vh.rowAt H r = some row) (hl : l.length ≤ 100000) : AtL H (mkS κ r 0 l.length) x r :=
  ⟨κ, l, row, h.ok, rfl, hr, h.cells, h.limbs, h.num, hl⟩
theorem NewNum.short {x : Int} {κ : SK} {l : List Int} {row : ARow} {k : Nat} (h : NewNum x κ l row) (hx : x < BB ^ k) : l.length ≤ k := norm_len h.limbs h.norm (by rw [h.num]; exact hx)

section
variable {K : St → AHeap → Prop} {d : Option Nat} {s : St} {H : AHeap}
theorem seen_limbs {σ : Sig} {n : Nat} {r : Nat} {row : ARow} {l : List Int} (hr : Vh.rowAt H r = some row) (hc : row.cells.take l.length = ints .u32 l) : Vh.seen H σ n (ro (ints .u32 l)) (r, 0) := by
  have h := congrArg List.length hc
  simp only [List.length_take, ints_length] at h
  exact seen_ro hr (by simp only [ints_length]; omega) (by rw [ints_ren, ints_length, List.drop_zero, hc]) (flatL_under ints_flat)
end

end Go.Proofs.YtpkeneadkiabiaaDoor


/- Numbers as answers, in heaps that grow. -/
-- NEWSET
namespace Go.Proofs.YtpkeneadkiabiaaDoor
open Go Go.Vh

/-- A number as an answer: nil, or a new row at m or behind. -/
def NumV (H : AHeap) (w : AV) (x : Int) (m : Nat) : Prop := (w = .nilslice ∧ x = 0) ∨ ∃ κ l row r, m ≤ r ∧ w = mkS κ r 0 l.length ∧ Vh.rowAt H r = some row ∧ NewNum x κ l row
/-- A normal number somewhere. -/
def AtN (H : AHeap) (v : AV) (x : Int) : Prop := ∃ κ l row r, okS κ l.length ∧ v = mkS κ r 0 l.length ∧ Vh.rowAt H r = some row ∧ row.cells.take l.length = ints .u32 l ∧ Limbs l ∧ num l = x ∧ tz l l.length = l.length

section
variable {H H0 R : AHeap} {w : AV} {x y : Int} {m k : Nat}
theorem NumV.nil : NumV H .nilslice 0 m := .inl ⟨rfl, rfl⟩
theorem NumV.new {κ : SK} {l : List Int} {row : ARow} {r : Nat} (hr : Vh.rowAt H r = some row) (hm : m ≤ r) (h : NewNum x κ l row) : NumV H (mkS κ r 0 l.length) x m := .inr ⟨κ, l, row, r, hm, rfl, hr, h⟩
theorem NumV.app (h : NumV H w x m) : NumV (H ++ R) w x m := by
  rcases h with h | ⟨κ, l, row, r, h1, h2, h3, h4⟩
  · exact .inl h
  · exact .inr ⟨κ, l, row, r, h1, h2, by rw [rowAt_append_left (rowAt_lt h3)]; exact h3, h4⟩
theorem NumV.le {m' : Nat} (h : NumV H w x m) (hm : m' ≤ m) : NumV H w x m' := by
  rcases h with h | ⟨κ, l, row, r, h1, h2, h3, h4⟩
  · exact .inl h
  · exact .inr ⟨κ, l, row, r, by omega, h2, h3, h4⟩
theorem NumV.nonneg (h : NumV H w x m) : 0 ≤ x := by
  rcases h with ⟨_, h⟩ | ⟨κ, l, row, r, h1, h2, h3, h4⟩
  · omega
  · rw [← h4.num]; exact num_nonneg h4.limbs
theorem NumV.norm (h : NumV H w x m) {row0 : ARow} (h0 : Vh.rowAt H 0 = some row0) : AtN H w x := by
  rcases h with ⟨rfl, rfl⟩ | ⟨κ, l, row, r, h1, h2, h3, h4⟩
  · exact ⟨.nil, [], row0, 0, rfl, rfl, h0, rfl, fun i => by simp, rfl, rfl⟩
  · exact ⟨κ, l, row, r, h4.ok, h2, h3, h4.cells, h4.limbs, h4.num, h4.norm⟩
theorem AtN.at (h : AtN H w x) (hx : x < BB ^ k) : ∃ r, AtK H w x r k := by
  obtain ⟨κ, l, row, r, h1, h2, h3, h4, h5, h6, h7⟩ := h
  exact ⟨r, κ, l, row, h1, h2, h3, h4, h5, h6, norm_len h5 h7 (by rw [h6]; exact hx)⟩
theorem NumV.at (h : NumV H w x m) {row0 : ARow} (h0 : Vh.rowAt H 0 = some row0) (hx : x < BB ^ k) : ∃ r, AtK H w x r k := (h.norm h0).at hx
theorem AtK.lt_pow {v : AV} {r : Nat} (h : AtK H v x r k) : x < BB ^ k := by
  obtain ⟨κ, l, row, h1, h2, h3, h4, h5, rfl, h7⟩ := h
  exact Int.lt_of_lt_of_le (nv_bound h5 l.length).2 (BB_mono h7)
theorem rowAt_up {σ : Sig} {j : Nat} {row : ARow} (h : Vh.rowAt (H0 ++ R) (H0.length + j) = some row) (ho : row.own = true) (hf : row.cells.all AV.flat = true) : Vh.rowAt (H ++ R.map (renRow σ)) (H.length + j) = some row := by
  rw [rowAt_append_right (by omega), Nat.add_sub_cancel_left] at h
  rw [rowAt_append_right (by omega), Nat.add_sub_cancel_left, rowAt_map, h]
  simp only [renRow, ho, if_true, flatL_ren hf]
  cases row; simp only at ho; subst ho; rfl
theorem NumV.up {σ : List (Nat × Nat)} (h : NumV (H0 ++ R) w x H0.length) (hl : σ.length = H0.length) : NumV (H ++ R.map (renRow (sig σ H.length))) (w.ren (sig σ H.length)) x H.length := by
  rcases h with ⟨rfl, rfl⟩ | ⟨κ, l, row, r, h1, rfl, h3, h4⟩
  · exact .inl ⟨rfl, rfl⟩
  · obtain ⟨j, rfl⟩ : ∃ j, r = H0.length + j := ⟨r - H0.length, by omega⟩
    have hs : sig σ H.length (H0.length + j) = some (H.length + j, 0) := by
      rw [sig_ge (by omega)]
      congr 2; omega
    exact .inr ⟨κ, l, row, H.length + j, by omega, n_mkS0 hs, rowAt_up h3 h4.own h4.flat, h4⟩
end

/-! ### What a function answers -/
def UpN (x : Int) (H0 : AHeap) (v : AV) (H : AHeap) : Prop := ∃ R, H = H0 ++ R ∧ NumV H v x H0.length
def UpP (c : AV) (H0 : AHeap) (v : AV) (H : AHeap) : Prop := ∃ R, H = H0 ++ R ∧ v = c

/-- A function of two numbers (and plain values behind them). -/
def In2 (f : FuncId) (x y : Int) (k k' : Nat) (rest : List AV) (Q : AHeap → AV → AHeap → Prop) : Prop := ∀ (κ κ' : SK) (l l' : List Int), okS κ l.length → okS κ' l'.length → l.length ≤ k → l'.length ≤ k' → Limbs l → Limbs l' → num l = x → num l' = y →
  ∃ W, ACalls Tryd.prog f (mkS κ 0 0 l.length :: mkS κ' 1 0 l'.length :: rest) [ro (ints .u32 l), ro (ints .u32 l')] W (Q [ro (ints .u32 l), ro (ints .u32 l')])
def In1 (f : FuncId) (x : Int) (k : Nat) (rest : List AV) (Q : AHeap → AV → AHeap → Prop) : Prop := ∀ (κ : SK) (l : List Int), okS κ l.length → l.length ≤ k → Limbs l → num l = x →
  ∃ W, ACalls Tryd.prog f (mkS κ 0 0 l.length :: rest) [ro (ints .u32 l)] W (Q [ro (ints .u32 l)])

section
variable {f : FuncId} {x y z z' e : Int} {k k' a b : Nat} {u v c : AV} {rest : List AV} {K : St → AHeap → Prop} {d : Option Nat} {s : St} {H : AHeap}
theorem call_in2 {Q : AHeap → AV → AHeap → Prop} (h : In2 f x y k k' rest Q) (hr : rest.all AV.flat = true) (hu : AtK H u x a k) (hv : AtK H v y b k')
    (hK : ∀ (σ : List (Nat × Nat)) (H0 : AHeap) (v0 : AV) (H0' : AHeap), σ.length = H0.length → allRo H0 = true → Q H0 v0 H0' → K (putI d s (v0.ren (sig σ H.length))) (H ++ (H0'.drop H0.length).map (renRow (sig σ H.length)))) : thenC Tryd.prog K d s H (u :: v :: rest) (.func f []) := by
  obtain ⟨κ, l, row, h1, rfl, h3, h4, h5, h6, h7⟩ := hu
  obtain ⟨κ', l', row', k1, rfl, k3, k4, k5, k6, k7⟩ := hv
  obtain ⟨W, hc⟩ := h κ κ' l l' h1 k1 h7 k7 h5 k5 h6 k6
  refine call_do hc [(a, 0), (b, 0)] rfl ?_ (allRo_once rfl _) ?_ ⟨seen_limbs h3 h4, seen_limbs k3 k4, trivial⟩ fun v0 H0' hq => ?_
  · simp [underL, mkS_under, flatL_under hr]
  · rw [n_lcons, n_lcons, flatL_ren hr, n_mkS0 (r' := a) rfl, n_mkS0 (r' := b) rfl, List.append_nil]
  · have := hK [(a, 0), (b, 0)] [ro (ints .u32 l), ro (ints .u32 l')] v0 H0' rfl rfl hq
    rw [m_merge, m_ro, m_ro, m_nil]
    exact this
theorem call_in1 {Q : AHeap → AV → AHeap → Prop} (h : In1 f x k rest Q) (hr : rest.all AV.flat = true) (hu : AtK H u x a k)
    (hK : ∀ (σ : List (Nat × Nat)) (H0 : AHeap) (v0 : AV) (H0' : AHeap), σ.length = H0.length → allRo H0 = true → Q H0 v0 H0' → K (putI d s (v0.ren (sig σ H.length))) (H ++ (H0'.drop H0.length).map (renRow (sig σ H.length)))) : thenC Tryd.prog K d s H (u :: rest) (.func f []) := by
  obtain ⟨κ, l, row, h1, rfl, h3, h4, h5, h6, h7⟩ := hu
  obtain ⟨W, hc⟩ := h κ l h1 h7 h5 h6
  refine call_do hc [(a, 0)] rfl ?_ (allRo_once rfl _) ?_ ⟨seen_limbs h3 h4, trivial⟩ fun v0 H0' hq => ?_
  · simp [underL, mkS_under, flatL_under hr]
  · rw [n_lcons, flatL_ren hr, n_mkS0 (r' := a) rfl, List.append_nil]
  · have := hK [(a, 0)] [ro (ints .u32 l)] v0 H0' rfl rfl hq
    rw [m_merge, m_ro, m_nil]
    exact this
theorem drop_base {H0 R : AHeap} : (H0 ++ R).drop H0.length = R := List.drop_left
theorem hk_N (hK : ∀ R w, NumV (H ++ R) w z H.length → K (putI d s w) (H ++ R)) : ∀ (σ : List (Nat × Nat)) (H0 : AHeap) (v0 : AV) (H0' : AHeap), σ.length = H0.length → allRo H0 = true → UpN z H0 v0 H0' → K (putI d s (v0.ren (sig σ H.length))) (H ++ (H0'.drop H0.length).map (renRow (sig σ H.length))) := by
  rintro σ H0 v0 H0' hl _ ⟨R, rfl, hn⟩
  rw [drop_base]
  exact hK _ _ (hn.up hl)
theorem hk_P (hc : ∀ σ, c.ren σ = c) (hK : ∀ R, K (putI d s c) (H ++ R)) : ∀ (σ : List (Nat × Nat)) (H0 : AHeap) (v0 : AV) (H0' : AHeap), σ.length = H0.length → allRo H0 = true → UpP c H0 v0 H0' → K (putI d s (v0.ren (sig σ H.length))) (H ++ (H0'.drop H0.length).map (renRow (sig σ H.length))) := by
  rintro σ H0 v0 H0' hl _ ⟨R, rfl, rfl⟩
  rw [drop_base, hc]
  exact hK _
theorem fresh_up {H0 : AHeap} {v : AV} {H' : AHeap} (h : Fresh H0 x v H') : UpN x H0 v H' := by
  obtain ⟨κ, l, row, rfl, rfl, hn⟩ := h
  exact ⟨_, rfl, .new (by simp [Vh.rowAt]) (Nat.le_refl _) hn⟩
end

/-! ### The parts -/
theorem in_add {x y : Int} : In2 88 x y 100000 100000 [] (UpN (x + y)) := fun κ κ' l l' h1 h2 h3 h4 h5 h6 h7 h8 =>
  ⟨_, (xadd_fresh κ κ' l l' h1 h2 (by omega) (by omega) h5 h6).mono fun v H h => by rw [h7, h8] at h; exact fresh_up h⟩
theorem in_mul {x y : Int} : In2 82 x y 100000 100000 [] (UpN (x * y)) := fun κ κ' l l' h1 h2 h3 h4 h5 h6 h7 h8 =>
  ⟨_, (xmul_fresh κ κ' l l' h1 h2 (by omega) (by omega) h5 h6).mono fun v H h => by rw [h7, h8] at h; exact fresh_up h⟩
theorem in_compare {x y : Int} : In2 71 x y 100000 100000 [] (UpP (.int .i64 (cmpI x y))) := fun κ κ' l l' h1 h2 h3 h4 h5 h6 h7 h8 =>
  ⟨_, (xcompare_calls κ κ' l l' h1 h2 (by omega) (by omega) h5 h6).mono fun v H ⟨e1, e2⟩ => ⟨[], by rw [e2, List.append_nil], by rw [e1, h7, h8]⟩⟩
theorem tz_zero_iff {l : List Int} (h : Limbs l) : tz l l.length = 0 ↔ num l = 0 := by
  constructor
  · intro h0
    have := nv_tz l l.length
    rw [h0] at this
    exact this.symm
  · intro h0
    rcases Nat.eq_zero_or_pos (tz l l.length) with h1 | h1
    · exact h1
    · have h2 := nv_ge h (tz_last l l.length (by omega))
      rw [show tz l l.length - 1 + 1 = tz l l.length by omega, nv_tz] at h2
      have h3 : num l = nv l l.length := rfl
      have := BB_pos (tz l l.length - 1)
      omega
theorem in_isZero {x : Int} : In1 73 x 100000 [] (UpP (.bool (decide (x = 0)))) := fun κ l h1 h2 h3 h4 =>
  ⟨_, (isZero_calls κ l h1 (by omega)).mono fun v H ⟨e1, e2⟩ => ⟨[], by rw [e2, List.append_nil], by
    rw [e1]
    have := tz_zero_iff h3
    rw [h4] at this
    simp only [this]⟩⟩
end Go.Proofs.YtpkeneadkiabiaaDoor


/- Contracts: the entries of package exact, for numbers that are not too long. -/
-- NEWSET
namespace Go.Proofs.YtpkeneadkiabiaaDoor
open Go Go.Vh

theorem mul_pow {x y : Int} {j k : Nat} (hx0 : 0 ≤ x) (hy0 : 0 ≤ y) (hx : x < BB ^ j) (hy : y < BB ^ k) : x * y < BB ^ (j + k) := by
  rw [Int.pow_add]
  have h1 : x * y ≤ x * BB ^ k := Int.mul_le_mul_of_nonneg_left (by omega) hx0
  have h2 : x * BB ^ k < BB ^ j * BB ^ k := Int.mul_lt_mul_of_pos_right hx (BB_pos k)
  omega
end Go.Proofs.YtpkeneadkiabiaaDoor

