/- Numbers as answers, in heaps that grow. -/
import Derived.Test.YthbhljolpnbdlaaVX
import Derived.Test.YthbhljolpnbdlaaPE
import Derived.Test.YthbhljolpnbdlaaV8
import Derived.Test.YthbhljolpnbdlaaChecked
set_option linter.unusedSimpArgs false
set_option linter.unusedVariables false
-- NEWSET
namespace Go.Proofs.Ythbhljolpnbdlaa.S1
open Go Go.Vh

/-- A number as an answer: nil, or a new row at m or behind. -/
def NumV (H : AHeap) (w : AV) (x : Int) (m : Nat) : Prop := (w = .nilslice ∧ x = 0) ∨ ∃ κ l row r, m ≤ r ∧ w = mkS κ r 0 l.length ∧ Vh.rowAt H r = some row ∧ NewNum x κ l row
/-- A normal number somewhere. -/
def AtN (H : AHeap) (v : AV) (x : Int) : Prop := ∃ κ l row r, okS κ l.length ∧ v = mkS κ r 0 l.length ∧ Vh.rowAt H r = some row ∧ row.cells.take l.length = ints .u32 l ∧ Limbs l ∧ num l = x ∧ tz l l.length = l.length

section
variable {H H0 R : AHeap} {w : AV} {x y : Int} {m k : Nat}
theorem NumV.nil : NumV H .nilslice 0 m := .inl ⟨rfl, rfl⟩
theorem NumV.new {κ : SK} {l : List Int} {row : ARow} {r : Nat} (hr : Vh.rowAt H r = some row) (hm : m ≤ r) (h : NewNum x κ l row) : NumV H (mkS κ r 0 l.length) x m := .inr ⟨κ, l, row, r, hm, rfl, hr, h⟩
theorem NumV.app (h : NumV H w x m) : NumV (H ++ R) w x m := by
  rcases h with h | ⟨κ, l, row, r, h1, h2, h3, h4⟩
  · exact .inl h
  · exact .inr ⟨κ, l, row, r, h1, h2, by rw [rowAt_append_left (rowAt_lt h3)]; exact h3, h4⟩
theorem NumV.le {m' : Nat} (h : NumV H w x m) (hm : m' ≤ m) : NumV H w x m' := by
  rcases h with h | ⟨κ, l, row, r, h1, h2, h3, h4⟩
  · exact .inl h
  · exact .inr ⟨κ, l, row, r, by omega, h2, h3, h4⟩
theorem NumV.nonneg (h : NumV H w x m) : 0 ≤ x := by
  rcases h with ⟨_, h⟩ | ⟨κ, l, row, r, h1, h2, h3, h4⟩
  · omega
  · rw [← h4.num]; exact num_nonneg h4.limbs
theorem NumV.norm (h : NumV H w x m) {row0 : ARow} (h0 : Vh.rowAt H 0 = some row0) : AtN H w x := by
  rcases h with ⟨rfl, rfl⟩ | ⟨κ, l, row, r, h1, h2, h3, h4⟩
  · exact ⟨.nil, [], row0, 0, rfl, rfl, h0, rfl, fun i => by simp, rfl, rfl⟩
  · exact ⟨κ, l, row, r, h4.ok, h2, h3, h4.cells, h4.limbs, h4.num, h4.norm⟩
theorem AtN.at (h : AtN H w x) (hx : x < BB ^ k) : ∃ r, AtK H w x r k := by
  obtain ⟨κ, l, row, r, h1, h2, h3, h4, h5, h6, h7⟩ := h
  exact ⟨r, κ, l, row, h1, h2, h3, h4, h5, h6, norm_len h5 h7 (by rw [h6]; exact hx)⟩
theorem NumV.at (h : NumV H w x m) {row0 : ARow} (h0 : Vh.rowAt H 0 = some row0) (hx : x < BB ^ k) : ∃ r, AtK H w x r k := (h.norm h0).at hx
theorem AtK.lt_pow {v : AV} {r : Nat} (h : AtK H v x r k) : x < BB ^ k := by
  obtain ⟨κ, l, row, h1, h2, h3, h4, h5, rfl, h7⟩ := h
  exact Int.lt_of_lt_of_le (nv_bound h5 l.length).2 (BB_mono h7)
theorem rowAt_up {σ : Sig} {j : Nat} {row : ARow} (h : Vh.rowAt (H0 ++ R) (H0.length + j) = some row) (ho : row.own = true) (hf : row.cells.all AV.flat = true) : Vh.rowAt (H ++ R.map (renRow σ)) (H.length + j) = some row := by
  rw [rowAt_append_right (by omega), Nat.add_sub_cancel_left] at h
  rw [rowAt_append_right (by omega), Nat.add_sub_cancel_left, rowAt_map, h]
  simp only [renRow, ho, if_true, flatL_ren hf]
  cases row; simp only at ho; subst ho; rfl
theorem NumV.up {σ : List (Nat × Nat)} (h : NumV (H0 ++ R) w x H0.length) (hl : σ.length = H0.length) : NumV (H ++ R.map (renRow (sig σ H.length))) (w.ren (sig σ H.length)) x H.length := by
  rcases h with ⟨rfl, rfl⟩ | ⟨κ, l, row, r, h1, rfl, h3, h4⟩
  · exact .inl ⟨rfl, rfl⟩
  · obtain ⟨j, rfl⟩ : ∃ j, r = H0.length + j := ⟨r - H0.length, by omega⟩
    have hs : sig σ H.length (H0.length + j) = some (H.length + j, 0) := by
      rw [sig_ge (by omega)]
      congr 2; omega
    exact .inr ⟨κ, l, row, H.length + j, by omega, n_mkS0 hs, rowAt_up h3 h4.own h4.flat, h4⟩
end

/-! ### What a function answers -/
def UpN (x : Int) (H0 : AHeap) (v : AV) (H : AHeap) : Prop := ∃ R, H = H0 ++ R ∧ NumV H v x H0.length
def UpP (c : AV) (H0 : AHeap) (v : AV) (H : AHeap) : Prop := ∃ R, H = H0 ++ R ∧ v = c

/-- A function of two numbers (and plain values behind them). -/
def In2 (f : FuncId) (x y : Int) (k k' : Nat) (rest : List AV) (Q : AHeap → AV → AHeap → Prop) : Prop := ∀ (κ κ' : SK) (l l' : List Int), okS κ l.length → okS κ' l'.length → l.length ≤ k → l'.length ≤ k' → Limbs l → Limbs l' → num l = x → num l' = y →
  ∃ W, ACalls Try.prog f (mkS κ 0 0 l.length :: mkS κ' 1 0 l'.length :: rest) [ro (ints .u32 l), ro (ints .u32 l')] W (Q [ro (ints .u32 l), ro (ints .u32 l')])
def In1 (f : FuncId) (x : Int) (k : Nat) (rest : List AV) (Q : AHeap → AV → AHeap → Prop) : Prop := ∀ (κ : SK) (l : List Int), okS κ l.length → l.length ≤ k → Limbs l → num l = x →
  ∃ W, ACalls Try.prog f (mkS κ 0 0 l.length :: rest) [ro (ints .u32 l)] W (Q [ro (ints .u32 l)])

section
variable {f : FuncId} {x y z z' e : Int} {k k' a b : Nat} {u v c : AV} {rest : List AV} {K : St → AHeap → Prop} {d : Option Nat} {s : St} {H : AHeap}
theorem call_in2 {Q : AHeap → AV → AHeap → Prop} (h : In2 f x y k k' rest Q) (hr : rest.all AV.flat = true) (hu : AtK H u x a k) (hv : AtK H v y b k')
    (hK : ∀ (σ : List (Nat × Nat)) (H0 : AHeap) (v0 : AV) (H0' : AHeap), σ.length = H0.length → allRo H0 = true → Q H0 v0 H0' → K (putI d s (v0.ren (sig σ H.length))) (H ++ (H0'.drop H0.length).map (renRow (sig σ H.length)))) : thenC Try.prog K d s H (u :: v :: rest) (.func f []) := by
  obtain ⟨κ, l, row, h1, rfl, h3, h4, h5, h6, h7⟩ := hu
  obtain ⟨κ', l', row', k1, rfl, k3, k4, k5, k6, k7⟩ := hv
  obtain ⟨W, hc⟩ := h κ κ' l l' h1 k1 h7 k7 h5 k5 h6 k6
  refine call_do hc [(a, 0), (b, 0)] rfl ?_ (allRo_once rfl _) ?_ ⟨seen_limbs h3 h4, seen_limbs k3 k4, trivial⟩ fun v0 H0' hq => ?_
  · simp [underL, mkS_under, flatL_under hr]
  · rw [n_lcons, n_lcons, flatL_ren hr, n_mkS0 (r' := a) rfl, n_mkS0 (r' := b) rfl, List.append_nil]
  · have := hK [(a, 0), (b, 0)] [ro (ints .u32 l), ro (ints .u32 l')] v0 H0' rfl rfl hq
    rw [m_merge, m_ro, m_ro, m_nil]
    exact this
theorem call_in1 {Q : AHeap → AV → AHeap → Prop} (h : In1 f x k rest Q) (hr : rest.all AV.flat = true) (hu : AtK H u x a k)
    (hK : ∀ (σ : List (Nat × Nat)) (H0 : AHeap) (v0 : AV) (H0' : AHeap), σ.length = H0.length → allRo H0 = true → Q H0 v0 H0' → K (putI d s (v0.ren (sig σ H.length))) (H ++ (H0'.drop H0.length).map (renRow (sig σ H.length)))) : thenC Try.prog K d s H (u :: rest) (.func f []) := by
  obtain ⟨κ, l, row, h1, rfl, h3, h4, h5, h6, h7⟩ := hu
  obtain ⟨W, hc⟩ := h κ l h1 h7 h5 h6
  refine call_do hc [(a, 0)] rfl ?_ (allRo_once rfl _) ?_ ⟨seen_limbs h3 h4, trivial⟩ fun v0 H0' hq => ?_
  · simp [underL, mkS_under, flatL_under hr]
  · rw [n_lcons, flatL_ren hr, n_mkS0 (r' := a) rfl, List.append_nil]
  · have := hK [(a, 0)] [ro (ints .u32 l)] v0 H0' rfl rfl hq
    rw [m_merge, m_ro, m_nil]
    exact this
theorem drop_base {H0 R : AHeap} : (H0 ++ R).drop H0.length = R := List.drop_left
theorem hk_N (hK : ∀ R w, NumV (H ++ R) w z H.length → K (putI d s w) (H ++ R)) : ∀ (σ : List (Nat × Nat)) (H0 : AHeap) (v0 : AV) (H0' : AHeap), σ.length = H0.length → allRo H0 = true → UpN z H0 v0 H0' → K (putI d s (v0.ren (sig σ H.length))) (H ++ (H0'.drop H0.length).map (renRow (sig σ H.length))) := by
  rintro σ H0 v0 H0' hl _ ⟨R, rfl, hn⟩
  rw [drop_base]
  exact hK _ _ (hn.up hl)
theorem hk_P (hc : ∀ σ, c.ren σ = c) (hK : ∀ R, K (putI d s c) (H ++ R)) : ∀ (σ : List (Nat × Nat)) (H0 : AHeap) (v0 : AV) (H0' : AHeap), σ.length = H0.length → allRo H0 = true → UpP c H0 v0 H0' → K (putI d s (v0.ren (sig σ H.length))) (H ++ (H0'.drop H0.length).map (renRow (sig σ H.length))) := by
  rintro σ H0 v0 H0' hl _ ⟨R, rfl, rfl⟩
  rw [drop_base, hc]
  exact hK _
theorem fresh_up {H0 : AHeap} {v : AV} {H' : AHeap} (h : Fresh H0 x v H') : UpN x H0 v H' := by
  obtain ⟨κ, l, row, rfl, rfl, hn⟩ := h
  exact ⟨_, rfl, .new (by simp [Vh.rowAt]) (Nat.le_refl _) hn⟩
end

/-! ### The parts -/
theorem in_add {x y : Int} : In2 139 x y 100000 100000 [] (UpN (x + y)) := fun κ κ' l l' h1 h2 h3 h4 h5 h6 h7 h8 =>
  ⟨_, (xadd_fresh κ κ' l l' h1 h2 (by omega) (by omega) h5 h6).mono fun v H h => by rw [h7, h8] at h; exact fresh_up h⟩
theorem in_mul {x y : Int} : In2 112 x y 100000 100000 [] (UpN (x * y)) := fun κ κ' l l' h1 h2 h3 h4 h5 h6 h7 h8 =>
  ⟨_, (xmul_fresh κ κ' l l' h1 h2 (by omega) (by omega) h5 h6).mono fun v H h => by rw [h7, h8] at h; exact fresh_up h⟩
theorem in_compare {x y : Int} : In2 111 x y 100000 100000 [] (UpP (.int .i64 (cmpI x y))) := fun κ κ' l l' h1 h2 h3 h4 h5 h6 h7 h8 =>
  ⟨_, (xcompare_calls κ κ' l l' h1 h2 (by omega) (by omega) h5 h6).mono fun v H ⟨e1, e2⟩ => ⟨[], by rw [e2, List.append_nil], by rw [e1, h7, h8]⟩⟩
theorem tz_zero_iff {l : List Int} (h : Limbs l) : tz l l.length = 0 ↔ num l = 0 := by
  constructor
  · intro h0
    have := nv_tz l l.length
    rw [h0] at this
    exact this.symm
  · intro h0
    rcases Nat.eq_zero_or_pos (tz l l.length) with h1 | h1
    · exact h1
    · have h2 := nv_ge h (tz_last l l.length (by omega))
      rw [show tz l l.length - 1 + 1 = tz l l.length by omega, nv_tz] at h2
      have h3 : num l = nv l l.length := rfl
      have := BB_pos (tz l l.length - 1)
      omega
theorem in_isZero {x : Int} : In1 135 x 100000 [] (UpP (.bool (decide (x = 0)))) := fun κ l h1 h2 h3 h4 =>
  ⟨_, (isZero_calls κ l h1 (by omega)).mono fun v H ⟨e1, e2⟩ => ⟨[], by rw [e2, List.append_nil], by
    rw [e1]
    have := tz_zero_iff h3
    rw [h4] at this
    simp only [this]⟩⟩
end Go.Proofs.Ythbhljolpnbdlaa.S1



/- Contracts: the entries of package exact, for numbers that are not too long. -/
-- NEWSET
namespace Go.Proofs.Ythbhljolpnbdlaa.S1
open Go Go.Vh

theorem mul_pow {x y : Int} {j k : Nat} (hx0 : 0 ≤ x) (hy0 : 0 ≤ y) (hx : x < BB ^ j) (hy : y < BB ^ k) : x * y < BB ^ (j + k) := by
  rw [Int.pow_add]
  have h1 : x * y ≤ x * BB ^ k := Int.mul_le_mul_of_nonneg_left (by omega) hx0
  have h2 : x * BB ^ k < BB ^ j * BB ^ k := Int.mul_lt_mul_of_pos_right hx (BB_pos k)
  omega
end Go.Proofs.Ythbhljolpnbdlaa.S1



/- Contracts: Norm, Bits; the law's short, add, mul. -/
-- NEWSET
namespace Go.Proofs.Ythbhljolpnbdlaa.S1
open Go Go.Vh

section
variable {K : St → AHeap → Prop} {d : Option Nat} {s : St} {H : AHeap}
end

/-! ### The law's own -/
end Go.Proofs.Ythbhljolpnbdlaa.S1



/- Texts of code of this program, checked against its dump. -/
namespace Go.Proofs.Ythbhljolpnbdlaa.S1
open Go Go.Vh
def ir_checkFracs : IR := (.seq (.ops [⟨(some 2), none, (.pure (.move (.c (.int .i64 0))))⟩]) (.seq (.seq (.ops [⟨(some 8), none, (.pure (.move (.t 0)))⟩, ⟨(some 9), none, (.pure (.len (.t 8)))⟩, ⟨(some 10), none, (.pure (.move (.c (.int .i64 0))))⟩]) (.block 0 (.loop (.seq (.ops [⟨(some 11), none, (.pure (.bin .lss (.t 10) (.t 9)))⟩]) (.seq (.cond (.t 11) .skip (.exit 0)) (.seq (.block 1 (.seq (.ops [⟨(some 12), none, (.pure (.indexAddr 2 (.t 8) (.t 10)))⟩, ⟨(some 13), none, (.eff (.loadN 2 (.t 12)))⟩, ⟨(some 4), none, (.eff (.alloc [.nilslice, .nilslice]))⟩, ⟨none, none, (.eff (.store 2 (.t 4) (.t 13)))⟩]) (.seq (.ops [⟨(some 14), none, (.pure (.fieldAddr 0 (.t 4)))⟩, ⟨(some 15), none, (.eff (.load1 (.t 14)))⟩, ⟨(some 16), none, (.pure (.fieldAddr 1 (.t 4)))⟩, ⟨(some 17), none, (.eff (.load1 (.t 16)))⟩, ⟨(some 18), none, (.eff (.buildSlice 2 [.nilslice, .nilslice] [(0, (1, (.t 15))), (1, (1, (.t 17)))]))⟩, ⟨(some 19), none, (.call (.c (.func 134 [])) [(.t 18)])⟩, ⟨(some 5), none, (.pure (.move (.t 19)))⟩]) (.seq (.ops [⟨(some 20), none, (.pure (.move (.t 5)))⟩, ⟨(some 21), none, (.pure (.bin .neq (.t 20) (.c (.int .i64 0))))⟩]) (.cond (.t 21) (.seq (.ops [⟨(some 22), none, (.pure (.move (.t 5)))⟩, ⟨(some 2), none, (.pure (.move (.t 22)))⟩]) .ret) .skip))))) (.ops [⟨(some 23), none, (.pure (.bin .add (.t 10) (.c (.int .i64 1))))⟩, ⟨(some 10), none, (.pure (.move (.t 23)))⟩]))))))) (.seq (.seq (.ops [⟨(some 24), none, (.pure (.move (.t 0)))⟩, ⟨(some 25), none, (.pure (.len (.t 24)))⟩, ⟨(some 26), none, (.pure (.move (.c (.int .i64 0))))⟩]) (.block 2 (.loop (.seq (.ops [⟨(some 27), none, (.pure (.bin .lss (.t 26) (.t 25)))⟩]) (.seq (.cond (.t 27) .skip (.exit 2)) (.seq (.block 3 (.seq (.ops [⟨(some 28), none, (.pure (.indexAddr 2 (.t 24) (.t 26)))⟩, ⟨(some 29), none, (.eff (.loadN 2 (.t 28)))⟩, ⟨(some 7), none, (.eff (.alloc [.nilslice, .nilslice]))⟩, ⟨none, none, (.eff (.store 2 (.t 7) (.t 29)))⟩]) (.seq (.ops [⟨(some 30), none, (.pure (.fieldAddr 1 (.t 7)))⟩, ⟨(some 31), none, (.eff (.load1 (.t 30)))⟩, ⟨(some 32), none, (.call (.c (.func 135 [])) [(.t 31)])⟩]) (.cond (.t 32) (.seq (.ops [⟨(some 2), none, (.pure (.move (.c (.int .i64 7))))⟩]) .ret) .skip)))) (.ops [⟨(some 33), none, (.pure (.bin .add (.t 26) (.c (.int .i64 1))))⟩, ⟨(some 26), none, (.pure (.move (.t 33)))⟩]))))))) (.seq (.ops [⟨(some 2), none, (.pure (.move (.c (.int .i64 0))))⟩]) .ret))))
def rs_checkFracs : List IRes := [(.tmp 2)]
theorem ir_checkFracs_ok : (Func.body Try.f109).bind (irOf Try.prog Try.f109.ntmps) = some ir_checkFracs := by kernel_rfl
theorem rs_checkFracs_ok : Try.f109.results.toList.mapM (resOf Try.prog) = some rs_checkFracs := by kernel_rfl
theorem ent_checkFracs : enters Try.prog 109 = true := by kernel_rfl

def ir_xFracCompare : IR := (.seq (.ops [⟨(some 2), none, (.eff (.box (.t 0)))⟩, ⟨(some 3), none, (.eff (.box (.t 1)))⟩, ⟨(some 4), none, (.pure (.move (.c (.int .i64 0))))⟩, ⟨(some 5), none, (.pure (.move (.c (.int .i64 0))))⟩]) (.seq (.seq (.ops [⟨(some 7), none, (.eff (.loadN 2 (.t 2)))⟩, ⟨(some 8), none, (.eff (.loadN 2 (.t 3)))⟩, ⟨(some 9), none, (.eff (.buildSlice 2 [.nilslice, .nilslice, .nilslice, .nilslice] [(0, (2, (.t 7))), (2, (2, (.t 8)))]))⟩, ⟨(some 10), none, (.call (.c (.func 109 [])) [(.t 9)])⟩, ⟨(some 6), none, (.pure (.move (.t 10)))⟩]) (.seq (.ops [⟨(some 11), none, (.pure (.move (.t 6)))⟩, ⟨(some 12), none, (.pure (.bin .neq (.t 11) (.c (.int .i64 0))))⟩]) (.cond (.t 12) (.seq (.ops [⟨(some 13), none, (.pure (.move (.t 6)))⟩, ⟨(some 4), none, (.pure (.move (.c (.int .i64 0))))⟩, ⟨(some 5), none, (.pure (.move (.t 13)))⟩]) .ret) .skip))) (.seq (.dops [⟨⟨(some 14), none, (.pure (.fieldAddr 0 (.t 2)))⟩, 0, 0⟩, ⟨⟨(some 15), none, (.eff (.load1 (.t 14)))⟩, 1, 1⟩, ⟨⟨(some 16), none, (.pure (.fieldAddr 1 (.t 3)))⟩, 2, 0⟩, ⟨⟨(some 17), none, (.eff (.load1 (.t 16)))⟩, 3, 1⟩, ⟨⟨(some 19), none, (.pure (.fieldAddr 0 (.t 3)))⟩, 5, 0⟩, ⟨⟨(some 20), none, (.eff (.load1 (.t 19)))⟩, 6, 1⟩, ⟨⟨(some 21), none, (.pure (.fieldAddr 1 (.t 2)))⟩, 7, 0⟩, ⟨⟨(some 22), none, (.eff (.load1 (.t 21)))⟩, 8, 1⟩, ⟨⟨(some 18), none, (.call (.c (.func 112 [])) [(.t 15), (.t 17)])⟩, 4, 2⟩, ⟨⟨(some 23), none, (.call (.c (.func 112 [])) [(.t 20), (.t 22)])⟩, 9, 3⟩, ⟨⟨(some 24), none, (.call (.c (.func 111 [])) [(.t 18), (.t 23)])⟩, 10, 3⟩, ⟨⟨(some 4), none, (.pure (.move (.t 24)))⟩, 11, 0⟩, ⟨⟨(some 5), none, (.pure (.move (.c (.int .i64 0))))⟩, 12, 0⟩]) .ret)))
def rs_xFracCompare : List IRes := [(.tmp 4), (.tmp 5)]
theorem ir_xFracCompare_ok : (Func.body Try.f78).bind (irOf Try.prog Try.f78.ntmps) = some ir_xFracCompare := by kernel_rfl
theorem rs_xFracCompare_ok : Try.f78.results.toList.mapM (resOf Try.prog) = some rs_xFracCompare := by kernel_rfl
theorem ent_xFracCompare : enters Try.prog 78 = true := by kernel_rfl

def ir_samplesWith : IR := (.seq (.ops [⟨(some 8), none, (.pure (.move (.c .nilslice)))⟩]) (.seq (.ops [⟨(some 15), none, (.pure (.move (.t 0)))⟩, ⟨(some 16), none, (.pure (.move (.t 1)))⟩, ⟨(some 17), none, (.pure (.bin .sub (.t 15) (.t 16)))⟩, ⟨(some 9), none, (.pure (.move (.t 17)))⟩]) (.seq (.ops [⟨(some 18), none, (.pure (.move (.t 2)))⟩, ⟨(some 19), none, (.pure (.move (.t 9)))⟩, ⟨(some 20), none, (.pure (.bin .sub (.t 18) (.t 19)))⟩, ⟨(some 21), none, (.pure (.minmax true (.c (.int .i64 0)) (.t 20)))⟩, ⟨(some 10), none, (.pure (.move (.t 21)))⟩]) (.seq (.ops [⟨(some 22), none, (.pure (.move (.t 3)))⟩, ⟨(some 23), none, (.pure (.move (.t 1)))⟩, ⟨(some 24), none, (.pure (.move (.t 2)))⟩, ⟨(some 25), none, (.pure (.minmaxL false [(.t 22), (.t 23), (.t 24)]))⟩, ⟨(some 11), none, (.pure (.move (.t 25)))⟩]) (.seq (.seq (.ops [⟨(some 26), none, (.pure (.move (.t 11)))⟩, ⟨(some 27), none, (.pure (.move (.t 10)))⟩, ⟨(some 28), none, (.pure (.bin .lss (.t 26) (.t 27)))⟩]) (.cond (.t 28) (.seq (.ops [⟨(some 8), none, (.pure (.move (.c .nilslice)))⟩]) .ret) .skip)) (.seq (.ops [⟨(some 29), none, (.pure (.move (.t 1)))⟩, ⟨(some 30), none, (.pure (.move (.t 10)))⟩, ⟨(some 31), none, (.call (.c (.func 113 [])) [(.t 29), (.t 30)])⟩, ⟨(some 32), none, (.pure (.move (.t 9)))⟩, ⟨(some 33), none, (.pure (.move (.t 2)))⟩, ⟨(some 34), none, (.pure (.move (.t 10)))⟩, ⟨(some 35), none, (.pure (.bin .sub (.t 33) (.t 34)))⟩, ⟨(some 36), none, (.call (.c (.func 113 [])) [(.t 32), (.t 35)])⟩, ⟨(some 37), none, (.call (.c (.func 112 [])) [(.t 31), (.t 36)])⟩, ⟨(some 12), none, (.pure (.move (.t 37)))⟩]) (.seq (.ops [⟨(some 38), none, (.pure (.move (.t 12)))⟩, ⟨(some 13), none, (.pure (.move (.t 38)))⟩]) (.seq (.seq (.ops [⟨(some 39), none, (.pure (.move (.t 10)))⟩, ⟨(some 14), none, (.pure (.move (.t 39)))⟩]) (.block 0 (.loop (.seq (.seq (.ops [⟨(some 40), none, (.pure (.move (.t 14)))⟩, ⟨(some 41), none, (.pure (.move (.t 11)))⟩, ⟨(some 42), none, (.pure (.bin .lss (.t 40) (.t 41)))⟩]) (.cond (.t 42) .skip (.exit 0))) (.seq (.block 1 (.seq (.ops [⟨(some 45), none, (.pure (.move (.t 12)))⟩, ⟨(some 46), none, (.pure (.move (.t 1)))⟩, ⟨(some 47), none, (.pure (.move (.t 14)))⟩, ⟨(some 48), none, (.pure (.bin .sub (.t 46) (.t 47)))⟩, ⟨(some 49), none, (.pure (.move (.t 2)))⟩, ⟨(some 50), none, (.pure (.move (.t 14)))⟩, ⟨(some 51), none, (.pure (.bin .sub (.t 49) (.t 50)))⟩, ⟨(some 52), none, (.pure (.bin .mul (.t 48) (.t 51)))⟩, ⟨(some 53), none, (.pure (.move (.t 14)))⟩, ⟨(some 54), none, (.pure (.bin .add (.t 53) (.c (.int .i64 1))))⟩, ⟨(some 55), none, (.pure (.move (.t 9)))⟩, ⟨(some 56), none, (.pure (.move (.t 2)))⟩, ⟨(some 57), none, (.pure (.bin .sub (.t 55) (.t 56)))⟩, ⟨(some 58), none, (.pure (.move (.t 14)))⟩, ⟨(some 59), none, (.pure (.bin .add (.t 57) (.t 58)))⟩, ⟨(some 60), none, (.pure (.bin .add (.t 59) (.c (.int .i64 1))))⟩, ⟨(some 61), none, (.pure (.bin .mul (.t 54) (.t 60)))⟩, ⟨(some 62), none, (.call (.c (.func 138 [])) [(.t 45), (.t 52), (.t 61)])⟩, ⟨(some 12), none, (.pure (.move (.t 62)))⟩]) (.ops [⟨(some 63), none, (.pure (.move (.t 13)))⟩, ⟨(some 64), none, (.pure (.move (.t 12)))⟩, ⟨(some 65), none, (.call (.c (.func 139 [])) [(.t 63), (.t 64)])⟩, ⟨(some 13), none, (.pure (.move (.t 65)))⟩]))) (.ops [⟨(some 43), none, (.pure (.move (.t 14)))⟩, ⟨(some 44), none, (.pure (.bin .add (.t 43) (.c (.int .i64 1))))⟩, ⟨(some 14), none, (.pure (.move (.t 44)))⟩])))))) (.seq (.ops [⟨(some 66), none, (.pure (.move (.t 13)))⟩, ⟨(some 8), none, (.pure (.move (.t 66)))⟩]) .ret)))))))))
def rs_samplesWith : List IRes := [(.tmp 8)]
theorem ir_samplesWith_ok : (Func.body Try.f115).bind (irOf Try.prog Try.f115.ntmps) = some ir_samplesWith := by kernel_rfl
theorem rs_samplesWith_ok : Try.f115.results.toList.mapM (resOf Try.prog) = some rs_samplesWith := by kernel_rfl
theorem ent_samplesWith : enters Try.prog 115 = true := by kernel_rfl

end Go.Proofs.Ythbhljolpnbdlaa.S1



/- Contracts: firstError; numbers above a base of rows. -/
-- NEWSET
namespace Go.Proofs.Ythbhljolpnbdlaa.S1
open Go Go.Vh

section
variable {s : St} {H : AHeap}
theorem x_boxA {x : Opd} {v : AV} (hx : evo s x = v) (hc : v.cell = true) : ieff (.box x) s H = some (.ptr H.length 0, H ++ [rw_ [v]]) := by
  simp [ieff, hx, aparts_cell hc, anew, hc, rw_]
theorem x_allocA {l : List AV} (hc : l.all AV.cell = true) : ieff (.alloc l) s H = some (.ptr H.length 0, H ++ [rw_ l]) := by
  simp only [ieff, anew, hc, if_true, Option.map_some, rw_]
theorem x_loadNA {x : Opd} {r : Nat} {row : ARow} {l : List AV} {n : Nat} (hx : evo s x = .ptr r 0) (hr : Vh.rowAt H r = some row) (hc : row.cells = l) (hn : l.length = n) : ieff (.loadN n x) s H = some (.agg l, H) := by
  simp only [ieff, hx, cellsAt, hr, Option.bind_some, hc, Nat.zero_add, hn, Nat.le_refl, if_true, List.drop_zero, Option.map_some]
  rw [← hn, List.take_length]
theorem splice_one {l : List AV} {off : Nat} {v : AV} (h : off < l.length) : splice l off [v] = l.set off v := by
  apply List.ext_getElem?
  intro i
  simp only [splice, List.length_cons, List.length_nil, Nat.zero_add, List.append_assoc, List.getElem?_append, List.length_take, List.getElem?_take, List.getElem?_drop, List.getElem?_set]
  rcases Nat.lt_trichotomy i off with h1 | h1 | h1
  · simp [show i < min off l.length by omega, h1, show off ≠ i by omega]
  · subst h1; simp [show ¬ i < min i l.length by omega, show i - min i l.length = 0 by omega, h]
  · simp [show ¬ i < min off l.length by omega, show ¬ (i - min off l.length < 1) by omega, show off ≠ i by omega]
    congr 1; omega
theorem x_store1A {x y : Opd} {r off : Nat} {v : AV} {l : List AV} (hx : evo s x = .ptr r off) (hy : evo s y = v) (hv : v.cell = true) (hr : Vh.rowAt H r = some ⟨true, false, l⟩) (ho : off < l.length) : ieff (.store 1 x y) s H = some (.any, H.set r (rw_ (l.set off v))) := by
  simp only [ieff, hx, hy, aparts_cell hv, List.length_cons, List.length_nil, Nat.zero_add, if_true, aput, hr, Option.bind_some]
  rw [if_pos ⟨trivial, by omega, by simp [hv]⟩, splice_one ho]
  rfl
theorem x_storeNA {x y : Opd} {r n : Nat} {l l' : List AV} (hx : evo s x = .ptr r 0) (hy : evo s y = .agg l') (hv : l'.all AV.cell = true) (hr : Vh.rowAt H r = some ⟨true, false, l⟩) (hn : l'.length = n) (hl : l.length = n) : ieff (.store n x y) s H = some (.any, H.set r (rw_ l')) := by
  have e : splice l 0 l' = l' := by
    simp only [splice, List.take_zero, List.nil_append, Nat.zero_add]
    rw [List.drop_eq_nil_of_le (by omega), List.append_nil]
  simp only [ieff, hx, hy, aparts, hn, if_true, aput, hr, Option.bind_some]
  rw [if_pos ⟨trivial, by omega, hv⟩, e]
  rfl
end

/-- A number among the rows above n. -/
def NumR (n : Nat) (R : AHeap) (w : AV) (x : Int) : Prop := (w = .nilslice ∧ x = 0) ∨ ∃ κ l row j, w = mkS κ (n + j) 0 l.length ∧ Vh.rowAt R j = some row ∧ NewNum x κ l row
section
variable {n : Nat} {B R R' : AHeap} {w : AV} {x : Int}
theorem NumR.nil : NumR n R .nilslice 0 := .inl ⟨rfl, rfl⟩
theorem NumR.app (h : NumR n R w x) : NumR n (R ++ R') w x := by
  rcases h with h | ⟨κ, l, row, j, h1, h2, h3⟩
  · exact .inl h
  · exact .inr ⟨κ, l, row, j, h1, by rw [rowAt_append_left (rowAt_lt h2)]; exact h2, h3⟩
theorem NumR.v (h : NumR B.length R w x) : NumV (B ++ R) w x B.length := by
  rcases h with h | ⟨κ, l, row, j, h1, h2, h3⟩
  · exact .inl h
  · exact .inr ⟨κ, l, row, B.length + j, by omega, h1, by rw [row_app]; exact h2, h3⟩
theorem NumV.r (h : NumV (B ++ R) w x n) (hn : B.length ≤ n) : NumR B.length R w x := by
  rcases h with h | ⟨κ, l, row, r, h1, h2, h3, h4⟩
  · exact .inl h
  · refine .inr ⟨κ, l, row, r - B.length, by rw [show B.length + (r - B.length) = r by omega]; exact h2, ?_, h4⟩
    rw [show r = B.length + (r - B.length) by omega, row_app] at h3
    exact h3
theorem NumR.cell (h : NumR n R w x) : w.cell = true := by
  rcases h with ⟨rfl, _⟩ | ⟨κ, l, row, j, rfl, h2, h3⟩
  · rfl
  · exact c_mkS
theorem NumV.cell {H : AHeap} (h : NumV H w x n) : w.cell = true := by
  rcases h with ⟨rfl, _⟩ | ⟨κ, l, row, j, _, rfl, h2, h3⟩
  · rfl
  · exact c_mkS
theorem NumR.at {k : Nat} (h : NumR B.length R w x) {row0 : ARow} (h0 : Vh.rowAt (B ++ R) 0 = some row0) (hx : x < BB ^ k) : ∃ r, AtK (B ++ R) w x r k := h.v.at h0 hx
end

end Go.Proofs.Ythbhljolpnbdlaa.S1



/- Contracts: exact's reduced. -/
-- NEWSET
namespace Go.Proofs.Ythbhljolpnbdlaa.S1
open Go Go.Vh

section
variable (A B : List AV) (u v : AV)
end

section
variable {a b : List Int} {u v : AV} {x y : Int}

end
end Go.Proofs.Ythbhljolpnbdlaa.S1



/- Contracts: exact's reduced, as a whole. -/
-- NEWSET
namespace Go.Proofs.Ythbhljolpnbdlaa.S1
open Go Go.Vh

section
variable (a b : List Int) (u v : AV) (x y : Int)
end

end Go.Proofs.Ythbhljolpnbdlaa.S1



/- ExactLaws' walk. -/
-- NEWSET
namespace Go.Proofs.Ythbhljolpnbdlaa.S1
open Go Go.Vh

/-- What is known of a heap: its first row, and some numbers. -/
structure Has (n0 : Nat) (H : AHeap) (L : List (AV × Int × Nat)) : Prop where
  len : n0 ≤ H.length
  z : ∃ row, Vh.rowAt H 0 = some row
  nums : ∀ p ∈ L, ∃ r, AtK H p.1 p.2.1 r p.2.2
theorem Has.app {n0 : Nat} {H R : AHeap} {L : List (AV × Int × Nat)} (h : Has n0 H L) : Has n0 (H ++ R) L := by
  obtain ⟨hlen, ⟨row, hr⟩, hn⟩ := h
  exact ⟨by rw [List.length_append]; omega, ⟨row, by rw [rowAt_append_left (rowAt_lt hr)]; exact hr⟩, fun p hp => by obtain ⟨r, h⟩ := hn p hp; exact ⟨r, h.app⟩⟩
theorem Has.cons {n0 : Nat} {H : AHeap} {L : List (AV × Int × Nat)} {w : AV} {x : Int} {m k : Nat} (h : Has n0 H L) (hw : NumV H w x m) (hx : x < BB ^ k) : Has n0 H ((w, x, k) :: L) := by
  obtain ⟨row, hr⟩ := h.z
  refine ⟨h.len, ⟨row, hr⟩, fun p hp => ?_⟩
  rcases List.mem_cons.1 hp with rfl | hp
  · exact hw.at hr hx
  · exact h.nums p hp
section
variable {f : FuncId} {x y z z' e : Int} {k k' m m' n0 : Nat} {u v c : AV} {rest : List AV} {K : St → AHeap → Prop} {d : Option Nat} {s : St} {H : AHeap} {L : List (AV × Int × Nat)}
end
end Go.Proofs.Ythbhljolpnbdlaa.S1



/- Contracts: exact's samplesWith. -/
-- NEWSET
namespace Go.Proofs.Ythbhljolpnbdlaa.S1
open Go Go.Vh

/-- how many sets of k of b + g things have i of the b -/
def tN (b g k i : Nat) : Nat := if i ≤ k then cnk b i * cnk g (k - i) else 0
/-- the first m of these together -/
def sumT (b g k : Nat) : Nat → Nat
  | 0 => 0
  | m + 1 => sumT b g k m + tN b g k m
theorem tN_low {b g k i : Nat} (h : i + g < k) : tN b g k i = 0 := by
  unfold tN
  rw [if_pos (by omega), cnk_over g _ (by omega), Nat.mul_zero]
theorem tN_high {b g k i : Nat} (h : b < i ∨ k < i) : tN b g k i = 0 := by
  unfold tN
  split
  · rw [cnk_over b i (by omega), Nat.zero_mul]
  · rfl
theorem sumT_low {b g k : Nat} : ∀ {m : Nat}, m + g ≤ k → sumT b g k m = 0
  | 0, _ => rfl
  | m + 1, h => by rw [sumT, sumT_low (by omega), tN_low (by omega)]
theorem sumT_high {b g k n : Nat} (h : b < n ∨ k < n) : ∀ {m : Nat}, n ≤ m → sumT b g k m = sumT b g k n
  | 0, hm => by obtain rfl : n = 0 := by omega
                rfl
  | m + 1, hm => by
    rcases Nat.eq_or_lt_of_le hm with e | e
    · rw [e]
    · rw [sumT, sumT_high h (by omega), tN_high (by omega), Nat.add_zero]
theorem tN_step {b g k i : Nat} (hb : i < b) (hk : i < k) (hg : k ≤ g + i) : tN b g k (i + 1) * ((i + 1) * (g + i + 1 - k)) = tN b g k i * ((b - i) * (k - i)) := by
  have h1 := cnk_next b i (by omega)
  have h2 := cnk_next g (k - i - 1) (by omega)
  unfold tN
  rw [if_pos (by omega), if_pos (by omega), show k - (i + 1) = k - i - 1 by omega]
  rw [show k - i - 1 + 1 = k - i by omega, show g - (k - i - 1) = g + i + 1 - k by omega] at h2
  generalize cnk b i = p at *
  generalize cnk b (i + 1) = p' at *
  generalize cnk g (k - i) = q at *
  generalize cnk g (k - i - 1) = q' at *
  generalize g + i + 1 - k = d at *
  calc p' * q' * ((i + 1) * d) = ((i + 1) * p') * (d * q') := by
        rw [Nat.mul_mul_mul_comm, Nat.mul_comm p' (i + 1), Nat.mul_comm q' d]
    _ = ((b - i) * p) * ((k - i) * q) := by rw [h1, h2]
    _ = p * q * ((b - i) * (k - i)) := by rw [Nat.mul_comm (b - i) p, Nat.mul_comm (k - i) q, Nat.mul_mul_mul_comm]
theorem tN_le {b g k i : Nat} : tN b g k i ≤ 2 ^ (b + g) := by
  unfold tN
  split
  · rw [Nat.pow_add]
    exact Nat.mul_le_mul (cnk_le _ _) (cnk_le _ _)
  · exact Nat.zero_le _
theorem sumT_le {b g k : Nat} : ∀ m, sumT b g k m ≤ m * 2 ^ (b + g)
  | 0 => by simp [sumT]
  | m + 1 => by
    have h1 := sumT_le (b := b) (g := g) (k := k) m
    have h2 := tN_le (b := b) (g := g) (k := k) (i := m)
    rw [sumT, Nat.add_mul, Nat.one_mul]; omega
theorem bb_two (k : Nat) : ((2 ^ (32 * k) : Nat) : Int) = BB ^ k := by
  have : (4294967296 : Int) = ((2 ^ 32 : Nat) : Int) := by decide
  rw [show BB = ((2 ^ 32 : Nat) : Int) from this, ← Int.natCast_pow, ← Nat.pow_mul]
theorem pow_bb {x n k : Nat} (hx : x ≤ 2 ^ n) (hn : n < 32 * k) : (x : Int) < BB ^ k := by
  have : 2 ^ n < 2 ^ (32 * k) := Nat.pow_lt_pow_right (by omega) hn
  rw [← bb_two]; omega
theorem sumT_bb {b g k m : Nat} (h : b + g ≤ 512) (hm : m ≤ 1000) : ((sumT b g k m : Nat) : Int) < BB ^ 17 := by
  have h1 := sumT_le (b := b) (g := g) (k := k) m
  have h3 : m * 2 ^ (b + g) ≤ 2 ^ 10 * 2 ^ (b + g) := Nat.mul_le_mul_right _ (by omega)
  rw [← Nat.pow_add] at h3
  exact pow_bb (Nat.le_trans h1 h3) (by omega)

theorem in_step {x : Int} {up down : Int} (hu : 0 ≤ up ∧ up ≤ 4294967295) (hd : 0 < down ∧ down ≤ 4294967295) : In1 138 x 100000 [.int .i64 up, .int .i64 down] (UpN (x * up / down)) := fun κ l h1 h2 h3 h4 =>
  ⟨_, (step_fresh κ l h1 h2 h3 hu hd).mono fun v H h => by rw [h4] at h; exact fresh_up h⟩
section
variable {f : FuncId} {x z : Int} {k m n0 : Nat} {u : AV} {rest : List AV} {K : St → AHeap → Prop} {d : Option Nat} {s : St} {H : AHeap} {L : List (AV × Int × Nat)}
theorem hs_N1 (h : In1 f x k rest (UpN z)) (hr : rest.all AV.flat = true) (hL : Has n0 H L) (hu : (u, x, m) ∈ L) (hm : m ≤ k) {b : Nat} (hb : z < BB ^ b) (hK : ∀ H' w, Has n0 H' ((w, z, b) :: L) → AtN H' w z → (∀ w2 z2, AtN H w2 z2 → AtN H' w2 z2) → K (putI d s w) H') : thenC Try.prog K d s H (u :: rest) (.func f []) := by
  obtain ⟨a, ha⟩ := hL.nums _ hu
  refine call_in1 h hr (ha.mono hm) (hk_N fun R w hw => ?_)
  obtain ⟨row, hr⟩ := hL.app (R := R) |>.z
  refine hK _ _ (hL.app.cons hw hb) (hw.norm hr) fun w2 z2 ⟨κ, l, row2, r, h1, h2, h3, h4⟩ => ⟨κ, l, row2, r, h1, h2, by rw [rowAt_append_left (rowAt_lt h3)]; exact h3, h4⟩
/-- choose, in a heap that has a row. -/
theorem hs_choose {n j : Nat} (hn : n ≤ 512) (hj : j ≤ 512) (hL : Has n0 H L) (hK : ∀ H' w, Has n0 H' ((w, ((cnk n j : Nat) : Int), 17) :: L) → K (putI d s w) H') : thenC Try.prog K d s H [.int .i64 (n : Int), .int .i64 (j : Int)] (.func 113 []) := by
  refine call_fresh (choose_fresh n j (by omega) (by omega) (by omega)) [] rfl rfl rfl rfl trivial fun κ l row hn' => ?_
  rw [cI_nat] at hn'
  exact hK _ _ (hL.app.cons (.new (by simp [Vh.rowAt]) (Nat.le_refl _) hn') (pow_bb (cnk_le n j) (by omega)))
/-- choose, in an empty heap. -/
theorem hs_choose0 {n j : Nat} (hn : n ≤ 512) (hj : j ≤ 512) (hK : ∀ H' w, Has 0 H' [(w, ((cnk n j : Nat) : Int), 17)] → K (putI d s w) H') : thenC Try.prog K d s [] [.int .i64 (n : Int), .int .i64 (j : Int)] (.func 113 []) := by
  refine call_fresh (choose_fresh n j (by omega) (by omega) (by omega)) [] rfl rfl rfl rfl trivial fun κ l row hn' => ?_
  rw [cI_nat] at hn'
  have h0 : Has 0 ([] ++ [some row]) [] := ⟨Nat.zero_le _, ⟨row, rfl⟩, fun p hp => by cases hp⟩
  exact hK _ _ (h0.cons (.new (by simp [Vh.rowAt]) (Nat.le_refl _) hn') (pow_bb (cnk_le n j) (by omega)))
end
theorem p_min3 {s : St} {x y z : Opd} {a b c : Int} (hx : evo s x = .int .i64 a) (hy : evo s y = .int .i64 b) (hz : evo s z = .int .i64 c) : ipure (.minmaxL false [x, y, z]) s = some (.int .i64 (min a (min b c))) := by
  simp only [ipure, List.map_cons, List.map_nil, hx, hy, hz, amms, List.foldlM_cons, List.foldlM_nil, amm, Bool.false_eq_true, if_false, Option.bind_eq_bind, Option.bind_some, Option.pure_def]
  congr 2
  split <;> split <;> omega

/-- what samplesWith answers -/
def wN (b g k : Nat) (seen : Int) : Nat := sumT b g k (seen + 1).toNat
theorem wN_most {b g k : Nat} {seen : Int} (h0 : 0 ≤ seen) : wN b g k seen = sumT b g k (min seen (min (b : Int) (k : Int))).toNat.succ := by
  unfold wN
  rcases Int.lt_or_le (min (b : Int) (k : Int)) seen with h | h
  · obtain ⟨n, hn⟩ : ∃ n : Nat, min (b : Int) (k : Int) = n := ⟨(min (b : Int) (k : Int)).toNat, by omega⟩
    rw [show (min seen (min (b : Int) (k : Int))).toNat.succ = n + 1 by omega]
    exact sumT_high (by omega) (by omega)
  · rw [show (min seen (min (b : Int) (k : Int))).toNat.succ = (seen + 1).toNat by omega]
end Go.Proofs.Ythbhljolpnbdlaa.S1


