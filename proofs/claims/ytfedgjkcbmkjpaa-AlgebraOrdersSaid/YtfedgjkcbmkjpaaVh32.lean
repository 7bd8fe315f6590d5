/- Rows of numbers by index; lists of bools; answers that are appended to; flat rows read by a callee. -/
import Derived.Test.YtfedgjkcbmkjpaaVh31
namespace Go.Vh
open Go

/-- n numbers. -/
def nt (n : Nat) (q : Nat → Int) : List AV := (List.range n).map fun i => AV.int .i64 (q i)
theorem nt_length {n q} : (nt n q).length = n := by simp [nt]
theorem nt_get {n q i} (h : i < n) : (nt n q)[i]? = some (.int .i64 (q i)) := by simp [nt, h]
theorem nt_flat {n q} : (nt n q).all AV.flat = true := by simp [nt, AV.flat]
theorem nt_ren {σ : Sig} {n q} : renL σ (nt n q) = nt n q := flatL_ren nt_flat
theorem nt_cell {n q} : (nt n q).all AV.cell = true := by simp [nt, AV.cell]
theorem nt_of {l : List Int} : ints .i64 l = nt l.length fun i => l.getD i 0 := by
  apply List.ext_getElem?
  intro i
  rcases Nat.lt_or_ge i l.length with h | h
  · rw [ints_get h, nt_get h]
  · rw [List.getElem?_eq_none (by rw [ints_length]; exact h), List.getElem?_eq_none (by rw [nt_length]; exact h)]

/-- A list of bools, as a row. -/
def bl (l : List Bool) : List AV := bt l.length fun i => l.getD i false
theorem bl_app {l : List Bool} {b : Bool} : bl l ++ [.bool b] = bl (l ++ [b]) := by
  unfold bl
  rw [bt_app]
  have e : (l ++ [b]).length = l.length + 1 := by simp
  rw [e]
  apply bt_congr
  intro i hi
  by_cases h : i = l.length
  · subst h; simp
  · rw [if_neg h]
    have hlt : i < l.length := by omega
    simp [List.getD_eq_getElem?_getD, List.getElem?_append_left hlt]

/-- A list that was appended to, on top of a heap. -/
def GrownL (base : AHeap) (l : List Bool) (v : AV) (H : AHeap) : Prop := (l = [] ∧ v = .nilslice ∧ H = base) ∨ (l ≠ [] ∧ v = .sliceU base.length 0 l.length 1 ∧ H = base ++ [sl (bl l)])

/-- An answer that lies in a new row, its own. -/
def FreshB (base : AHeap) (n : Nat) (h : Nat → Bool) (v : AV) (H : AHeap) : Prop := ∃ κ b, okS κ n ∧ v = mkS κ base.length 0 n ∧ H = base ++ [some ⟨true, b, bt n h⟩]

section
variable {P : Program} {f : FuncId} {W0 : List Nat} {K : St → AHeap → Prop} {d : Option Nat} {s : St} {H : AHeap} {args caps rest : List AV} {κ κ' : SK} {n n' : Nat} {a b da db : Nat} {ra rb : ARow} {cs cs' : List AV}

/-- Two slices are read. -/
theorem call_cc {R0 : AV → AHeap → Prop} (h : ACalls P f (mkS κ 0 0 n :: mkS κ' 1 0 n' :: rest) [ro cs, ro cs'] W0 R0) (hf : cs.all AV.flat = true) (hf' : cs'.all AV.flat = true) (hrest : underL 0 rest = true)
    (ha : Vh.rowAt H a = some ra) (hb : Vh.rowAt H b = some rb) (la : da + cs.length ≤ ra.cells.length) (lb : db + cs'.length ≤ rb.cells.length) (ca : (ra.cells.drop da).take cs.length = cs) (cb : (rb.cells.drop db).take cs'.length = cs')
    (hargs : args ++ caps = mkS κ a da n :: mkS κ' b db n' :: rest)
    (hK : ∀ v0 H0', R0 v0 H0' → K (putI d s (v0.ren (sig [(a, da), (b, db)] H.length))) (H ++ (H0'.drop 2).map (renRow (sig [(a, da), (b, db)] H.length)))) : thenC P K d s H args (.func f caps) := by
  have h0 : sig [(a, da), (b, db)] H.length 0 = some (a, da) := rfl
  have h1 : sig [(a, da), (b, db)] H.length 1 = some (b, db) := rfl
  refine call_do h [(a, da), (b, db)] rfl ?_ rfl ?_ ⟨seen_ro ha la (by rw [flatL_ren hf]; exact ca.symm) (flatL_under hf), seen_ro hb lb (by rw [flatL_ren hf']; exact cb.symm) (flatL_under hf'), trivial⟩ fun v0 H0' h0' => ?_
  · have hr : underL 2 rest = true := underL_mono (by omega) hrest
    simp [underL, mkS_under, hr]
  · rw [hargs, n_lcons, n_lcons, n_mkS h0, n_mkS h1, renL_under0 hrest]; rfl
  · have := hK v0 H0' h0'
    rw [m_merge, m_ro, m_ro, m_nil]
    exact this

/-- One slice is read. -/
theorem call_c1 {R0 : AV → AHeap → Prop} (h : ACalls P f (mkS κ 0 0 n :: rest) [ro cs] W0 R0) (hf : cs.all AV.flat = true) (hrest : underL 0 rest = true)
    (ha : Vh.rowAt H a = some ra) (la : da + cs.length ≤ ra.cells.length) (ca : (ra.cells.drop da).take cs.length = cs)
    (hargs : args ++ caps = mkS κ a da n :: rest)
    (hK : ∀ v0 H0', R0 v0 H0' → K (putI d s (v0.ren (sig [(a, da)] H.length))) (H ++ (H0'.drop 1).map (renRow (sig [(a, da)] H.length)))) : thenC P K d s H args (.func f caps) := by
  have h0 : sig [(a, da)] H.length 0 = some (a, da) := rfl
  refine call_do h [(a, da)] rfl ?_ rfl ?_ ⟨seen_ro ha la (by rw [flatL_ren hf]; exact ca.symm) (flatL_under hf), trivial⟩ fun v0 H0' h0' => ?_
  · have hr : underL 1 rest = true := underL_mono (by omega) hrest
    simp [underL, mkS_under, hr]
  · rw [hargs, n_lcons, n_mkS h0, renL_under0 hrest]; rfl
  · have := hK v0 H0' h0'
    rw [m_merge, m_ro, m_nil]
    exact this

/-- A slice of bools is written, its row handed over. -/
theorem call_own {g g' : Nat → Bool} {c : AV} {sk : Bool} (h : ACalls P f [mkS κ 0 0 n] [some ⟨true, sk, bt n g⟩] W0 fun v H => v = c ∧ H = [some ⟨true, sk, bt n g'⟩]) (hc : c.under 0 = true)
    (hr : Vh.rowAt H a = some ⟨true, sk, bt n g⟩) (hargs : args ++ caps = [mkS κ a 0 n]) (hK : K (putI d s c) (H.set a (some ⟨true, sk, bt n g'⟩))) : thenC P K d s H args (.func f caps) := by
  have hs : sig [(a, 0)] H.length 0 = some (a, 0) := rfl
  refine call_do h [(a, 0)] rfl ?_ rfl ?_ ⟨⟨_, hr, ?_, ?_, flatL_under bt_flat, ?_⟩, trivial⟩ fun v0 H0' ⟨e1, e2⟩ => ?_
  · simp [underL, mkS_under]
  · rw [hargs, n_lcons, n_mkS0 hs, n_lnil]
  · simp
  · simp [bt_ren, bt_length, bt_take (Nat.le_refl n)]
  · intro _; exact ⟨rfl, rfl, rfl, rfl⟩
  · subst e1; subst e2
    rw [AV.ren_under0 hc]
    simpa [merge, mergeGo, renRow, Vh.rowAt, bt_ren] using hK
end
end Go.Vh
