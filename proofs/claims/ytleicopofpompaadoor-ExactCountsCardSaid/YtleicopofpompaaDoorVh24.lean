/- Calls that leave all as it is. -/
import Derived.Test.YtleicopofpompaaDoorVh23
set_option linter.unusedSimpArgs false
set_option linter.unusedVariables false
namespace Go.Vh
open Go
theorem n_mkS0 {κ : SK} {σ : Sig} {r off n r' : Nat} (h : σ r = some (r', 0)) : AV.ren σ (mkS κ r off n) = mkS κ r' off n := by rw [n_mkS h, Nat.zero_add]
theorem renL_take {σ : Sig} : ∀ (l : List AV) (k : Nat), (renL σ l).take k = renL σ (l.take k)
  | [], k => by cases k <;> rfl
  | v :: l, 0 => rfl
  | v :: l, k + 1 => by rw [n_lcons, List.take_succ_cons, List.take_succ_cons, n_lcons, renL_take l k]

section
variable {P : Program} {f : FuncId} {W0 : List Nat} {K : St → AHeap → Prop} {d : Option Nat} {s : St} {H : AHeap} {args caps rest : List AV} {κ κ' : SK} {n m m' : Nat} {k : IntKind} {l l' : List Int} {c : AV}

/-- One slice of integers is read; the answer is plain. -/
theorem call_rdI {r : Nat} {row : ARow} (h : ACalls P f (mkS κ 0 0 n :: rest) [ro (ints k l)] W0 fun v H => v = c ∧ H = [ro (ints k l)]) (hrest : rest.all AV.flat = true) (hrow : rowAt H r = some row) (hc : row.cells.take l.length = ints k l)
    (hargs : args ++ caps = mkS κ r 0 n :: rest) (hr : ∀ σ, c.ren σ = c) (hK : K (putI d s c) H) : thenC P K d s H args (.func f caps) :=
  call_ints h hrest hrow hc hargs fun v0 H0' ⟨e1, e2⟩ => by subst e1; subst e2; rw [hr]; simpa using hK
theorem call_rdI0 {r : Nat} {row : ARow} (h : ACalls P f (mkS κ 0 0 n :: rest) [ro (ints k l)] W0 fun v H => v = c ∧ H = [ro (ints k l)]) (hrest : rest.all AV.flat = true) (hrow : rowAt H r = some row) (hc : row.cells.take l.length = ints k l)
    (hargs : args ++ caps = mkS κ r 0 n :: rest) (hr : ∀ σ, c.ren σ = c) (hK : K (putI d s c) H) : thenC0 P K d s H args (.func f caps) :=
  call_ints0 h hrest hrow hc hargs fun v0 H0' ⟨e1, e2⟩ => by subst e1; subst e2; rw [hr]; simpa using hK
/-- One slice of integers is read; the answer is a part of it. -/
theorem call_rdS {r : Nat} {row : ARow} (h : ACalls P f (mkS κ 0 0 n :: rest) [ro (ints k l)] W0 fun v H => v = mkS κ' 0 0 m ∧ H = [ro (ints k l)]) (hrest : rest.all AV.flat = true) (hrow : rowAt H r = some row) (hc : row.cells.take l.length = ints k l)
    (hargs : args ++ caps = mkS κ r 0 n :: rest) (hK : K (putI d s (mkS κ' r 0 m)) H) : thenC P K d s H args (.func f caps) :=
  call_ints h hrest hrow hc hargs fun v0 H0' ⟨e1, e2⟩ => by subst e1; subst e2; rw [n_mkS0 rfl]; simpa using hK
theorem call_rdS0 {r : Nat} {row : ARow} (h : ACalls P f (mkS κ 0 0 n :: rest) [ro (ints k l)] W0 fun v H => v = mkS κ' 0 0 m ∧ H = [ro (ints k l)]) (hrest : rest.all AV.flat = true) (hrow : rowAt H r = some row) (hc : row.cells.take l.length = ints k l)
    (hargs : args ++ caps = mkS κ r 0 n :: rest) (hK : K (putI d s (mkS κ' r 0 m)) H) : thenC0 P K d s H args (.func f caps) :=
  call_ints0 h hrest hrow hc hargs fun v0 H0' ⟨e1, e2⟩ => by subst e1; subst e2; rw [n_mkS0 rfl]; simpa using hK

/-- A call with plain arguments and a plain answer. -/
theorem call_sc {args0 : List AV} (h : ACalls P f args0 [] W0 fun v H => v = c ∧ H = []) (hf : args0.all AV.flat = true) (hargs : args ++ caps = args0) (hr : ∀ σ, c.ren σ = c) (hK : K (putI d s c) H) : thenC P K d s H args (.func f caps) :=
  call_pure h (flatL_under hf) hargs (flatL_ren hf) (fun v0 ⟨e, _⟩ => by subst e; rw [hr]; exact hK) fun _ _ h => h.2
theorem call_sc0 {args0 : List AV} (h : ACalls P f args0 [] W0 fun v H => v = c ∧ H = []) (hf : args0.all AV.flat = true) (hargs : args ++ caps = args0) (hr : ∀ σ, c.ren σ = c) (hK : K (putI d s c) H) : thenC0 P K d s H args (.func f caps) :=
  call_pure0 h (flatL_under hf) hargs (flatL_ren hf) (fun v0 ⟨e, _⟩ => by subst e; rw [hr]; exact hK) fun _ _ h => h.2

/-- Two slices of integers are read; the answer is plain. -/
theorem call_rd2 {a b : Nat} {ra rb : ARow} (h : ACalls P f (mkS κ 0 0 m :: mkS κ' 1 0 m' :: rest) [ro (ints k l), ro (ints k l')] W0 fun v H => v = c ∧ H = [ro (ints k l), ro (ints k l')]) (hrest : rest.all AV.flat = true)
    (ha : rowAt H a = some ra) (hca : ra.cells.take l.length = ints k l) (hb : rowAt H b = some rb) (hcb : rb.cells.take l'.length = ints k l') (hargs : args ++ caps = mkS κ a 0 m :: mkS κ' b 0 m' :: rest) (hr : ∀ σ, c.ren σ = c)
    (hK : K (putI d s c) H) : thenC P K d s H args (.func f caps) := by
  have s0' : sig [(a, 0), (b, 0)] H.length 0 = some (a, 0) := rfl
  have s1' : sig [(a, 0), (b, 0)] H.length 1 = some (b, 0) := rfl
  have la := congrArg List.length hca
  have lb := congrArg List.length hcb
  simp only [List.length_take, ints_length] at la lb
  refine call_do h [(a, 0), (b, 0)] rfl ?_ ?_ ?_ ⟨seen_ro ha (by simp only [ints_length]; omega) (by rw [ints_ren, ints_length, List.drop_zero, hca]) (flatL_under ints_flat), seen_ro hb (by simp only [ints_length]; omega) (by rw [ints_ren, ints_length, List.drop_zero, hcb]) (flatL_under ints_flat), trivial⟩ ?_
  · simp [underL, mkS_under, flatL_under hrest]
  · simp [onceOK, ownAt, rowAt, ro, List.range, List.range.loop]
  · rw [hargs, n_lcons, n_lcons, flatL_ren hrest, n_mkS0 s0', n_mkS0 s1']
  · rintro v0 H0' ⟨rfl, rfl⟩
    rw [hr, m_merge, m_ro, m_ro, m_nil]
    simpa using hK
end
end Go.Vh
