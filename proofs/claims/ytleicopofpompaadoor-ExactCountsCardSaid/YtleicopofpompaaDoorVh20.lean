/- Slices of integers, whether their capacity is known or not; calls that read such a slice. -/
import Derived.Test.YtleicopofpompaaDoorVh19
set_option linter.unusedSimpArgs false
set_option linter.unusedVariables false
namespace Go.Vh
open Go

/-- What is known of a slice's capacity. -/
inductive SK where
  | nil
  | cap (c : Nat)
  | u

def mkS (κ : SK) (r off n : Nat) : AV := match κ with
  | .nil => .nilslice
  | .cap c => .slice r off n c
  | .u => .sliceU r off n 1

def okS (κ : SK) (n : Nat) : Prop := match κ with
  | .nil => n = 0
  | .cap c => n ≤ c
  | .u => True

theorem okS_u {n : Nat} : okS .u n := trivial
theorem okS_cap {c n : Nat} (h : n ≤ c) : okS (.cap c) n := h
theorem okS_nil : okS .nil 0 := rfl
theorem okS.le {κ : SK} {n m : Nat} (h : okS κ n) (hm : m ≤ n) : okS κ m := by
  cases κ <;> simp_all [okS] <;> omega

theorem s_nil {r off n : Nat} : mkS .nil r off n = .nilslice := rfl
theorem s_cap {c r off n : Nat} : mkS (.cap c) r off n = .slice r off n c := rfl
theorem s_u {r off n : Nat} : mkS .u r off n = .sliceU r off n 1 := rfl

theorem k_len {κ : SK} {N n r off : Nat} (hk : okS κ N) (h : n ≤ N) : alen (mkS κ r off n) = some n := by
  cases κ with
  | nil => simp only [okS] at hk; simp [mkS, alen]; omega
  | cap c => rfl
  | u => rfl
theorem k_idx {κ : SK} {N n r off : Nat} {k : IntKind} {x : Int} (hk : okS κ N) (h : n ≤ N) (h0 : 0 ≤ x) (h1 : x < n) : aindexAddr 1 (mkS κ r off n) (.int k x) = some (.ptr r (off + x.toNat)) := by
  cases κ with
  | nil => simp only [okS] at hk; omega
  | cap c => simp [mkS, aindexAddr, h0, h1]
  | u => simp [mkS, aindexAddr, h0, h1]
theorem k_sl {κ : SK} {N n r off : Nat} {k : IntKind} {x : Int} (hk : okS κ N) (h : n ≤ N) (h0 : 0 ≤ x) (h1 : x ≤ n) : aslice 1 (mkS κ r off n) none (some (.int k x)) = some (mkS κ r off x.toNat) := by
  cases κ with
  | nil => simp only [okS] at hk; have : x = 0 := by omega
           subst this; simp [mkS, aslice, ahi, abound]
  | cap c => simp only [okS] at hk; have h2 : x ≤ (c : Int) := by omega
             simp [mkS, aslice, ahi, abound, h0, h2]
  | u => simp [mkS, aslice, ahi, abound, h0, h1]

theorem n_mkS {κ : SK} {σ : Sig} {r off n r' d : Nat} (h : σ r = some (r', d)) : AV.ren σ (mkS κ r off n) = mkS κ r' (d + off) n := by
  cases κ with
  | nil => rfl
  | cap c => exact n_slice h
  | u => exact n_sliceU h

/-- A value that names no row. -/
def AV.flat : AV → Bool
  | .int _ _ | .bool _ | .str _ | .nilslice => true
  | _ => false
theorem AV.flat_ren {σ : Sig} {v : AV} (h : v.flat = true) : v.ren σ = v := by
  cases v <;> first | rfl | (simp [AV.flat] at h; done)
theorem flatL_ren {σ : Sig} : ∀ {l : List AV}, l.all AV.flat = true → renL σ l = l
  | [], _ => rfl
  | v :: l, h => by
    simp only [List.all_cons, Bool.and_eq_true] at h
    rw [n_lcons, AV.flat_ren h.1, flatL_ren h.2]
theorem AV.flat_under {n : Nat} {v : AV} (h : v.flat = true) : v.under n = true := by
  cases v <;> first | rfl | (simp [AV.flat] at h; done)
theorem flatL_under {n : Nat} : ∀ {l : List AV}, l.all AV.flat = true → underL n l = true
  | [], _ => rfl
  | v :: l, h => by
    simp only [List.all_cons, Bool.and_eq_true] at h
    simp [underL, AV.flat_under h.1, flatL_under h.2]
theorem ints_flat {k : IntKind} {l : List Int} : (ints k l).all AV.flat = true := by simp [ints, AV.flat]
theorem ints_ren {σ : Sig} {k : IntKind} {l : List Int} : renL σ (ints k l) = ints k l := flatL_ren ints_flat
theorem mkS_under {κ : SK} {r off n m : Nat} (h : r < m) : (mkS κ r off n).under m = true := by
  cases κ <;> simp [mkS, AV.under, h]

section
variable {P : Program} {f : FuncId} {W0 : List Nat} {R0 : AV → AHeap → Prop} {K : St → AHeap → Prop} {d : Option Nat} {s : St} {H : AHeap} {args caps rest : List AV} {κ : SK} {n : Nat} {k : IntKind} {l : List Int}

/-- A call that reads one slice of integers. -/
theorem call_ints {r : Nat} {row : ARow} (h : ACalls P f (mkS κ 0 0 n :: rest) [ro (ints k l)] W0 R0) (hrest : rest.all AV.flat = true) (hrow : rowAt H r = some row) (hc : row.cells.take l.length = ints k l)
    (hargs : args ++ caps = mkS κ r 0 n :: rest) (hK : ∀ v0 H0', R0 v0 H0' → K (putI d s (v0.ren (sig [(r, 0)] H.length))) (H ++ (H0'.drop 1).map (renRow (sig [(r, 0)] H.length)))) : thenC P K d s H args (.func f caps) := by
  have hs : sig [(r, 0)] H.length 0 = some (r, 0) := rfl
  have hlen := congrArg List.length hc
  simp only [List.length_take, ints_length] at hlen
  refine call_do h [(r, 0)] rfl ?_ rfl ?_ ⟨seen_ro hrow (by simp only [ints_length]; omega) (by rw [ints_ren, ints_length, List.drop_zero, hc]) (flatL_under ints_flat), trivial⟩ fun v0 H0' h0 => ?_
  · simp [underL, mkS_under, flatL_under hrest]
  · rw [hargs, n_lcons, n_mkS hs, flatL_ren hrest]
  · have := hK v0 H0' h0
    rw [m_merge, m_ro, m_nil]
    exact this
theorem call_ints0 {r : Nat} {row : ARow} (h : ACalls P f (mkS κ 0 0 n :: rest) [ro (ints k l)] W0 R0) (hrest : rest.all AV.flat = true) (hrow : rowAt H r = some row) (hc : row.cells.take l.length = ints k l)
    (hargs : args ++ caps = mkS κ r 0 n :: rest) (hK : ∀ v0 H0', R0 v0 H0' → K (putI d s (v0.ren (sig [(r, 0)] H.length))) (H ++ (H0'.drop 1).map (renRow (sig [(r, 0)] H.length)))) : thenC0 P K d s H args (.func f caps) := by
  have hs : sig [(r, 0)] H.length 0 = some (r, 0) := rfl
  have hlen := congrArg List.length hc
  simp only [List.length_take, ints_length] at hlen
  refine call_do0 h [(r, 0)] rfl ?_ rfl rfl ?_ ⟨seen_ro hrow (by simp only [ints_length]; omega) (by rw [ints_ren, ints_length, List.drop_zero, hc]) (flatL_under ints_flat), trivial⟩ fun v0 H0' h0 => ?_
  · simp [underL, mkS_under, flatL_under hrest]
  · rw [hargs, n_lcons, n_mkS hs, flatL_ren hrest]
  · have := hK v0 H0' h0
    rw [m_merge, m_ro, m_nil]
    exact this
end
end Go.Vh
