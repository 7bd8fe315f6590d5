/- Rows of numbers that are written; a callee's new row. -/
import Derived.Test.YtfedgjkcbmkjpaaVh32
namespace Go.Vh
open Go

theorem nt_congr {n q q'} (h : ∀ i, i < n → q i = q' i) : nt n q = nt n q' := by
  unfold nt
  apply List.map_congr_left
  intro i hi
  rw [h i (by simpa using hi)]
theorem nt_set {n q i x} (h : i < n) : (nt n q).set i (.int .i64 x) = nt n fun j => if j = i then x else q j := by
  apply List.ext_getElem?
  intro j
  rcases Nat.lt_or_ge j n with hj | hj
  · rw [nt_get hj]
    by_cases e : j = i
    · subst e; rw [List.getElem?_set_self (by rw [nt_length]; omega)]; simp
    · rw [List.getElem?_set_ne (Ne.symm e), nt_get hj]; simp [e]
  · rw [List.getElem?_eq_none (by rw [List.length_set, nt_length]; omega), List.getElem?_eq_none (by rw [nt_length]; omega)]
theorem nt_const {n x} : List.replicate n (AV.int .i64 x) = nt n fun _ => x := by
  apply List.ext_getElem?
  intro j
  rcases Nat.lt_or_ge j n with hj | hj
  · rw [nt_get hj]; simp [hj]
  · rw [List.getElem?_eq_none (by simp; omega), List.getElem?_eq_none (by rw [nt_length]; omega)]

section
variable {s : St} {H : AHeap}
theorem x_makeN {x : Opd} {n : Nat} {bytes : Nat} (h : evo s x = .int .i64 (n : Int)) (h1 : bytes * n ≤ 281474976710656) (h2 : n ≤ 9223372036854775807) :
    ieff (.makeSlice (.int .i64 0) bytes x x) s H = some (.slice H.length 0 n n, H ++ [rw_ (nt n fun _ => 0)]) := by
  have hb : 0 ≤ (n : Int) ∧ (n : Int) ≤ n ∧ (bytes : Int) * (n : Int) ≤ 281474976710656 ∧ (n : Int) ≤ 9223372036854775807 := by
    refine ⟨by omega, by omega, ?_, by omega⟩
    have : ((bytes * n : Nat) : Int) ≤ 281474976710656 := by omega
    simpa using this
  simp only [ieff, h]
  rw [if_pos hb]
  simp [anew, nt_const, nt_cell, rw_]
theorem x_putN {x v : Opd} {r off : Nat} {b : Int} {n : Nat} {q : Nat → Int} (hx : evo s x = .ptr r off) (hv : evo s v = .int .i64 b) (hr : Vh.rowAt H r = some ⟨true, false, nt n q⟩) (ho : off < n) :
    ieff (.store 1 x v) s H = some (.any, H.set r (rw_ (nt n fun j => if j = off then b else q j))) := by
  have hs : splice (nt n q) off [.int .i64 b] = (nt n q).set off (.int .i64 b) := by
    rw [splice, List.set_eq_take_append_cons_drop, if_pos (by rw [nt_length]; omega)]
    simp
  simp only [ieff, hx, hv]
  simp only [aparts, List.length_singleton, if_true, aput, hr, Option.bind_some]
  rw [if_pos ⟨trivial, by rw [nt_length]; omega, rfl⟩, hs, nt_set ho]
  rfl
end

section
variable {P : Program} {f : FuncId} {W0 : List Nat} {K : St → AHeap → Prop} {d : Option Nat} {s : St} {H : AHeap} {args caps args0 : List AV} {n : Nat} {h : Nat → Bool}
/-- A call that answers a new row of bools. -/
theorem call_newB (hA : ACalls P f args0 [] W0 fun v H => v = .slice 0 0 n n ∧ H = [rw_ (bt n h)]) (hu : underL 0 args0 = true) (hargs : args ++ caps = args0) (hK : K (putI d s (.slice H.length 0 n n)) (H ++ [rw_ (bt n h)])) : thenC P K d s H args (.func f caps) := by
  refine call_do hA [] rfl hu rfl (by rw [hargs, renL_under0 hu]) trivial fun v0 H0' ⟨e1, e2⟩ => ?_
  subst e1; subst e2
  have h1 : AV.ren (sig [] H.length) (.slice 0 0 n n) = .slice H.length 0 n n := by simp [AV.ren, sig]
  have h2 : merge H [] [] [rw_ (bt n h)] = H ++ [rw_ (bt n h)] := by
    simp [merge, mergeGo, m_renRw, bt_ren]
  rw [h1, h2]; exact hK
end
end Go.Vh
