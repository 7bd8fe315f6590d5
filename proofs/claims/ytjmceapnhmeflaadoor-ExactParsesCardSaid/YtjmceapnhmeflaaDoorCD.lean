/- Contracts: fit, Add, the law's add. -/
import Derived.Test.YtjmceapnhmeflaaDoorV7
import Derived.Test.YtjmceapnhmeflaaDoorCC
import Derived.Test.YtjmceapnhmeflaaDoorCF
import Derived.Test.YtjmceapnhmeflaaDoorIrA
set_option linter.unusedSimpArgs false
set_option linter.unusedVariables false
namespace Go.Proofs.YtjmceapnhmeflaaDoor
open Go Go.Vh

theorem fit_calls (κ : SK) (n : Nat) (hk : okS κ n) (hn : n < 9223372036854775807) : ACalls Tryd.prog 66 [mkS κ 0 0 n] [ro []] [0] fun v H => v = .tuple (if n ≤ 64 then [mkS κ 0 0 n, .int .i64 0] else [.nilslice, .int .i64 8]) ∧ H = [ro []] := by
  refine ACalls.body Tryd.func66 ent_fit ir_fit_ok rs_fit_ok Tryd.ntmps66 (by simp) rfl ?_
  unfold ir_fit
  have e0 : s0 [mkS κ 0 0 n] 0 = mkS κ 0 0 n := rfl
  by_cases h : n ≤ 64
  · simp (disch := omega) only [sS, ↓reduceIte, Nat.reduceEqDiff, Nat.reduceAdd, Nat.reduceMul, Nat.reduceSub, reduceCtorEq, e_none, e_some, e_bindS, e0, k_len hk]
    refine ret_keep (by simp) ⟨?_, rfl⟩
    simp only [e_upd, Nat.reduceEqDiff, ↓reduceIte, if_pos h]
  · simp (disch := omega) only [sS, ↓reduceIte, Nat.reduceEqDiff, Nat.reduceAdd, Nat.reduceMul, Nat.reduceSub, reduceCtorEq, e_none, e_some, e_bindS, e0, k_len hk]
    refine ret_keep (by simp) ⟨?_, rfl⟩
    simp only [e_upd, Nat.reduceEqDiff, ↓reduceIte, if_neg h]

section
variable {K : St → AHeap → Prop} {d : Option Nat} {s : St} {H : AHeap}
/-- A call of tooLong with two numbers. -/
theorem call_tooLong2 {a b b' n n' : Nat} {κ κ' : SK} {row rowb rowb' : ARow} (hk : okS κ n) (hk' : okS κ' n') (hn : n < 9223372036854775807) (hn' : n' < 9223372036854775807) (ha : Vh.rowAt H a = some row) (hc : row.cells = [mkS κ b 0 n, mkS κ' b' 0 n']) (hb : Vh.rowAt H b = some rowb) (hb' : Vh.rowAt H b' = some rowb')
    (hK : K (putI d s (.int .i64 (if n ≤ 64 ∧ n' ≤ 64 then 0 else 4))) H) : thenC Tryd.prog K d s H [.slice a 0 2 2] (.func 60 []) := by
  have hl : alen (mkS κ 1 0 n) = some n := k_len hk (Nat.le_refl _)
  have hl2 : alen (mkS κ' 2 0 n') = some n' := k_len hk' (Nat.le_refl _)
  have hl' : lenOf (mkS κ 1 0 n) = n := by simp [lenOf, hl]
  have hl2' : lenOf (mkS κ' 2 0 n') = n' := by simp [lenOf, hl2]
  have s0' : sig [(a, 0), (b, 0), (b', 0)] H.length 0 = some (a, 0) := rfl
  have s1' : sig [(a, 0), (b, 0), (b', 0)] H.length 1 = some (b, 0) := rfl
  have s2' : sig [(a, 0), (b, 0), (b', 0)] H.length 2 = some (b', 0) := rfl
  refine call_do (tooLong_calls [mkS κ 1 0 n, mkS κ' 2 0 n'] [ro [], ro []] (fun c hc => ?_) (by simp)) [(a, 0), (b, 0), (b', 0)] rfl rfl (allRo_once rfl _) ?_ ⟨seen_ro_whole ha ?_ ?_, seen_ro hb ?_ rfl rfl, seen_ro hb' ?_ rfl rfl, trivial⟩ ?_
  · simp only [List.mem_cons, List.mem_singleton, List.not_mem_nil, or_false] at hc
    rcases hc with rfl | rfl
    · exact ⟨by rw [hl]; rfl, by rw [hl']; exact hn⟩
    · exact ⟨by rw [hl2]; rfl, by rw [hl2']; exact hn'⟩
  · simp only [List.length_cons, List.length_nil]; rw [n_lcons, n_lnil, n_slice s0']; rfl
  · rw [n_lcons, n_lcons, n_lnil, n_mkS0 s1', n_mkS0 s2', hc]
  · simp [underL, mkS_under]
  · simp
  · simp
  · rintro v0 H0' ⟨rfl, rfl⟩
    rw [n_int, m_merge, m_ro, m_ro, m_ro, m_nil]
    have e : ([mkS κ 1 0 n, mkS κ' 2 0 n'].all fun c => decide (lenOf c ≤ 64)) = decide (n ≤ 64 ∧ n' ≤ 64) := by
      simp only [List.all_cons, List.all_nil, Bool.and_true, hl', hl2', Bool.decide_and]
    rw [e]
    simp only [List.length_cons, List.length_nil, Nat.reduceAdd, List.drop_succ_cons, List.drop_zero, List.map_nil, List.append_nil, decide_eq_true_eq]
    exact hK
end

theorem norm_64 {l : List Int} (h : Limbs l) (hn : tz l l.length = l.length) : l.length ≤ 64 ↔ num l < BB ^ 64 :=
  ⟨fun h1 => Int.lt_of_lt_of_le (nv_bound h _).2 (BB_mono h1), fun h1 => norm_len h hn h1⟩

end Go.Proofs.YtjmceapnhmeflaaDoor

