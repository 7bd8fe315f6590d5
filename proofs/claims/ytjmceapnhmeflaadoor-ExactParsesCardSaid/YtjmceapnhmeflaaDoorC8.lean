/- ExactOf's walk. -/
import Derived.Test.YtjmceapnhmeflaaDoorV7
import Derived.Test.YtjmceapnhmeflaaDoorCF
set_option linter.unusedSimpArgs false
set_option linter.unusedVariables false
namespace Go.Proofs.YtjmceapnhmeflaaDoor
open Go Go.Vh

theorem renL_take {σ : Sig} : ∀ (l : List AV) (k : Nat), (renL σ l).take k = renL σ (l.take k)
  | [], k => by cases k <;> rfl
  | v :: l, 0 => rfl
  | v :: l, k + 1 => by rw [n_lcons, List.take_succ_cons, List.take_succ_cons, n_lcons, renL_take l k]

section
variable {K : St → AHeap → Prop} {d : Option Nat} {s : St} {H : AHeap}
/-- A call of Same. -/
theorem call_rsame {κ κ' : SK} {a b : Nat} {ra rb : ARow} {l l' : List Int} {m m' : Nat} (hlm : l.length = m) (hlm' : l'.length = m') (hk : okS κ m) (hk' : okS κ' m') (hm : m < 9223372036854775807) (hm' : m' < 9223372036854775807)
    (ha : Vh.rowAt H a = some ra) (hca : ra.cells.take m = ints .u32 l) (hb : Vh.rowAt H b = some rb) (hcb : rb.cells.take m' = ints .u32 l')
    (hK : K (putI d s (.bool (decide (l = l')))) H) : thenC Tryd.prog K d s H [mkS κ a 0 m, mkS κ' b 0 m'] (.func 16 []) := by
  subst hlm; subst hlm'
  have s0' : sig [(a, 0), (b, 0)] H.length 0 = some (a, 0) := rfl
  have s1' : sig [(a, 0), (b, 0)] H.length 1 = some (b, 0) := rfl
  have la := congrArg List.length hca
  have lb := congrArg List.length hcb
  simp only [List.length_take, ints_length] at la lb
  refine call_do (rsame_calls κ κ' l l' hk hk' hm hm') [(a, 0), (b, 0)] rfl ?_ ?_ ?_ ⟨seen_ro ha (by simp only [ints_length]; omega) (by rw [ints_ren, ints_length, List.drop_zero, hca]) (flatL_under ints_flat), seen_ro hb (by simp only [ints_length]; omega) (by rw [ints_ren, ints_length, List.drop_zero, hcb]) (flatL_under ints_flat), trivial⟩ ?_
  · simp [underL, mkS_under]
  · simp [onceOK, ownAt, Vh.rowAt, ro, List.range, List.range.loop]
  · rw [n_lcons, n_lcons, n_lnil, n_mkS0 s0', n_mkS0 s1']; rfl
  · rintro v0 H0' ⟨rfl, rfl⟩
    rw [n_bool, m_merge, m_ro, m_ro, m_nil]
    simpa using hK
/-- A call without arguments that answers true. -/
theorem call_true {f : FuncId} {W : List Nat} (h : ACalls Tryd.prog f [] [] W fun v _ => v = .bool true) (hK : ∀ H', K (putI d s (.bool true)) (H ++ H')) : thenC Tryd.prog K d s H [] (.func f []) := by
  refine call_do h [] rfl rfl rfl rfl trivial ?_
  rintro v0 H0' rfl
  rw [n_bool, m_merge, m_nil]
  exact hK _
end

end Go.Proofs.YtjmceapnhmeflaaDoor

