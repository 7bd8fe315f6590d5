/- ExactOf's walk. -/
import Derived.Test.YtpkeneadkiabiaaDoorV7
import Derived.Test.YtpkeneadkiabiaaDoorC7
set_option linter.unusedSimpArgs false
set_option linter.unusedVariables false
namespace Go.Proofs.YtpkeneadkiabiaaDoor
open Go Go.Vh

theorem renL_take {σ : Sig} : ∀ (l : List AV) (k : Nat), (renL σ l).take k = renL σ (l.take k)
  | [], k => by cases k <;> rfl
  | v :: l, 0 => rfl
  | v :: l, k + 1 => by rw [n_lcons, List.take_succ_cons, List.take_succ_cons, n_lcons, renL_take l k]

section
variable {K : St → AHeap → Prop} {d : Option Nat} {s : St} {H : AHeap}
/-- A call of Same. -/
theorem call_rsame {κ κ' : SK} {a b : Nat} {ra rb : ARow} {l l' : List Int} {m m' : Nat} (hlm : l.length = m) (hlm' : l'.length = m') (hk : okS κ m) (hk' : okS κ' m') (hm : m < 9223372036854775807) (hm' : m' < 9223372036854775807)
    (ha : Vh.rowAt H a = some ra) (hca : ra.cells.take m = ints .u32 l) (hb : Vh.rowAt H b = some rb) (hcb : rb.cells.take m' = ints .u32 l')
    (hK : K (putI d s (.bool (decide (l = l')))) H) : thenC Tryd.prog K d s H [mkS κ a 0 m, mkS κ' b 0 m'] (.func 16 []) := by
  subst hlm; subst hlm'
  have s0' : sig [(a, 0), (b, 0)] H.length 0 = some (a, 0) := rfl
  have s1' : sig [(a, 0), (b, 0)] H.length 1 = some (b, 0) := rfl
  have la := congrArg List.length hca
  have lb := congrArg List.length hcb
  simp only [List.length_take, ints_length] at la lb
  refine call_do (rsame_calls κ κ' l l' hk hk' hm hm') [(a, 0), (b, 0)] rfl ?_ ?_ ?_ ⟨seen_ro ha (by simp only [ints_length]; omega) (by rw [ints_ren, ints_length, List.drop_zero, hca]) (flatL_under ints_flat), seen_ro hb (by simp only [ints_length]; omega) (by rw [ints_ren, ints_length, List.drop_zero, hcb]) (flatL_under ints_flat), trivial⟩ ?_
  · simp [underL, mkS_under]
  · simp [onceOK, ownAt, Vh.rowAt, ro, List.range, List.range.loop]
  · rw [n_lcons, n_lcons, n_lnil, n_mkS0 s0', n_mkS0 s1']; rfl
  · rintro v0 H0' ⟨rfl, rfl⟩
    rw [n_bool, m_merge, m_ro, m_ro, m_nil]
    simpa using hK
/-- A call without arguments that answers true. -/
theorem call_true {f : FuncId} {W : List Nat} (h : ACalls Tryd.prog f [] [] W fun v _ => v = .bool true) (hK : ∀ H', K (putI d s (.bool true)) (H ++ H')) : thenC Tryd.prog K d s H [] (.func f []) := by
  refine call_do h [] rfl rfl rfl rfl trivial ?_
  rintro v0 H0' rfl
  rw [n_bool, m_merge, m_nil]
  exact hK _
end

theorem law_calls {Ww : List Nat} (hw : ACalls Tryd.prog 18 [] [] Ww fun v _ => v = .bool true) (n : Int) (h0 : 0 ≤ n) (h1 : n ≤ 18446744073709551615) : ACalls Tryd.prog 3 [.int .u64 n] [] [] fun v _ => v = .bool true := by
  refine ACalls.body Tryd.func3 ent_law ir_law_ok rs_law_ok Tryd.ntmps3 (by simp) rfl ?_
  unfold ir_law
  have e0 : s0 [.int .u64 n] 0 = .int .u64 n := rfl
  have hr := two_range h0 h1
  have ht := tz_le (two n) 2
  have hz := tz_zero (two n) 2
  have htt := tz_tz (two n) 2
  have c14 := xof_calls n h0 h1
  have c17 := rof_calls n h0 h1
  have htl : ((two n).take (tz (two n) 2)).length = tz (two n) 2 := by rw [List.length_take, two_length]; omega
  have hgt : ∀ i, ((two n).take (tz (two n) 2)).getD i 0 = (two n).getD i 0 := fun i => getD_take (two n) 2 _ i hz (by rw [two_length]; omega)
  have c15 := xsmall_calls (.cap 2) ((two n).take (tz (two n) 2)) (okS_cap (by omega)) (by omega) (fun i => by rw [hgt]; exact hr i)
  rw [htl, tz_take _ _ _ (Nat.le_refl _), htt, if_pos ht] at c15
  have hval : val2 ((two n).take (tz (two n) 2)) = n := by
    rw [val2, hgt, hgt]
    show n / 4294967296 * 4294967296 + n % 4294967296 = n
    omega
  rw [hval] at c15
  generalize tz (two n) 2 = t at *
  simp (disch := omega) only [sS, ↓reduceIte, Nat.reduceEqDiff, Nat.reduceAdd, Nat.reduceMul, Nat.reduceSub, reduceCtorEq, e_none, e_some, e_bindS, e0]
  refine call_do c14 [] rfl rfl rfl rfl trivial ?_
  rintro v0 H0' ⟨rfl, rfl⟩
  rw [m_merge, m_nil, n_mkS0 (r' := 0) rfl]
  simp (disch := omega) only [sS, ↓reduceIte, Nat.reduceEqDiff, Nat.reduceAdd, Nat.reduceMul, Nat.reduceSub, reduceCtorEq, e_none, e_some, e_bindS]
  refine call_ints (r := 0) (row := ⟨true, false, ints .u32 (two n)⟩) c15 rfl ?_ ?_ rfl ?_
  · simp [Vh.rowAt, renRow, rw_, ints_ren]
  · rw [htl, ints_take]
  rintro v0 H0' ⟨rfl, rfl⟩
  rw [n_tuple, n_lcons, n_lcons, n_lnil, n_int, n_int]
  simp (disch := omega) only [sS, ↓reduceIte, Nat.reduceEqDiff, Nat.reduceAdd, Nat.reduceMul, Nat.reduceSub, reduceCtorEq, e_none, e_some, e_bindS, List.getElem?_cons_zero, List.getElem?_cons_succ, e0]
  refine call_do c17 [] rfl rfl rfl rfl trivial ?_
  rintro v0 H0' ⟨rfl, row, rfl, hown, hrow⟩
  rw [m_merge, m_nil, n_mkS (r' := 1) (d := 0) rfl]
  simp (disch := omega) only [sS, ↓reduceIte, Nat.reduceEqDiff, Nat.reduceAdd, Nat.reduceMul, Nat.reduceSub, reduceCtorEq, e_none, e_some, e_bindS]
  refine call_rsame (κ := .cap 2) (κ' := upK t) (a := 0) (b := 1) (l := (two n).take t) (l' := (two n).take t) htl htl (okS_cap ht) (by unfold upK; split <;> simp_all [okS]) (by omega) (by omega) (ra := ⟨true, false, ints .u32 (two n)⟩) ?_ ?_ (rb := ⟨true, row.slack, renL (sig [] 1) row.cells⟩) ?_ ?_ ?_
  · simp [Vh.rowAt, renRow, rw_, ints_ren]
  · rw [ints_take]
  · simp [Vh.rowAt, renRow, rw_, hown]
  · rw [renL_take, hrow, ints_ren]
  simp (disch := omega) only [sS, ↓reduceIte, Nat.reduceEqDiff, Nat.reduceAdd, Nat.reduceMul, Nat.reduceSub, reduceCtorEq, e_none, e_some, e_bindS, decide_true, e0]
  refine call_true hw fun H' => ?_
  simp (disch := omega) only [sS, ↓reduceIte, Nat.reduceEqDiff, Nat.reduceAdd, Nat.reduceMul, Nat.reduceSub, reduceCtorEq, e_none, e_some, e_bindS]
  refine ret_keep (by simp) ?_
  first | rfl | (show _ = _; rfl)
end Go.Proofs.YtpkeneadkiabiaaDoor
