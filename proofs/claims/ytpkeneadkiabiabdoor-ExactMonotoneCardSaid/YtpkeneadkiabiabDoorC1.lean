/- Contracts of the small functions. -/
import Derived.Test.YtpkeneadkiabiabDoorV7
import Derived.Test.YtpkeneadkiabiabDoorIr1
set_option linter.unusedSimpArgs false
set_option linter.unusedVariables false
namespace Go.Proofs.YtpkeneadkiabiabDoor
open Go Go.Vh

/-- how many are left without the zeros at the end -/
def tz (l : List Int) : Nat → Nat
  | 0 => 0
  | k+1 => if l.getD k 0 = 0 then tz l k else k+1

theorem tz_le (l : List Int) : ∀ n, tz l n ≤ n
  | 0 => Nat.le_refl _
  | n + 1 => by unfold tz; split; exact Nat.le_succ_of_le (tz_le l n); exact Nat.le_refl _

theorem xtrim_iwp (κ : SK) (l : List Int) (hk : okS κ l.length) (hm : l.length < 9223372036854775807) :
   iwp Tryd.prog 1 ir_xtrim (retPost 1 rs_xtrim fun v H => v = mkS κ 0 0 (tz l l.length) ∧ H = [ro (ints .u32 l)]) (s0 [mkS κ 0 0 l.length]) [ro (ints .u32 l)] := by
  unfold ir_xtrim
  simp only [sS, ↓reduceIte, Nat.reduceEqDiff, Nat.reduceAdd, Nat.reduceMul, Nat.reduceSub, reduceCtorEq, e_none, e_some, e_bindS]
  refine ⟨fun n s H => ∃ k : Nat, k ≤ l.length ∧ n = k ∧ tz l k = tz l l.length ∧ s 0 = mkS κ 0 0 k ∧ H = [ro (ints .u32 l)], l.length, ⟨l.length, Nat.le_refl _, rfl, rfl, rfl, rfl⟩, ?_⟩
  rintro n s H ⟨k, hk1, rfl, ht, h0, rfl⟩
  rcases Nat.eq_zero_or_pos n with rfl | hn
  · simp (disch := omega) only [sS, ↓reduceIte, Nat.reduceEqDiff, Nat.reduceAdd, Nat.reduceMul, Nat.reduceSub, reduceCtorEq, e_none, e_some, e_bindS, h0, k_len hk, k_idx hk, k_sl hk]
    refine ret_keep (by simp) ⟨?_, rfl⟩
    simp only [e_upd, ↓reduceIte]
    rw [← ht]; rfl
  · obtain ⟨m, rfl⟩ : ∃ m, n = m + 1 := ⟨n - 1, by omega⟩
    by_cases hz : l.getD m 0 = 0
    · simp (disch := omega) only [sS, ↓reduceIte, Nat.reduceEqDiff, Nat.reduceAdd, Nat.reduceMul, Nat.reduceSub, reduceCtorEq, e_none, e_some, e_bindS, h0, k_len hk, k_idx hk, k_sl hk]
      refine loop_keep (by omega) ⟨m, by omega, rfl, ?_, by simp only [e_upd, ↓reduceIte, Nat.reduceEqDiff], rfl⟩
      rw [← ht, tz, if_pos hz]
    · simp (disch := omega) only [sS, ↓reduceIte, Nat.reduceEqDiff, Nat.reduceAdd, Nat.reduceMul, Nat.reduceSub, reduceCtorEq, e_none, e_some, e_bindS, h0, k_len hk, k_idx hk, k_sl hk]
      refine ret_keep (by simp) ⟨?_, rfl⟩
      simp only [e_upd, ↓reduceIte]
      rw [← ht, tz, if_neg hz]

theorem xtrim_calls (κ : SK) (l : List Int) (hk : okS κ l.length) (hm : l.length < 9223372036854775807) : ACalls Tryd.prog 37 [mkS κ 0 0 l.length] [ro (ints .u32 l)] [0] fun v H => v = mkS κ 0 0 (tz l l.length) ∧ H = [ro (ints .u32 l)] :=
  ACalls.body Tryd.func37 ent_xtrim ir_xtrim_ok rs_xtrim_ok Tryd.ntmps37 (by simp) rfl (xtrim_iwp κ l hk hm)

theorem limb_calls (κ : SK) (l : List Int) (hk : okS κ l.length) (hm : l.length < 9223372036854775807) (i : Nat) (hi : i < 9223372036854775807) : ACalls Tryd.prog 46 [mkS κ 0 0 l.length, .int .i64 i] [ro (ints .u32 l)] [0] fun v H => v = .int .u32 (l.getD i 0) ∧ H = [ro (ints .u32 l)] := by
  refine ACalls.body Tryd.func46 ent_limb ir_limb_ok rs_limb_ok Tryd.ntmps46 (by simp) rfl ?_
  unfold ir_limb
  have e0 : s0 [mkS κ 0 0 l.length, .int .i64 i] 0 = mkS κ 0 0 l.length := rfl
  have e1 : s0 [mkS κ 0 0 l.length, .int .i64 i] 1 = .int .i64 i := rfl
  by_cases h : i < l.length
  · simp (disch := omega) only [sS, ↓reduceIte, Nat.reduceEqDiff, Nat.reduceAdd, Nat.reduceMul, Nat.reduceSub, reduceCtorEq, e_none, e_some, e_bindS, e0, e1, k_len hk, k_idx hk, k_sl hk]
    refine ret_keep (by simp) ⟨?_, rfl⟩
    simp only [e_upd, ↓reduceIte]
  · simp (disch := omega) only [sS, ↓reduceIte, Nat.reduceEqDiff, Nat.reduceAdd, Nat.reduceMul, Nat.reduceSub, reduceCtorEq, e_none, e_some, e_bindS, e0, e1, k_len hk, k_idx hk, k_sl hk]
    refine ret_keep (by simp) ⟨?_, rfl⟩
    have : l[i]? = none := List.getElem?_eq_none (by omega)
    simp only [e_upd, ↓reduceIte, List.getD_eq_getElem?_getD, this, Option.getD_none]

theorem rsame_calls (κ κ' : SK) (l l' : List Int) (hk : okS κ l.length) (hk' : okS κ' l'.length) (hm : l.length < 9223372036854775807) (hm' : l'.length < 9223372036854775807) :
    ACalls Tryd.prog 15 [mkS κ 0 0 l.length, mkS κ' 1 0 l'.length] [ro (ints .u32 l), ro (ints .u32 l')] [0, 1] fun v H => v = .bool (decide (l = l')) ∧ H = [ro (ints .u32 l), ro (ints .u32 l')] := by
  refine ACalls.body Tryd.func15 ent_rsame ir_rsame_ok rs_rsame_ok Tryd.ntmps15 (by simp) rfl ?_
  unfold ir_rsame
  have e0 : s0 [mkS κ 0 0 l.length, mkS κ' 1 0 l'.length] 0 = mkS κ 0 0 l.length := rfl
  have e1 : s0 [mkS κ 0 0 l.length, mkS κ' 1 0 l'.length] 1 = mkS κ' 1 0 l'.length := rfl
  by_cases h : l.length = l'.length
  · simp (disch := omega) only [sS, ↓reduceIte, Nat.reduceEqDiff, Nat.reduceAdd, Nat.reduceMul, Nat.reduceSub, reduceCtorEq, e_none, e_some, e_bindS, e0, e1, k_len hk, k_len hk']
    refine ⟨fun n s H => ∃ k : Nat, k ≤ l.length ∧ n = l.length - k ∧ (∀ i, i < k → l.getD i 0 = l'.getD i 0) ∧ s 0 = mkS κ 0 0 l.length ∧ s 1 = mkS κ' 1 0 l'.length ∧ s 5 = .int .i64 k ∧ H = [ro (ints .u32 l), ro (ints .u32 l')], l.length, ⟨0, by omega, rfl, fun i hi => by omega, ?_, ?_, ?_, rfl⟩, ?_⟩
    · simp only [e_upd, Nat.reduceEqDiff, ↓reduceIte, e0]
    · simp only [e_upd, Nat.reduceEqDiff, ↓reduceIte, e1]
    · simp only [e_upd, ↓reduceIte]; rfl
    rintro n s H ⟨k, hk1, rfl, ht, h0, h1, h5, rfl⟩
    by_cases hlt : k < l.length
    · by_cases he : l.getD k 0 = l'.getD k 0
      · simp (disch := omega) only [sS, ↓reduceIte, Nat.reduceEqDiff, Nat.reduceAdd, Nat.reduceMul, Nat.reduceSub, reduceCtorEq, e_none, e_some, e_bindS, h0, h1, h5, k_len hk, k_len hk', k_idx hk, k_idx hk']
        refine loop_keep (m := l.length - (k + 1)) (by omega) ⟨k + 1, by omega, rfl, fun i hi => ?_, ?_, ?_, ?_, rfl⟩
        · rcases Nat.lt_or_ge i k with h6 | h6
          · exact ht i h6
          · obtain rfl : i = k := by omega
            exact he
        · simp only [e_upd, Nat.reduceEqDiff, ↓reduceIte, h0]
        · simp only [e_upd, Nat.reduceEqDiff, ↓reduceIte, h1]
        · simp (disch := omega) only [e_upd, Nat.reduceEqDiff, ↓reduceIte, h5, w64, AV.int.injEq]; simp
      · simp (disch := omega) only [sS, ↓reduceIte, Nat.reduceEqDiff, Nat.reduceAdd, Nat.reduceMul, Nat.reduceSub, reduceCtorEq, e_none, e_some, e_bindS, h0, h1, h5, k_len hk, k_len hk', k_idx hk, k_idx hk']
        refine ret_keep (by simp) ⟨?_, rfl⟩
        simp only [e_upd, ↓reduceIte]
        rw [dF (fun e => he (by rw [e]))]
    · simp (disch := omega) only [sS, ↓reduceIte, Nat.reduceEqDiff, Nat.reduceAdd, Nat.reduceMul, Nat.reduceSub, reduceCtorEq, e_none, e_some, e_bindS, h0, h1, h5, k_len hk, k_len hk', k_idx hk, k_idx hk']
      refine ret_keep (by simp) ⟨?_, rfl⟩
      simp only [e_upd, ↓reduceIte]
      rw [dT]
      refine List.ext_getElem h fun i hi hi' => ?_
      have := ht i (by omega)
      simpa [List.getD_eq_getElem?_getD, hi, hi'] using this
  · simp (disch := omega) only [sS, ↓reduceIte, Nat.reduceEqDiff, Nat.reduceAdd, Nat.reduceMul, Nat.reduceSub, reduceCtorEq, e_none, e_some, e_bindS, e0, e1, k_len hk, k_len hk']
    refine ret_keep (by simp) ⟨?_, rfl⟩
    simp only [e_upd, ↓reduceIte]
    rw [dF (fun e => h (by rw [e]))]
end Go.Proofs.YtpkeneadkiabiabDoor


