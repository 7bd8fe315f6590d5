/- Contracts: tooLong, Of, digits. -/
import Derived.Test.YtpkeneadkiabiabDoorV7
import Derived.Test.YtpkeneadkiabiabDoorC1
set_option linter.unusedSimpArgs false
set_option linter.unusedVariables false
namespace Go.Proofs.YtpkeneadkiabiabDoor
open Go Go.Vh

def lenOf (v : AV) : Nat := (alen v).getD 0

theorem tooLong_calls (cs : List AV) (rest : AHeap) (hcs : ∀ c ∈ cs, (alen c).isSome = true ∧ lenOf c < 9223372036854775807) (hm : cs.length < 9223372036854775807) :
    ACalls Tryd.prog 35 [.slice 0 0 cs.length cs.length] (ro cs :: rest) (List.range (rest.length + 1)) fun v H => v = .int .i64 (if cs.all (fun c => decide (lenOf c ≤ 64)) then 0 else 4) ∧ H = ro cs :: rest := by
  refine ACalls.body Tryd.func35 ent_tooLong ir_tooLong_ok rs_tooLong_ok Tryd.ntmps35 (by simp) (by simp) ?_
  unfold ir_tooLong
  have e0 : s0 [.slice 0 0 cs.length cs.length] 0 = .slice 0 0 cs.length cs.length := rfl
  simp (disch := omega) only [sS, ↓reduceIte, Nat.reduceEqDiff, Nat.reduceAdd, Nat.reduceMul, Nat.reduceSub, reduceCtorEq, e_none, e_some, e_bindS, e0]
  refine ⟨fun n s H => ∃ k : Nat, k ≤ cs.length ∧ n = cs.length - k ∧ (∀ (i : Nat) (c : AV), i < k → cs[i]? = some c → lenOf c ≤ 64) ∧ s 5 = .slice 0 0 cs.length cs.length ∧ s 6 = .int .i64 cs.length ∧ s 7 = .int .i64 k ∧ H = ro cs :: rest, cs.length, ⟨0, by omega, rfl, fun i c hi => by omega, ?_, ?_, ?_, rfl⟩, ?_⟩
  · simp only [e_upd, Nat.reduceEqDiff, ↓reduceIte]
  · simp only [e_upd, Nat.reduceEqDiff, ↓reduceIte]
  · simp only [e_upd, Nat.reduceEqDiff, ↓reduceIte]; rfl
  rintro n s H ⟨k, hk1, rfl, ht, h5, h6, h7, rfl⟩
  by_cases hlt : k < cs.length
  · obtain ⟨h8, h9⟩ := hcs cs[k] (by simp)
    have hg : cs[k]? = some cs[k] := by simp [hlt]
    obtain ⟨m, hmk⟩ := Option.isSome_iff_exists.1 h8
    have hml : lenOf cs[k] = m := by simp [lenOf, hmk]
    by_cases he : m ≤ 64
    · simp (disch := omega) only [sS, ↓reduceIte, Nat.reduceEqDiff, Nat.reduceAdd, Nat.reduceMul, Nat.reduceSub, reduceCtorEq, e_none, e_some, e_bindS, h5, h6, h7, hg, hmk]
      refine loop_keep (m := cs.length - (k + 1)) (by omega) ⟨k + 1, by omega, rfl, fun i c hi hc => ?_, ?_, ?_, ?_, rfl⟩
      · rcases Nat.lt_or_ge i k with h | h
        · exact ht i c h hc
        · obtain rfl : i = k := by omega
          rw [hg] at hc; cases hc; omega
      · simp only [e_upd, Nat.reduceEqDiff, ↓reduceIte, h5]
      · simp only [e_upd, Nat.reduceEqDiff, ↓reduceIte, h6]
      · simp (disch := omega) only [e_upd, Nat.reduceEqDiff, ↓reduceIte, h7, w64, AV.int.injEq]; simp
    · simp (disch := omega) only [sS, ↓reduceIte, Nat.reduceEqDiff, Nat.reduceAdd, Nat.reduceMul, Nat.reduceSub, reduceCtorEq, e_none, e_some, e_bindS, h5, h6, h7, hg, hmk]
      refine ret_keep (by simp) ⟨?_, rfl⟩
      simp only [e_upd, ↓reduceIte]
      rw [if_neg]
      simp only [List.all_eq_true, decide_eq_true_eq, Classical.not_forall]
      exact ⟨cs[k], by simp, by omega⟩
  · simp (disch := omega) only [sS, ↓reduceIte, Nat.reduceEqDiff, Nat.reduceAdd, Nat.reduceMul, Nat.reduceSub, reduceCtorEq, e_none, e_some, e_bindS, h5, h6, h7]
    refine ret_keep (by simp) ⟨?_, rfl⟩
    simp only [e_upd, ↓reduceIte]
    rw [if_pos]
    simp only [List.all_eq_true, decide_eq_true_eq]
    intro c hc
    obtain ⟨i, hi, rfl⟩ := List.getElem_of_mem hc
    exact ht i _ (by omega) (by simp [hi])

/-- the two limbs of a number of 64 bits -/
def two (n : Int) : List Int := [n % 4294967296, n / 4294967296]

theorem xof_calls (n : Int) (h0 : 0 ≤ n) (h1 : n ≤ 18446744073709551615) : ACalls Tryd.prog 34 [.int .u64 n] [] [] fun v H => v = mkS (.cap 2) 0 0 (tz (two n) 2) ∧ H = [rw_ (ints .u32 (two n))] := by
  refine ACalls.body Tryd.func34 ent_xof ir_xof_ok rs_xof_ok Tryd.ntmps34 (by simp) rfl ?_
  unfold ir_xof
  have e0 : s0 [.int .u64 n] 0 = .int .u64 n := rfl
  have hs : abin .shr (.int .u64 n) (.int .u64 32) = some (.int .u64 (n / 4294967296)) := b_shr (n := 32) (by decide)
  have wu : IntKind.u32.wrap n = n % 4294967296 := IntKind.wrap_u32 n
  have wv : IntKind.u32.wrap (n / 4294967296) = n / 4294967296 := by rw [IntKind.wrap_u32]; omega
  simp (disch := omega) only [sS, ↓reduceIte, Nat.reduceEqDiff, Nat.reduceAdd, Nat.reduceMul, Nat.reduceSub, reduceCtorEq, e_none, e_some, e_bindS, e0, hs, wu, wv]
  rw [x_bs2 (v := .int .u32 (n % 4294967296)) (u := .int .u32 (n / 4294967296)) (by simp only [e_t, e_upd, Nat.reduceEqDiff, ↓reduceIte]) (by simp only [e_t, e_upd, Nat.reduceEqDiff, ↓reduceIte]) rfl rfl rfl]
  simp (disch := omega) only [sS, ↓reduceIte, Nat.reduceEqDiff, Nat.reduceAdd, Nat.reduceMul, Nat.reduceSub, reduceCtorEq, e_none, e_some, e_bindS]
  refine call_ints (r := 0) (row := ⟨true, false, ints .u32 (two n)⟩) (xtrim_calls (.cap 2) (two n) (okS_cap (by simp [two])) (by simp [two])) rfl rfl rfl rfl ?_
  rintro v0 H0' ⟨rfl, rfl⟩
  simp (disch := omega) only [sS, ↓reduceIte, Nat.reduceEqDiff, Nat.reduceAdd, Nat.reduceMul, Nat.reduceSub, reduceCtorEq, e_none, e_some, e_bindS]
  refine ret_keep (by simp) ⟨?_, rfl⟩
  simp only [e_upd, ↓reduceIte]
  rw [n_mkS rfl]
  rfl
end Go.Proofs.YtpkeneadkiabiabDoor


