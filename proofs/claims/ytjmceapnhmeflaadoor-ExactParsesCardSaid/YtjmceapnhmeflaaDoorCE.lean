/- Contracts of the small functions. -/
import Derived.Test.YtjmceapnhmeflaaDoorV7
import Derived.Test.YtjmceapnhmeflaaDoorIr1
set_option linter.unusedSimpArgs false
set_option linter.unusedVariables false
namespace Go.Proofs.YtjmceapnhmeflaaDoor
open Go Go.Vh

/-- how many are left without the zeros at the end -/
def tz (l : List Int) : Nat → Nat
  | 0 => 0
  | k+1 => if l.getD k 0 = 0 then tz l k else k+1

theorem tz_le (l : List Int) : ∀ n, tz l n ≤ n
  | 0 => Nat.le_refl _
  | n + 1 => by unfold tz; split; exact Nat.le_succ_of_le (tz_le l n); exact Nat.le_refl _

theorem rtrim_iwp (κ : SK) (l : List Int) (hk : okS κ l.length) (hm : l.length < 9223372036854775807) :
   iwp Tryd.prog 1 ir_rtrim (retPost 1 rs_rtrim fun v H => v = mkS κ 0 0 (tz l l.length) ∧ H = [ro (ints .i64 l)]) (s0 [mkS κ 0 0 l.length]) [ro (ints .i64 l)] := by
  unfold ir_rtrim
  have hle : l.length ≤ l.length := Nat.le_refl _
  simp (disch := omega) only [sS, ↓reduceIte, Nat.reduceEqDiff, Nat.reduceAdd, Nat.reduceMul, Nat.reduceSub, reduceCtorEq, e_none, e_some, e_bindS, show (s0 [mkS κ 0 0 l.length] 0) = mkS κ 0 0 l.length from rfl, k_len hk]
  refine ⟨fun n s H => ∃ k : Nat, k ≤ l.length ∧ n = k ∧ tz l k = tz l l.length ∧ s 0 = mkS κ 0 0 l.length ∧ s 3 = .int .i64 k ∧ H = [ro (ints .i64 l)], l.length, ⟨l.length, Nat.le_refl _, rfl, rfl, rfl, by simp only [e_upd, ↓reduceIte], rfl⟩, ?_⟩
  rintro n s H ⟨k, hk1, rfl, ht, h0, h3, rfl⟩
  rcases Nat.eq_zero_or_pos n with rfl | hn
  · simp (disch := omega) only [sS, ↓reduceIte, Nat.reduceEqDiff, Nat.reduceAdd, Nat.reduceMul, Nat.reduceSub, reduceCtorEq, e_none, e_some, e_bindS, h0, h3, k_len hk, k_idx hk, k_sl hk]
    refine ret_keep (by simp) ⟨?_, rfl⟩
    simp only [e_upd, ↓reduceIte]
    rw [← ht]; rfl
  · obtain ⟨m, rfl⟩ : ∃ m, n = m + 1 := ⟨n - 1, by omega⟩
    by_cases hz : l.getD m 0 = 0
    · simp (disch := omega) only [sS, ↓reduceIte, Nat.reduceEqDiff, Nat.reduceAdd, Nat.reduceMul, Nat.reduceSub, reduceCtorEq, e_none, e_some, e_bindS, h0, h3, k_len hk, k_idx hk, k_sl hk]
      refine loop_keep (by omega) ⟨m, by omega, rfl, ?_, by simp only [e_upd, ↓reduceIte, Nat.reduceEqDiff]; exact h0, ?_, rfl⟩
      · rw [← ht, tz, if_pos hz]
      · simp (disch := omega) only [e_upd, ↓reduceIte, Nat.reduceEqDiff, h3, w64, AV.int.injEq]; simp
    · simp (disch := omega) only [sS, ↓reduceIte, Nat.reduceEqDiff, Nat.reduceAdd, Nat.reduceMul, Nat.reduceSub, reduceCtorEq, e_none, e_some, e_bindS, h0, h3, k_len hk, k_idx hk, k_sl hk]
      refine ret_keep (by simp) ⟨?_, rfl⟩
      simp only [e_upd, ↓reduceIte]
      rw [← ht, tz, if_neg hz]

theorem rtrim_calls (κ : SK) (l : List Int) (hk : okS κ l.length) (hm : l.length < 9223372036854775807) : ACalls Tryd.prog 63 [mkS κ 0 0 l.length] [ro (ints .i64 l)] [0] fun v H => v = mkS κ 0 0 (tz l l.length) ∧ H = [ro (ints .i64 l)] :=
  ACalls.body Tryd.func63 ent_rtrim ir_rtrim_ok rs_rtrim_ok Tryd.ntmps63 (by simp) rfl (rtrim_iwp κ l hk hm)

theorem xtrim_iwp (κ : SK) (l : List Int) (hk : okS κ l.length) (hm : l.length < 9223372036854775807) :
   iwp Tryd.prog 1 ir_xtrim (retPost 1 rs_xtrim fun v H => v = mkS κ 0 0 (tz l l.length) ∧ H = [ro (ints .u32 l)]) (s0 [mkS κ 0 0 l.length]) [ro (ints .u32 l)] := by
  unfold ir_xtrim
  simp only [sS, ↓reduceIte, Nat.reduceEqDiff, Nat.reduceAdd, Nat.reduceMul, Nat.reduceSub, reduceCtorEq, e_none, e_some, e_bindS]
  refine ⟨fun n s H => ∃ k : Nat, k ≤ l.length ∧ n = k ∧ tz l k = tz l l.length ∧ s 0 = mkS κ 0 0 k ∧ H = [ro (ints .u32 l)], l.length, ⟨l.length, Nat.le_refl _, rfl, rfl, rfl, rfl⟩, ?_⟩
  rintro n s H ⟨k, hk1, rfl, ht, h0, rfl⟩
  rcases Nat.eq_zero_or_pos n with rfl | hn
  · simp (disch := omega) only [sS, ↓reduceIte, Nat.reduceEqDiff, Nat.reduceAdd, Nat.reduceMul, Nat.reduceSub, reduceCtorEq, e_none, e_some, e_bindS, h0, k_len hk, k_idx hk, k_sl hk]
    refine ret_keep (by simp) ⟨?_, rfl⟩
    simp only [e_upd, ↓reduceIte]
    rw [← ht]; rfl
  · obtain ⟨m, rfl⟩ : ∃ m, n = m + 1 := ⟨n - 1, by omega⟩
    by_cases hz : l.getD m 0 = 0
    · simp (disch := omega) only [sS, ↓reduceIte, Nat.reduceEqDiff, Nat.reduceAdd, Nat.reduceMul, Nat.reduceSub, reduceCtorEq, e_none, e_some, e_bindS, h0, k_len hk, k_idx hk, k_sl hk]
      refine loop_keep (by omega) ⟨m, by omega, rfl, ?_, by simp only [e_upd, ↓reduceIte, Nat.reduceEqDiff], rfl⟩
      rw [← ht, tz, if_pos hz]
    · simp (disch := omega) only [sS, ↓reduceIte, Nat.reduceEqDiff, Nat.reduceAdd, Nat.reduceMul, Nat.reduceSub, reduceCtorEq, e_none, e_some, e_bindS, h0, k_len hk, k_idx hk, k_sl hk]
      refine ret_keep (by simp) ⟨?_, rfl⟩
      simp only [e_upd, ↓reduceIte]
      rw [← ht, tz, if_neg hz]

theorem xtrim_calls (κ : SK) (l : List Int) (hk : okS κ l.length) (hm : l.length < 9223372036854775807) : ACalls Tryd.prog 59 [mkS κ 0 0 l.length] [ro (ints .u32 l)] [0] fun v H => v = mkS κ 0 0 (tz l l.length) ∧ H = [ro (ints .u32 l)] :=
  ACalls.body Tryd.func59 ent_xtrim ir_xtrim_ok rs_xtrim_ok Tryd.ntmps59 (by simp) rfl (xtrim_iwp κ l hk hm)

theorem limb_calls (κ : SK) (l : List Int) (hk : okS κ l.length) (hm : l.length < 9223372036854775807) (i : Nat) (hi : i < 9223372036854775807) : ACalls Tryd.prog 61 [mkS κ 0 0 l.length, .int .i64 i] [ro (ints .u32 l)] [0] fun v H => v = .int .u32 (l.getD i 0) ∧ H = [ro (ints .u32 l)] := by
  refine ACalls.body Tryd.func61 ent_limb ir_limb_ok rs_limb_ok Tryd.ntmps61 (by simp) rfl ?_
  unfold ir_limb
  have e0 : s0 [mkS κ 0 0 l.length, .int .i64 i] 0 = mkS κ 0 0 l.length := rfl
  have e1 : s0 [mkS κ 0 0 l.length, .int .i64 i] 1 = .int .i64 i := rfl
  by_cases h : i < l.length
  · simp (disch := omega) only [sS, ↓reduceIte, Nat.reduceEqDiff, Nat.reduceAdd, Nat.reduceMul, Nat.reduceSub, reduceCtorEq, e_none, e_some, e_bindS, e0, e1, k_len hk, k_idx hk, k_sl hk]
    refine ret_keep (by simp) ⟨?_, rfl⟩
    simp only [e_upd, ↓reduceIte]
  · simp (disch := omega) only [sS, ↓reduceIte, Nat.reduceEqDiff, Nat.reduceAdd, Nat.reduceMul, Nat.reduceSub, reduceCtorEq, e_none, e_some, e_bindS, e0, e1, k_len hk, k_idx hk, k_sl hk]
    refine ret_keep (by simp) ⟨?_, rfl⟩
    have : l[i]? = none := List.getElem?_eq_none (by omega)
    simp only [e_upd, ↓reduceIte, List.getD_eq_getElem?_getD, this, Option.getD_none]

theorem rsame_calls (κ κ' : SK) (l l' : List Int) (hk : okS κ l.length) (hk' : okS κ' l'.length) (hm : l.length < 9223372036854775807) (hm' : l'.length < 9223372036854775807) :
    ACalls Tryd.prog 16 [mkS κ 0 0 l.length, mkS κ' 1 0 l'.length] [ro (ints .u32 l), ro (ints .u32 l')] [0, 1] fun v H => v = .bool (decide (l = l')) ∧ H = [ro (ints .u32 l), ro (ints .u32 l')] := by
  refine ACalls.body Tryd.func16 ent_rsame ir_rsame_ok rs_rsame_ok Tryd.ntmps16 (by simp) rfl ?_
  unfold ir_rsame
  have e0 : s0 [mkS κ 0 0 l.length, mkS κ' 1 0 l'.length] 0 = mkS κ 0 0 l.length := rfl
  have e1 : s0 [mkS κ 0 0 l.length, mkS κ' 1 0 l'.length] 1 = mkS κ' 1 0 l'.length := rfl
  by_cases h : l.length = l'.length
  · simp (disch := omega) only [sS, ↓reduceIte, Nat.reduceEqDiff, Nat.reduceAdd, Nat.reduceMul, Nat.reduceSub, reduceCtorEq, e_none, e_some, e_bindS, e0, e1, k_len hk, k_len hk']
    refine ⟨fun n s H => ∃ k : Nat, k ≤ l.length ∧ n = l.length - k ∧ (∀ i, i < k → l.getD i 0 = l'.getD i 0) ∧ s 0 = mkS κ 0 0 l.length ∧ s 1 = mkS κ' 1 0 l'.length ∧ s 5 = .int .i64 k ∧ H = [ro (ints .u32 l), ro (ints .u32 l')], l.length, ⟨0, by omega, rfl, fun i hi => by omega, ?_, ?_, ?_, rfl⟩, ?_⟩
    · simp only [e_upd, Nat.reduceEqDiff, ↓reduceIte, e0]
    · simp only [e_upd, Nat.reduceEqDiff, ↓reduceIte, e1]
    · simp only [e_upd, ↓reduceIte]; rfl
    rintro n s H ⟨k, hk1, rfl, ht, h0, h1, h5, rfl⟩
    by_cases hlt : k < l.length
    · by_cases he : l.getD k 0 = l'.getD k 0
      · simp (disch := omega) only [sS, ↓reduceIte, Nat.reduceEqDiff, Nat.reduceAdd, Nat.reduceMul, Nat.reduceSub, reduceCtorEq, e_none, e_some, e_bindS, h0, h1, h5, k_len hk, k_len hk', k_idx hk, k_idx hk']
        refine loop_keep (m := l.length - (k + 1)) (by omega) ⟨k + 1, by omega, rfl, fun i hi => ?_, ?_, ?_, ?_, rfl⟩
        · rcases Nat.lt_or_ge i k with h6 | h6
          · exact ht i h6
          · obtain rfl : i = k := by omega
            exact he
        · simp only [e_upd, Nat.reduceEqDiff, ↓reduceIte, h0]
        · simp only [e_upd, Nat.reduceEqDiff, ↓reduceIte, h1]
        · simp (disch := omega) only [e_upd, Nat.reduceEqDiff, ↓reduceIte, h5, w64, AV.int.injEq]; simp
      · simp (disch := omega) only [sS, ↓reduceIte, Nat.reduceEqDiff, Nat.reduceAdd, Nat.reduceMul, Nat.reduceSub, reduceCtorEq, e_none, e_some, e_bindS, h0, h1, h5, k_len hk, k_len hk', k_idx hk, k_idx hk']
        refine ret_keep (by simp) ⟨?_, rfl⟩
        simp only [e_upd, ↓reduceIte]
        rw [dF (fun e => he (by rw [e]))]
    · simp (disch := omega) only [sS, ↓reduceIte, Nat.reduceEqDiff, Nat.reduceAdd, Nat.reduceMul, Nat.reduceSub, reduceCtorEq, e_none, e_some, e_bindS, h0, h1, h5, k_len hk, k_len hk', k_idx hk, k_idx hk']
      refine ret_keep (by simp) ⟨?_, rfl⟩
      simp only [e_upd, ↓reduceIte]
      rw [dT]
      refine List.ext_getElem h fun i hi hi' => ?_
      have := ht i (by omega)
      simpa [List.getD_eq_getElem?_getD, hi, hi'] using this
  · simp (disch := omega) only [sS, ↓reduceIte, Nat.reduceEqDiff, Nat.reduceAdd, Nat.reduceMul, Nat.reduceSub, reduceCtorEq, e_none, e_some, e_bindS, e0, e1, k_len hk, k_len hk']
    refine ret_keep (by simp) ⟨?_, rfl⟩
    simp only [e_upd, ↓reduceIte]
    rw [dF (fun e => h (by rw [e]))]
end Go.Proofs.YtjmceapnhmeflaaDoor


/- Contracts: tooLong, Of, digits. -/
namespace Go.Proofs.YtjmceapnhmeflaaDoor
open Go Go.Vh

def lenOf (v : AV) : Nat := (alen v).getD 0

theorem tooLong_calls (cs : List AV) (rest : AHeap) (hcs : ∀ c ∈ cs, (alen c).isSome = true ∧ lenOf c < 9223372036854775807) (hm : cs.length < 9223372036854775807) :
    ACalls Tryd.prog 60 [.slice 0 0 cs.length cs.length] (ro cs :: rest) (List.range (rest.length + 1)) fun v H => v = .int .i64 (if cs.all (fun c => decide (lenOf c ≤ 64)) then 0 else 4) ∧ H = ro cs :: rest := by
  refine ACalls.body Tryd.func60 ent_tooLong ir_tooLong_ok rs_tooLong_ok Tryd.ntmps60 (by simp) (by simp) ?_
  unfold ir_tooLong
  have e0 : s0 [.slice 0 0 cs.length cs.length] 0 = .slice 0 0 cs.length cs.length := rfl
  simp (disch := omega) only [sS, ↓reduceIte, Nat.reduceEqDiff, Nat.reduceAdd, Nat.reduceMul, Nat.reduceSub, reduceCtorEq, e_none, e_some, e_bindS, e0]
  refine ⟨fun n s H => ∃ k : Nat, k ≤ cs.length ∧ n = cs.length - k ∧ (∀ (i : Nat) (c : AV), i < k → cs[i]? = some c → lenOf c ≤ 64) ∧ s 5 = .slice 0 0 cs.length cs.length ∧ s 6 = .int .i64 cs.length ∧ s 7 = .int .i64 k ∧ H = ro cs :: rest, cs.length, ⟨0, by omega, rfl, fun i c hi => by omega, ?_, ?_, ?_, rfl⟩, ?_⟩
  · simp only [e_upd, Nat.reduceEqDiff, ↓reduceIte]
  · simp only [e_upd, Nat.reduceEqDiff, ↓reduceIte]
  · simp only [e_upd, Nat.reduceEqDiff, ↓reduceIte]; rfl
  rintro n s H ⟨k, hk1, rfl, ht, h5, h6, h7, rfl⟩
  by_cases hlt : k < cs.length
  · obtain ⟨h8, h9⟩ := hcs cs[k] (by simp)
    have hg : cs[k]? = some cs[k] := by simp [hlt]
    obtain ⟨m, hmk⟩ := Option.isSome_iff_exists.1 h8
    have hml : lenOf cs[k] = m := by simp [lenOf, hmk]
    by_cases he : m ≤ 64
    · simp (disch := omega) only [sS, ↓reduceIte, Nat.reduceEqDiff, Nat.reduceAdd, Nat.reduceMul, Nat.reduceSub, reduceCtorEq, e_none, e_some, e_bindS, h5, h6, h7, hg, hmk]
      refine loop_keep (m := cs.length - (k + 1)) (by omega) ⟨k + 1, by omega, rfl, fun i c hi hc => ?_, ?_, ?_, ?_, rfl⟩
      · rcases Nat.lt_or_ge i k with h | h
        · exact ht i c h hc
        · obtain rfl : i = k := by omega
          rw [hg] at hc; cases hc; omega
      · simp only [e_upd, Nat.reduceEqDiff, ↓reduceIte, h5]
      · simp only [e_upd, Nat.reduceEqDiff, ↓reduceIte, h6]
      · simp (disch := omega) only [e_upd, Nat.reduceEqDiff, ↓reduceIte, h7, w64, AV.int.injEq]; simp
    · simp (disch := omega) only [sS, ↓reduceIte, Nat.reduceEqDiff, Nat.reduceAdd, Nat.reduceMul, Nat.reduceSub, reduceCtorEq, e_none, e_some, e_bindS, h5, h6, h7, hg, hmk]
      refine ret_keep (by simp) ⟨?_, rfl⟩
      simp only [e_upd, ↓reduceIte]
      rw [if_neg]
      simp only [List.all_eq_true, decide_eq_true_eq, Classical.not_forall]
      exact ⟨cs[k], by simp, by omega⟩
  · simp (disch := omega) only [sS, ↓reduceIte, Nat.reduceEqDiff, Nat.reduceAdd, Nat.reduceMul, Nat.reduceSub, reduceCtorEq, e_none, e_some, e_bindS, h5, h6, h7]
    refine ret_keep (by simp) ⟨?_, rfl⟩
    simp only [e_upd, ↓reduceIte]
    rw [if_pos]
    simp only [List.all_eq_true, decide_eq_true_eq]
    intro c hc
    obtain ⟨i, hi, rfl⟩ := List.getElem_of_mem hc
    exact ht i _ (by omega) (by simp [hi])

/-- the two limbs of a number of 64 bits -/
def two (n : Int) : List Int := [n % 4294967296, n / 4294967296]

theorem xof_calls (n : Int) (h0 : 0 ≤ n) (h1 : n ≤ 18446744073709551615) : ACalls Tryd.prog 14 [.int .u64 n] [] [] fun v H => v = mkS (.cap 2) 0 0 (tz (two n) 2) ∧ H = [rw_ (ints .u32 (two n))] := by
  refine ACalls.body Tryd.func14 ent_xof ir_xof_ok rs_xof_ok Tryd.ntmps14 (by simp) rfl ?_
  unfold ir_xof
  have e0 : s0 [.int .u64 n] 0 = .int .u64 n := rfl
  have hs : abin .shr (.int .u64 n) (.int .u64 32) = some (.int .u64 (n / 4294967296)) := b_shr (n := 32) (by decide)
  have wu : IntKind.u32.wrap n = n % 4294967296 := IntKind.wrap_u32 n
  have wv : IntKind.u32.wrap (n / 4294967296) = n / 4294967296 := by rw [IntKind.wrap_u32]; omega
  simp (disch := omega) only [sS, ↓reduceIte, Nat.reduceEqDiff, Nat.reduceAdd, Nat.reduceMul, Nat.reduceSub, reduceCtorEq, e_none, e_some, e_bindS, e0, hs, wu, wv]
  rw [x_bs2 (v := .int .u32 (n % 4294967296)) (u := .int .u32 (n / 4294967296)) (by simp only [e_t, e_upd, Nat.reduceEqDiff, ↓reduceIte]) (by simp only [e_t, e_upd, Nat.reduceEqDiff, ↓reduceIte]) rfl rfl rfl]
  simp (disch := omega) only [sS, ↓reduceIte, Nat.reduceEqDiff, Nat.reduceAdd, Nat.reduceMul, Nat.reduceSub, reduceCtorEq, e_none, e_some, e_bindS]
  refine call_ints (r := 0) (row := ⟨true, false, ints .u32 (two n)⟩) (xtrim_calls (.cap 2) (two n) (okS_cap (by simp [two])) (by simp [two])) rfl rfl rfl rfl ?_
  rintro v0 H0' ⟨rfl, rfl⟩
  simp (disch := omega) only [sS, ↓reduceIte, Nat.reduceEqDiff, Nat.reduceAdd, Nat.reduceMul, Nat.reduceSub, reduceCtorEq, e_none, e_some, e_bindS]
  refine ret_keep (by simp) ⟨?_, rfl⟩
  simp only [e_upd, ↓reduceIte]
  rw [n_mkS rfl]
  rfl
end Go.Proofs.YtjmceapnhmeflaaDoor


/- Contracts: Small. -/
namespace Go.Proofs.YtjmceapnhmeflaaDoor
open Go Go.Vh

section
variable {K : St → AHeap → Prop} {d : Option Nat} {s : St} {H : AHeap}
end

theorem b_or {a b : Int} (h0 : 0 ≤ a) (h1 : a ≤ 4294967295) (h2 : 0 ≤ b) (h3 : b ≤ 4294967295) : abin .or (.int .u64 (a * 4294967296)) (.int .u64 b) = some (.int .u64 (a * 4294967296 + b)) := by
  obtain ⟨m, rfl⟩ : ∃ m : Nat, a = m := ⟨a.toNat, by omega⟩
  obtain ⟨k, rfl⟩ : ∃ k : Nat, b = k := ⟨b.toNat, by omega⟩
  have e1 : ((m : Int) * 4294967296) = ((m * 4294967296 : Nat) : Int) := by omega
  have e2 : (BitVec.ofInt 64 ((m * 4294967296 : Nat) : Int) ||| BitVec.ofInt 64 (k : Int)).toNat = m * 4294967296 + k := by
    rw [BitVec.ofInt_natCast, BitVec.ofInt_natCast, BitVec.toNat_or, BitVec.toNat_ofNat, BitVec.toNat_ofNat, Nat.mod_eq_of_lt (by omega), Nat.mod_eq_of_lt (by omega)]
    have := Nat.shiftLeft_add_eq_or_of_lt (b := k) (i := 32) (by omega) m
    rw [Nat.shiftLeft_eq] at this
    exact this.symm
  simp only [abin, aint, abits, if_true, e1]
  congr 2
  have : (IntKind.u64).bits = 64 := rfl
  rw [show (BitVec.ofInt IntKind.u64.bits ((m * 4294967296 : Nat) : Int) ||| BitVec.ofInt IntKind.u64.bits (k : Int)).toNat = m * 4294967296 + k from e2]
  rw [wu64 (by omega) (by omega)]
  omega

end Go.Proofs.YtjmceapnhmeflaaDoor

