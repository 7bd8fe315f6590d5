/- Texts of code of this program, checked against its dump. -/
import Derived.Test.YthbhljolpnbdlaaV7
import Derived.Test.YthbhljolpnbdlaaChecked
set_option linter.unusedSimpArgs false
set_option linter.unusedVariables false
namespace Go.Proofs.Ythbhljolpnbdlaa.S1
open Go Go.Vh
def ir_xtrim : IR := (.seq (.ops [⟨(some 2), none, (.pure (.move (.c .nilslice)))⟩]) (.seq (.block 0 (.loop (.seq (.seq (.ops [⟨(some 3), none, (.pure (.move (.t 0)))⟩, ⟨(some 4), none, (.pure (.len (.t 3)))⟩, ⟨(some 5), none, (.pure (.bin .gtr (.t 4) (.c (.int .i64 0))))⟩, ⟨(some 6), none, (.pure (.move (.t 5)))⟩, ⟨(some 7), (some (6, true)), (.pure (.move (.t 0)))⟩, ⟨(some 8), (some (6, true)), (.pure (.move (.t 0)))⟩, ⟨(some 9), (some (6, true)), (.pure (.len (.t 8)))⟩, ⟨(some 10), (some (6, true)), (.pure (.bin .sub (.t 9) (.c (.int .i64 1))))⟩, ⟨(some 11), (some (6, true)), (.pure (.indexAddr 1 (.t 7) (.t 10)))⟩, ⟨(some 12), (some (6, true)), (.eff (.load1 (.t 11)))⟩, ⟨(some 13), (some (6, true)), (.pure (.bin .eql (.t 12) (.c (.int .u32 0))))⟩, ⟨(some 14), none, (.pure (.pick (.t 6) (.t 13) (.c (.bool false))))⟩]) (.cond (.t 14) .skip (.exit 0))) (.block 1 (.ops [⟨(some 15), none, (.pure (.move (.t 0)))⟩, ⟨(some 16), none, (.pure (.move (.t 0)))⟩, ⟨(some 17), none, (.pure (.len (.t 16)))⟩, ⟨(some 18), none, (.pure (.bin .sub (.t 17) (.c (.int .i64 1))))⟩, ⟨(some 19), none, (.pure (.slice 1 (.t 15) none (some (.t 18))))⟩, ⟨(some 0), none, (.pure (.move (.t 19)))⟩]))))) (.seq (.ops [⟨(some 20), none, (.pure (.move (.t 0)))⟩, ⟨(some 2), none, (.pure (.move (.t 20)))⟩]) .ret)))
def rs_xtrim : List IRes := [(.tmp 2)]
theorem ir_xtrim_ok : (Func.body Try.f136).bind (irOf Try.prog Try.f136.ntmps) = some ir_xtrim := by kernel_rfl
theorem rs_xtrim_ok : Try.f136.results.toList.mapM (resOf Try.prog) = some rs_xtrim := by kernel_rfl
theorem ent_xtrim : enters Try.prog 136 = true := by kernel_rfl

def ir_rnat : IR := (.seq (.ops [⟨(some 2), none, (.pure (.move (.c .nilslice)))⟩]) (.seq (.ops [⟨(some 3), none, (.pure (.move (.c .nilslice)))⟩]) (.seq (.seq (.ops [⟨(some 4), none, (.pure (.move (.c (.int .i64 0))))⟩]) (.block 0 (.loop (.seq (.seq (.ops [⟨(some 7), none, (.pure (.move (.t 4)))⟩, ⟨(some 8), none, (.pure (.move (.t 0)))⟩, ⟨(some 9), none, (.pure (.len (.t 8)))⟩, ⟨(some 10), none, (.pure (.bin .lss (.t 7) (.t 9)))⟩]) (.cond (.t 10) .skip (.exit 0))) (.seq (.block 1 (.seq (.ops [⟨(some 5), none, (.pure (.move (.c (.int .i64 0))))⟩]) (.seq (.seq (.ops [⟨(some 6), none, (.pure (.move (.c (.int .i64 3))))⟩]) (.block 2 (.loop (.seq (.seq (.ops [⟨(some 13), none, (.pure (.move (.t 6)))⟩, ⟨(some 14), none, (.pure (.bin .geq (.t 13) (.c (.int .i64 0))))⟩]) (.cond (.t 14) .skip (.exit 2))) (.seq (.block 3 (.seq (.ops [⟨(some 17), none, (.pure (.move (.t 5)))⟩, ⟨(some 18), none, (.pure (.bin .mul (.t 17) (.c (.int .i64 256))))⟩, ⟨(some 5), none, (.pure (.move (.t 18)))⟩]) (.seq (.ops [⟨(some 19), none, (.pure (.move (.t 4)))⟩, ⟨(some 20), none, (.pure (.move (.t 6)))⟩, ⟨(some 21), none, (.pure (.bin .add (.t 19) (.t 20)))⟩, ⟨(some 22), none, (.pure (.move (.t 0)))⟩, ⟨(some 23), none, (.pure (.len (.t 22)))⟩, ⟨(some 24), none, (.pure (.bin .lss (.t 21) (.t 23)))⟩]) (.cond (.t 24) (.ops [⟨(some 25), none, (.pure (.move (.t 5)))⟩, ⟨(some 26), none, (.pure (.move (.t 0)))⟩, ⟨(some 27), none, (.pure (.move (.t 4)))⟩, ⟨(some 28), none, (.pure (.move (.t 6)))⟩, ⟨(some 29), none, (.pure (.bin .add (.t 27) (.t 28)))⟩, ⟨(some 30), none, (.pure (.indexAddr 1 (.t 26) (.t 29)))⟩, ⟨(some 31), none, (.eff (.load1 (.t 30)))⟩, ⟨(some 32), none, (.pure (.bin .add (.t 25) (.t 31)))⟩, ⟨(some 5), none, (.pure (.move (.t 32)))⟩]) .skip)))) (.ops [⟨(some 15), none, (.pure (.move (.t 6)))⟩, ⟨(some 16), none, (.pure (.bin .sub (.t 15) (.c (.int .i64 1))))⟩, ⟨(some 6), none, (.pure (.move (.t 16)))⟩])))))) (.ops [⟨(some 33), none, (.pure (.move (.t 3)))⟩, ⟨(some 34), none, (.pure (.move (.t 5)))⟩, ⟨(some 35), none, (.pure (.conv .u32 (.t 34)))⟩, ⟨(some 36), none, (.eff (.buildSlice 1 [(.int .u32 0)] [(0, (1, (.t 35)))]))⟩, ⟨(some 37), none, (.eff (.append 1 4 (.t 33) (.t 36)))⟩, ⟨(some 3), none, (.pure (.move (.t 37)))⟩])))) (.ops [⟨(some 11), none, (.pure (.move (.t 4)))⟩, ⟨(some 12), none, (.pure (.bin .add (.t 11) (.c (.int .i64 4))))⟩, ⟨(some 4), none, (.pure (.move (.t 12)))⟩])))))) (.seq (.ops [⟨(some 38), none, (.pure (.move (.t 3)))⟩, ⟨(some 2), none, (.pure (.move (.t 38)))⟩]) .ret))))
def rs_rnat : List IRes := [(.tmp 2)]
theorem ir_rnat_ok : (Func.body Try.f125).bind (irOf Try.prog Try.f125.ntmps) = some ir_rnat := by kernel_rfl
theorem rs_rnat_ok : Try.f125.results.toList.mapM (resOf Try.prog) = some rs_rnat := by kernel_rfl
theorem ent_rnat : enters Try.prog 125 = true := by kernel_rfl

def ir_rtrim : IR := (.seq (.ops [⟨(some 2), none, (.pure (.move (.c .nilslice)))⟩]) (.seq (.ops [⟨(some 4), none, (.pure (.move (.t 0)))⟩, ⟨(some 5), none, (.pure (.len (.t 4)))⟩, ⟨(some 3), none, (.pure (.move (.t 5)))⟩]) (.seq (.block 0 (.loop (.seq (.seq (.ops [⟨(some 6), none, (.pure (.move (.t 3)))⟩, ⟨(some 7), none, (.pure (.bin .gtr (.t 6) (.c (.int .i64 0))))⟩, ⟨(some 8), none, (.pure (.move (.t 7)))⟩, ⟨(some 9), (some (8, true)), (.pure (.move (.t 0)))⟩, ⟨(some 10), (some (8, true)), (.pure (.move (.t 3)))⟩, ⟨(some 11), (some (8, true)), (.pure (.bin .sub (.t 10) (.c (.int .i64 1))))⟩, ⟨(some 12), (some (8, true)), (.pure (.indexAddr 1 (.t 9) (.t 11)))⟩, ⟨(some 13), (some (8, true)), (.eff (.load1 (.t 12)))⟩, ⟨(some 14), (some (8, true)), (.pure (.bin .eql (.t 13) (.c (.int .i64 0))))⟩, ⟨(some 15), none, (.pure (.pick (.t 8) (.t 14) (.c (.bool false))))⟩]) (.cond (.t 15) .skip (.exit 0))) (.block 1 (.ops [⟨(some 16), none, (.pure (.move (.t 3)))⟩, ⟨(some 17), none, (.pure (.bin .sub (.t 16) (.c (.int .i64 1))))⟩, ⟨(some 3), none, (.pure (.move (.t 17)))⟩]))))) (.seq (.ops [⟨(some 18), none, (.pure (.move (.t 0)))⟩, ⟨(some 19), none, (.pure (.move (.t 3)))⟩, ⟨(some 20), none, (.pure (.slice 1 (.t 18) none (some (.t 19))))⟩, ⟨(some 2), none, (.pure (.move (.t 20)))⟩]) .ret))))
def rs_rtrim : List IRes := [(.tmp 2)]
theorem ir_rtrim_ok : (Func.body Try.f126).bind (irOf Try.prog Try.f126.ntmps) = some ir_rtrim := by kernel_rfl
theorem rs_rtrim_ok : Try.f126.results.toList.mapM (resOf Try.prog) = some rs_rtrim := by kernel_rfl
theorem ent_rtrim : enters Try.prog 126 = true := by kernel_rfl

def ir_rdigits : IR := (.seq (.ops [⟨(some 2), none, (.pure (.move (.c .nilslice)))⟩]) (.seq (.ops [⟨(some 3), none, (.pure (.move (.c .nilslice)))⟩]) (.seq (.seq (.ops [⟨(some 4), none, (.pure (.move (.c (.int .i64 0))))⟩]) (.block 0 (.loop (.seq (.seq (.ops [⟨(some 6), none, (.pure (.move (.t 4)))⟩, ⟨(some 7), none, (.pure (.move (.t 0)))⟩, ⟨(some 8), none, (.pure (.len (.t 7)))⟩, ⟨(some 9), none, (.pure (.bin .lss (.t 6) (.t 8)))⟩]) (.cond (.t 9) .skip (.exit 0))) (.seq (.block 1 (.seq (.ops [⟨(some 12), none, (.pure (.move (.t 0)))⟩, ⟨(some 13), none, (.pure (.move (.t 4)))⟩, ⟨(some 14), none, (.pure (.indexAddr 1 (.t 12) (.t 13)))⟩, ⟨(some 15), none, (.eff (.load1 (.t 14)))⟩, ⟨(some 16), none, (.pure (.conv .i64 (.t 15)))⟩, ⟨(some 5), none, (.pure (.move (.t 16)))⟩]) (.ops [⟨(some 17), none, (.pure (.move (.t 3)))⟩, ⟨(some 18), none, (.pure (.move (.t 5)))⟩, ⟨(some 19), none, (.pure (.bin .rem (.t 18) (.c (.int .i64 256))))⟩, ⟨(some 20), none, (.pure (.move (.t 5)))⟩, ⟨(some 21), none, (.pure (.bin .quo (.t 20) (.c (.int .i64 256))))⟩, ⟨(some 22), none, (.pure (.bin .rem (.t 21) (.c (.int .i64 256))))⟩, ⟨(some 23), none, (.pure (.move (.t 5)))⟩, ⟨(some 24), none, (.pure (.bin .quo (.t 23) (.c (.int .i64 65536))))⟩, ⟨(some 25), none, (.pure (.bin .rem (.t 24) (.c (.int .i64 256))))⟩, ⟨(some 26), none, (.pure (.move (.t 5)))⟩, ⟨(some 27), none, (.pure (.bin .quo (.t 26) (.c (.int .i64 16777216))))⟩, ⟨(some 28), none, (.eff (.buildSlice 4 [(.int .i64 0), (.int .i64 0), (.int .i64 0), (.int .i64 0)] [(0, (1, (.t 19))), (1, (1, (.t 22))), (2, (1, (.t 25))), (3, (1, (.t 27)))]))⟩, ⟨(some 29), none, (.eff (.append 1 8 (.t 17) (.t 28)))⟩, ⟨(some 3), none, (.pure (.move (.t 29)))⟩]))) (.ops [⟨(some 10), none, (.pure (.move (.t 4)))⟩, ⟨(some 11), none, (.pure (.bin .add (.t 10) (.c (.int .i64 1))))⟩, ⟨(some 4), none, (.pure (.move (.t 11)))⟩])))))) (.seq (.ops [⟨(some 30), none, (.pure (.move (.t 3)))⟩, ⟨(some 31), none, (.call (.c (.func 126 [])) [(.t 30)])⟩, ⟨(some 2), none, (.pure (.move (.t 31)))⟩]) .ret))))
def rs_rdigits : List IRes := [(.tmp 2)]
theorem ir_rdigits_ok : (Func.body Try.f118).bind (irOf Try.prog Try.f118.ntmps) = some ir_rdigits := by kernel_rfl
theorem rs_rdigits_ok : Try.f118.results.toList.mapM (resOf Try.prog) = some rs_rdigits := by kernel_rfl
theorem ent_rdigits : enters Try.prog 118 = true := by kernel_rfl

def ir_tooLong : IR := (.seq (.ops [⟨(some 2), none, (.pure (.move (.c (.int .i64 0))))⟩]) (.seq (.seq (.ops [⟨(some 5), none, (.pure (.move (.t 0)))⟩, ⟨(some 6), none, (.pure (.len (.t 5)))⟩, ⟨(some 7), none, (.pure (.move (.c (.int .i64 0))))⟩]) (.block 0 (.loop (.seq (.ops [⟨(some 8), none, (.pure (.bin .lss (.t 7) (.t 6)))⟩]) (.seq (.cond (.t 8) .skip (.exit 0)) (.seq (.block 1 (.seq (.ops [⟨(some 9), none, (.pure (.indexAddr 1 (.t 5) (.t 7)))⟩, ⟨(some 10), none, (.eff (.load1 (.t 9)))⟩, ⟨(some 4), none, (.pure (.move (.t 10)))⟩]) (.seq (.ops [⟨(some 11), none, (.pure (.move (.t 4)))⟩, ⟨(some 12), none, (.pure (.len (.t 11)))⟩, ⟨(some 13), none, (.pure (.bin .gtr (.t 12) (.c (.int .i64 64))))⟩]) (.cond (.t 13) (.seq (.ops [⟨(some 2), none, (.pure (.move (.c (.int .i64 4))))⟩]) .ret) .skip)))) (.ops [⟨(some 14), none, (.pure (.bin .add (.t 7) (.c (.int .i64 1))))⟩, ⟨(some 7), none, (.pure (.move (.t 14)))⟩]))))))) (.seq (.ops [⟨(some 2), none, (.pure (.move (.c (.int .i64 0))))⟩]) .ret)))
def rs_tooLong : List IRes := [(.tmp 2)]
theorem ir_tooLong_ok : (Func.body Try.f134).bind (irOf Try.prog Try.f134.ntmps) = some ir_tooLong := by kernel_rfl
theorem rs_tooLong_ok : Try.f134.results.toList.mapM (resOf Try.prog) = some rs_tooLong := by kernel_rfl
theorem ent_tooLong : enters Try.prog 134 = true := by kernel_rfl

def ir_limb : IR := (.seq (.ops [⟨(some 4), none, (.pure (.move (.c (.int .u32 0))))⟩]) (.seq (.seq (.ops [⟨(some 5), none, (.pure (.move (.t 1)))⟩, ⟨(some 6), none, (.pure (.move (.t 0)))⟩, ⟨(some 7), none, (.pure (.len (.t 6)))⟩, ⟨(some 8), none, (.pure (.bin .lss (.t 5) (.t 7)))⟩]) (.cond (.t 8) (.seq (.ops [⟨(some 9), none, (.pure (.move (.t 0)))⟩, ⟨(some 10), none, (.pure (.move (.t 1)))⟩, ⟨(some 11), none, (.pure (.indexAddr 1 (.t 9) (.t 10)))⟩, ⟨(some 12), none, (.eff (.load1 (.t 11)))⟩, ⟨(some 4), none, (.pure (.move (.t 12)))⟩]) .ret) .skip)) (.seq (.ops [⟨(some 4), none, (.pure (.move (.c (.int .u32 0))))⟩]) .ret)))
def rs_limb : List IRes := [(.tmp 4)]
theorem ir_limb_ok : (Func.body Try.f158).bind (irOf Try.prog Try.f158.ntmps) = some ir_limb := by kernel_rfl
theorem rs_limb_ok : Try.f158.results.toList.mapM (resOf Try.prog) = some rs_limb := by kernel_rfl
theorem ent_limb : enters Try.prog 158 = true := by kernel_rfl

def ir_xof : IR := (.seq (.ops [⟨(some 2), none, (.pure (.move (.c .nilslice)))⟩]) (.seq (.ops [⟨(some 3), none, (.pure (.move (.t 0)))⟩, ⟨(some 4), none, (.pure (.conv .u32 (.t 3)))⟩, ⟨(some 5), none, (.pure (.move (.t 0)))⟩, ⟨(some 6), none, (.pure (.bin .shr (.t 5) (.c (.int .u64 32))))⟩, ⟨(some 7), none, (.pure (.conv .u32 (.t 6)))⟩, ⟨(some 8), none, (.eff (.buildSlice 2 [(.int .u32 0), (.int .u32 0)] [(0, (1, (.t 4))), (1, (1, (.t 7)))]))⟩, ⟨(some 9), none, (.call (.c (.func 136 [])) [(.t 8)])⟩, ⟨(some 2), none, (.pure (.move (.t 9)))⟩]) .ret))
def rs_xof : List IRes := [(.tmp 2)]
theorem ir_xof_ok : (Func.body Try.f122).bind (irOf Try.prog Try.f122.ntmps) = some ir_xof := by kernel_rfl
theorem rs_xof_ok : Try.f122.results.toList.mapM (resOf Try.prog) = some rs_xof := by kernel_rfl
theorem ent_xof : enters Try.prog 122 = true := by kernel_rfl

def ir_rof : IR := (.seq (.ops [⟨(some 2), none, (.pure (.move (.c .nilslice)))⟩]) (.seq (.ops [⟨(some 3), none, (.pure (.move (.t 0)))⟩, ⟨(some 4), none, (.pure (.bin .rem (.t 3) (.c (.int .u64 4294967296))))⟩, ⟨(some 5), none, (.pure (.conv .u32 (.t 4)))⟩, ⟨(some 6), none, (.pure (.move (.t 0)))⟩, ⟨(some 7), none, (.pure (.bin .quo (.t 6) (.c (.int .u64 4294967296))))⟩, ⟨(some 8), none, (.pure (.conv .u32 (.t 7)))⟩, ⟨(some 9), none, (.eff (.buildSlice 2 [(.int .u32 0), (.int .u32 0)] [(0, (1, (.t 5))), (1, (1, (.t 8)))]))⟩, ⟨(some 10), none, (.call (.c (.func 118 [])) [(.t 9)])⟩, ⟨(some 11), none, (.call (.c (.func 126 [])) [(.t 10)])⟩, ⟨(some 12), none, (.call (.c (.func 125 [])) [(.t 11)])⟩, ⟨(some 2), none, (.pure (.move (.t 12)))⟩]) .ret))
def rs_rof : List IRes := [(.tmp 2)]
theorem ir_rof_ok : (Func.body Try.f82).bind (irOf Try.prog Try.f82.ntmps) = some ir_rof := by kernel_rfl
theorem rs_rof_ok : Try.f82.results.toList.mapM (resOf Try.prog) = some rs_rof := by kernel_rfl
theorem ent_rof : enters Try.prog 82 = true := by kernel_rfl

end Go.Proofs.Ythbhljolpnbdlaa.S1



/- Contracts of the small functions. -/
namespace Go.Proofs.Ythbhljolpnbdlaa.S1
open Go Go.Vh

/-- how many are left without the zeros at the end -/
def tz (l : List Int) : Nat → Nat
  | 0 => 0
  | k+1 => if l.getD k 0 = 0 then tz l k else k+1

theorem tz_le (l : List Int) : ∀ n, tz l n ≤ n
  | 0 => Nat.le_refl _
  | n + 1 => by unfold tz; split; exact Nat.le_succ_of_le (tz_le l n); exact Nat.le_refl _

theorem rtrim_iwp (κ : SK) (l : List Int) (hk : okS κ l.length) (hm : l.length < 9223372036854775807) :
   iwp Try.prog 1 ir_rtrim (retPost 1 rs_rtrim fun v H => v = mkS κ 0 0 (tz l l.length) ∧ H = [ro (ints .i64 l)]) (s0 [mkS κ 0 0 l.length]) [ro (ints .i64 l)] := by
  unfold ir_rtrim
  have hle : l.length ≤ l.length := Nat.le_refl _
  simp (disch := omega) only [sS, ↓reduceIte, Nat.reduceEqDiff, Nat.reduceAdd, Nat.reduceMul, Nat.reduceSub, reduceCtorEq, e_none, e_some, e_bindS, show (s0 [mkS κ 0 0 l.length] 0) = mkS κ 0 0 l.length from rfl, k_len hk]
  refine ⟨fun n s H => ∃ k : Nat, k ≤ l.length ∧ n = k ∧ tz l k = tz l l.length ∧ s 0 = mkS κ 0 0 l.length ∧ s 3 = .int .i64 k ∧ H = [ro (ints .i64 l)], l.length, ⟨l.length, Nat.le_refl _, rfl, rfl, rfl, by simp only [e_upd, ↓reduceIte], rfl⟩, ?_⟩
  rintro n s H ⟨k, hk1, rfl, ht, h0, h3, rfl⟩
  rcases Nat.eq_zero_or_pos n with rfl | hn
  · simp (disch := omega) only [sS, ↓reduceIte, Nat.reduceEqDiff, Nat.reduceAdd, Nat.reduceMul, Nat.reduceSub, reduceCtorEq, e_none, e_some, e_bindS, h0, h3, k_len hk, k_idx hk, k_sl hk]
    refine ret_keep (by simp) ⟨?_, rfl⟩
    simp only [e_upd, ↓reduceIte]
    rw [← ht]; rfl
  · obtain ⟨m, rfl⟩ : ∃ m, n = m + 1 := ⟨n - 1, by omega⟩
    by_cases hz : l.getD m 0 = 0
    · simp (disch := omega) only [sS, ↓reduceIte, Nat.reduceEqDiff, Nat.reduceAdd, Nat.reduceMul, Nat.reduceSub, reduceCtorEq, e_none, e_some, e_bindS, h0, h3, k_len hk, k_idx hk, k_sl hk]
      refine loop_keep (by omega) ⟨m, by omega, rfl, ?_, by simp only [e_upd, ↓reduceIte, Nat.reduceEqDiff]; exact h0, ?_, rfl⟩
      · rw [← ht, tz, if_pos hz]
      · simp (disch := omega) only [e_upd, ↓reduceIte, Nat.reduceEqDiff, h3, w64, AV.int.injEq]; simp
    · simp (disch := omega) only [sS, ↓reduceIte, Nat.reduceEqDiff, Nat.reduceAdd, Nat.reduceMul, Nat.reduceSub, reduceCtorEq, e_none, e_some, e_bindS, h0, h3, k_len hk, k_idx hk, k_sl hk]
      refine ret_keep (by simp) ⟨?_, rfl⟩
      simp only [e_upd, ↓reduceIte]
      rw [← ht, tz, if_neg hz]

theorem rtrim_calls (κ : SK) (l : List Int) (hk : okS κ l.length) (hm : l.length < 9223372036854775807) : ACalls Try.prog 126 [mkS κ 0 0 l.length] [ro (ints .i64 l)] [0] fun v H => v = mkS κ 0 0 (tz l l.length) ∧ H = [ro (ints .i64 l)] :=
  ACalls.body Try.func126 ent_rtrim ir_rtrim_ok rs_rtrim_ok Try.ntmps126 (by simp) rfl (rtrim_iwp κ l hk hm)

theorem xtrim_iwp (κ : SK) (l : List Int) (hk : okS κ l.length) (hm : l.length < 9223372036854775807) :
   iwp Try.prog 1 ir_xtrim (retPost 1 rs_xtrim fun v H => v = mkS κ 0 0 (tz l l.length) ∧ H = [ro (ints .u32 l)]) (s0 [mkS κ 0 0 l.length]) [ro (ints .u32 l)] := by
  unfold ir_xtrim
  simp only [sS, ↓reduceIte, Nat.reduceEqDiff, Nat.reduceAdd, Nat.reduceMul, Nat.reduceSub, reduceCtorEq, e_none, e_some, e_bindS]
  refine ⟨fun n s H => ∃ k : Nat, k ≤ l.length ∧ n = k ∧ tz l k = tz l l.length ∧ s 0 = mkS κ 0 0 k ∧ H = [ro (ints .u32 l)], l.length, ⟨l.length, Nat.le_refl _, rfl, rfl, rfl, rfl⟩, ?_⟩
  rintro n s H ⟨k, hk1, rfl, ht, h0, rfl⟩
  rcases Nat.eq_zero_or_pos n with rfl | hn
  · simp (disch := omega) only [sS, ↓reduceIte, Nat.reduceEqDiff, Nat.reduceAdd, Nat.reduceMul, Nat.reduceSub, reduceCtorEq, e_none, e_some, e_bindS, h0, k_len hk, k_idx hk, k_sl hk]
    refine ret_keep (by simp) ⟨?_, rfl⟩
    simp only [e_upd, ↓reduceIte]
    rw [← ht]; rfl
  · obtain ⟨m, rfl⟩ : ∃ m, n = m + 1 := ⟨n - 1, by omega⟩
    by_cases hz : l.getD m 0 = 0
    · simp (disch := omega) only [sS, ↓reduceIte, Nat.reduceEqDiff, Nat.reduceAdd, Nat.reduceMul, Nat.reduceSub, reduceCtorEq, e_none, e_some, e_bindS, h0, k_len hk, k_idx hk, k_sl hk]
      refine loop_keep (by omega) ⟨m, by omega, rfl, ?_, by simp only [e_upd, ↓reduceIte, Nat.reduceEqDiff], rfl⟩
      rw [← ht, tz, if_pos hz]
    · simp (disch := omega) only [sS, ↓reduceIte, Nat.reduceEqDiff, Nat.reduceAdd, Nat.reduceMul, Nat.reduceSub, reduceCtorEq, e_none, e_some, e_bindS, h0, k_len hk, k_idx hk, k_sl hk]
      refine ret_keep (by simp) ⟨?_, rfl⟩
      simp only [e_upd, ↓reduceIte]
      rw [← ht, tz, if_neg hz]

theorem xtrim_calls (κ : SK) (l : List Int) (hk : okS κ l.length) (hm : l.length < 9223372036854775807) : ACalls Try.prog 136 [mkS κ 0 0 l.length] [ro (ints .u32 l)] [0] fun v H => v = mkS κ 0 0 (tz l l.length) ∧ H = [ro (ints .u32 l)] :=
  ACalls.body Try.func136 ent_xtrim ir_xtrim_ok rs_xtrim_ok Try.ntmps136 (by simp) rfl (xtrim_iwp κ l hk hm)

theorem limb_calls (κ : SK) (l : List Int) (hk : okS κ l.length) (hm : l.length < 9223372036854775807) (i : Nat) (hi : i < 9223372036854775807) : ACalls Try.prog 158 [mkS κ 0 0 l.length, .int .i64 i] [ro (ints .u32 l)] [0] fun v H => v = .int .u32 (l.getD i 0) ∧ H = [ro (ints .u32 l)] := by
  refine ACalls.body Try.func158 ent_limb ir_limb_ok rs_limb_ok Try.ntmps158 (by simp) rfl ?_
  unfold ir_limb
  have e0 : s0 [mkS κ 0 0 l.length, .int .i64 i] 0 = mkS κ 0 0 l.length := rfl
  have e1 : s0 [mkS κ 0 0 l.length, .int .i64 i] 1 = .int .i64 i := rfl
  by_cases h : i < l.length
  · simp (disch := omega) only [sS, ↓reduceIte, Nat.reduceEqDiff, Nat.reduceAdd, Nat.reduceMul, Nat.reduceSub, reduceCtorEq, e_none, e_some, e_bindS, e0, e1, k_len hk, k_idx hk, k_sl hk]
    refine ret_keep (by simp) ⟨?_, rfl⟩
    simp only [e_upd, ↓reduceIte]
  · simp (disch := omega) only [sS, ↓reduceIte, Nat.reduceEqDiff, Nat.reduceAdd, Nat.reduceMul, Nat.reduceSub, reduceCtorEq, e_none, e_some, e_bindS, e0, e1, k_len hk, k_idx hk, k_sl hk]
    refine ret_keep (by simp) ⟨?_, rfl⟩
    have : l[i]? = none := List.getElem?_eq_none (by omega)
    simp only [e_upd, ↓reduceIte, List.getD_eq_getElem?_getD, this, Option.getD_none]

end Go.Proofs.Ythbhljolpnbdlaa.S1



/- Contracts: tooLong, Of, digits. -/
namespace Go.Proofs.Ythbhljolpnbdlaa.S1
open Go Go.Vh

def lenOf (v : AV) : Nat := (alen v).getD 0

theorem tooLong_calls (cs : List AV) (rest : AHeap) (hcs : ∀ c ∈ cs, (alen c).isSome = true ∧ lenOf c ≤ 9223372036854775807) (hm : cs.length < 9223372036854775807) :
    ACalls Try.prog 134 [.slice 0 0 cs.length cs.length] (ro cs :: rest) (List.range (rest.length + 1)) fun v H => v = .int .i64 (if cs.all (fun c => decide (lenOf c ≤ 64)) then 0 else 4) ∧ H = ro cs :: rest := by
  refine ACalls.body Try.func134 ent_tooLong ir_tooLong_ok rs_tooLong_ok Try.ntmps134 (by simp) (by simp) ?_
  unfold ir_tooLong
  have e0 : s0 [.slice 0 0 cs.length cs.length] 0 = .slice 0 0 cs.length cs.length := rfl
  simp (disch := omega) only [sS, ↓reduceIte, Nat.reduceEqDiff, Nat.reduceAdd, Nat.reduceMul, Nat.reduceSub, reduceCtorEq, e_none, e_some, e_bindS, e0]
  refine ⟨fun n s H => ∃ k : Nat, k ≤ cs.length ∧ n = cs.length - k ∧ (∀ (i : Nat) (c : AV), i < k → cs[i]? = some c → lenOf c ≤ 64) ∧ s 5 = .slice 0 0 cs.length cs.length ∧ s 6 = .int .i64 cs.length ∧ s 7 = .int .i64 k ∧ H = ro cs :: rest, cs.length, ⟨0, by omega, rfl, fun i c hi => by omega, ?_, ?_, ?_, rfl⟩, ?_⟩
  · simp only [e_upd, Nat.reduceEqDiff, ↓reduceIte]
  · simp only [e_upd, Nat.reduceEqDiff, ↓reduceIte]
  · simp only [e_upd, Nat.reduceEqDiff, ↓reduceIte]; rfl
  rintro n s H ⟨k, hk1, rfl, ht, h5, h6, h7, rfl⟩
  by_cases hlt : k < cs.length
  · obtain ⟨h8, h9⟩ := hcs cs[k] (by simp)
    have hg : cs[k]? = some cs[k] := by simp [hlt]
    obtain ⟨m, hmk⟩ := Option.isSome_iff_exists.1 h8
    have hml : lenOf cs[k] = m := by simp [lenOf, hmk]
    by_cases he : m ≤ 64
    · simp (disch := omega) only [sS, ↓reduceIte, Nat.reduceEqDiff, Nat.reduceAdd, Nat.reduceMul, Nat.reduceSub, reduceCtorEq, e_none, e_some, e_bindS, h5, h6, h7, hg, hmk]
      refine loop_keep (m := cs.length - (k + 1)) (by omega) ⟨k + 1, by omega, rfl, fun i c hi hc => ?_, ?_, ?_, ?_, rfl⟩
      · rcases Nat.lt_or_ge i k with h | h
        · exact ht i c h hc
        · obtain rfl : i = k := by omega
          rw [hg] at hc; cases hc; omega
      · simp only [e_upd, Nat.reduceEqDiff, ↓reduceIte, h5]
      · simp only [e_upd, Nat.reduceEqDiff, ↓reduceIte, h6]
      · simp (disch := omega) only [e_upd, Nat.reduceEqDiff, ↓reduceIte, h7, w64, AV.int.injEq]; simp
    · simp (disch := omega) only [sS, ↓reduceIte, Nat.reduceEqDiff, Nat.reduceAdd, Nat.reduceMul, Nat.reduceSub, reduceCtorEq, e_none, e_some, e_bindS, h5, h6, h7, hg, hmk]
      refine ret_keep (by simp) ⟨?_, rfl⟩
      simp only [e_upd, ↓reduceIte]
      rw [if_neg]
      simp only [List.all_eq_true, decide_eq_true_eq, Classical.not_forall]
      exact ⟨cs[k], by simp, by omega⟩
  · simp (disch := omega) only [sS, ↓reduceIte, Nat.reduceEqDiff, Nat.reduceAdd, Nat.reduceMul, Nat.reduceSub, reduceCtorEq, e_none, e_some, e_bindS, h5, h6, h7]
    refine ret_keep (by simp) ⟨?_, rfl⟩
    simp only [e_upd, ↓reduceIte]
    rw [if_pos]
    simp only [List.all_eq_true, decide_eq_true_eq]
    intro c hc
    obtain ⟨i, hi, rfl⟩ := List.getElem_of_mem hc
    exact ht i _ (by omega) (by simp [hi])

/-- the two limbs of a number of 64 bits -/
def two (n : Int) : List Int := [n % 4294967296, n / 4294967296]

theorem xof_calls (n : Int) (h0 : 0 ≤ n) (h1 : n ≤ 18446744073709551615) : ACalls Try.prog 122 [.int .u64 n] [] [] fun v H => v = mkS (.cap 2) 0 0 (tz (two n) 2) ∧ H = [rw_ (ints .u32 (two n))] := by
  refine ACalls.body Try.func122 ent_xof ir_xof_ok rs_xof_ok Try.ntmps122 (by simp) rfl ?_
  unfold ir_xof
  have e0 : s0 [.int .u64 n] 0 = .int .u64 n := rfl
  have hs : abin .shr (.int .u64 n) (.int .u64 32) = some (.int .u64 (n / 4294967296)) := b_shr (n := 32) (by decide)
  have wu : IntKind.u32.wrap n = n % 4294967296 := IntKind.wrap_u32 n
  have wv : IntKind.u32.wrap (n / 4294967296) = n / 4294967296 := by rw [IntKind.wrap_u32]; omega
  simp (disch := omega) only [sS, ↓reduceIte, Nat.reduceEqDiff, Nat.reduceAdd, Nat.reduceMul, Nat.reduceSub, reduceCtorEq, e_none, e_some, e_bindS, e0, hs, wu, wv]
  rw [x_bs2 (v := .int .u32 (n % 4294967296)) (u := .int .u32 (n / 4294967296)) (by simp only [e_t, e_upd, Nat.reduceEqDiff, ↓reduceIte]) (by simp only [e_t, e_upd, Nat.reduceEqDiff, ↓reduceIte]) rfl rfl rfl]
  simp (disch := omega) only [sS, ↓reduceIte, Nat.reduceEqDiff, Nat.reduceAdd, Nat.reduceMul, Nat.reduceSub, reduceCtorEq, e_none, e_some, e_bindS]
  refine call_ints (r := 0) (row := ⟨true, false, ints .u32 (two n)⟩) (xtrim_calls (.cap 2) (two n) (okS_cap (by simp [two])) (by simp [two])) rfl rfl rfl rfl ?_
  rintro v0 H0' ⟨rfl, rfl⟩
  simp (disch := omega) only [sS, ↓reduceIte, Nat.reduceEqDiff, Nat.reduceAdd, Nat.reduceMul, Nat.reduceSub, reduceCtorEq, e_none, e_some, e_bindS]
  refine ret_keep (by simp) ⟨?_, rfl⟩
  simp only [e_upd, ↓reduceIte]
  rw [n_mkS rfl]
  rfl
end Go.Proofs.Ythbhljolpnbdlaa.S1



/- Contracts: Small. -/
namespace Go.Proofs.Ythbhljolpnbdlaa.S1
open Go Go.Vh

section
variable {K : St → AHeap → Prop} {d : Option Nat} {s : St} {H : AHeap}
end

theorem b_or {a b : Int} (h0 : 0 ≤ a) (h1 : a ≤ 4294967295) (h2 : 0 ≤ b) (h3 : b ≤ 4294967295) : abin .or (.int .u64 (a * 4294967296)) (.int .u64 b) = some (.int .u64 (a * 4294967296 + b)) := by
  obtain ⟨m, rfl⟩ : ∃ m : Nat, a = m := ⟨a.toNat, by omega⟩
  obtain ⟨k, rfl⟩ : ∃ k : Nat, b = k := ⟨b.toNat, by omega⟩
  have e1 : ((m : Int) * 4294967296) = ((m * 4294967296 : Nat) : Int) := by omega
  have e2 : (BitVec.ofInt 64 ((m * 4294967296 : Nat) : Int) ||| BitVec.ofInt 64 (k : Int)).toNat = m * 4294967296 + k := by
    rw [BitVec.ofInt_natCast, BitVec.ofInt_natCast, BitVec.toNat_or, BitVec.toNat_ofNat, BitVec.toNat_ofNat, Nat.mod_eq_of_lt (by omega), Nat.mod_eq_of_lt (by omega)]
    have := Nat.shiftLeft_add_eq_or_of_lt (b := k) (i := 32) (by omega) m
    rw [Nat.shiftLeft_eq] at this
    exact this.symm
  simp only [abin, aint, abits, if_true, e1]
  congr 2
  have : (IntKind.u64).bits = 64 := rfl
  rw [show (BitVec.ofInt IntKind.u64.bits ((m * 4294967296 : Nat) : Int) ||| BitVec.ofInt IntKind.u64.bits (k : Int)).toNat = m * 4294967296 + k from e2]
  rw [wu64 (by omega) (by omega)]
  omega

end Go.Proofs.Ythbhljolpnbdlaa.S1



/- Contracts: the reference's digits. -/
namespace Go.Proofs.Ythbhljolpnbdlaa.S1
open Go Go.Vh

theorem n_mkS0 {κ : SK} {σ : Sig} {r off n r' : Nat} (h : σ r = some (r', 0)) : AV.ren σ (mkS κ r off n) = mkS κ r' off n := by rw [n_mkS h, Nat.zero_add]

def dig4 (x : Int) : List Int := [x % 256, x / 256 % 256, x / 65536 % 256, x / 16777216]
def digs (l : List Int) : List Int := l.flatMap dig4
theorem digs_take {l : List Int} {k : Nat} (h : k < l.length) : digs (l.take (k + 1)) = digs (l.take k) ++ dig4 (l.getD k 0) := by
  simp only [digs]
  rw [List.take_add_one, List.flatMap_append]
  simp [h]
theorem digs_length (l : List Int) : (digs l).length = 4 * l.length := by
  induction l with
  | nil => rfl
  | cons x l ih => simp only [digs, List.flatMap_cons, List.length_append, List.length_cons] at ih ⊢; rw [ih]; simp [dig4]; omega

/-- where the digits stand -/
def digH (l : List Int) : AHeap := if l = [] then [ro (ints .u32 l)] else [ro (ints .u32 l), sl (ints .i64 (digs l))]
def digK (l : List Int) : SK := if l = [] then .nil else .u

theorem rdigits_calls (κ : SK) (l : List Int) (hk : okS κ l.length) (hm : l.length ≤ 1000000) (hr : ∀ i, 0 ≤ l.getD i 0 ∧ l.getD i 0 ≤ 4294967295) : ACalls Try.prog 118 [mkS κ 0 0 l.length] [ro (ints .u32 l)] [0] fun v H =>
    v = mkS (digK l) 1 0 (tz (digs l) (4 * l.length)) ∧ H = digH l := by
  refine ACalls.body Try.func118 ent_rdigits ir_rdigits_ok rs_rdigits_ok Try.ntmps118 (by simp) rfl ?_
  unfold ir_rdigits
  have e0 : s0 [mkS κ 0 0 l.length] 0 = mkS κ 0 0 l.length := rfl
  simp (disch := omega) only [sS, ↓reduceIte, Nat.reduceEqDiff, Nat.reduceAdd, Nat.reduceMul, Nat.reduceSub, reduceCtorEq, e_none, e_some, e_bindS, e0]
  refine ⟨fun n s H => ∃ k : Nat, k ≤ l.length ∧ n = l.length - k ∧ s 0 = mkS κ 0 0 l.length ∧ s 4 = .int .i64 k ∧ s 3 = mkS (digK (l.take k)) 1 0 (4 * k) ∧ (k ≠ 0 → H = [ro (ints .u32 l), sl (ints .i64 (digs (l.take k)))]) ∧ (k = 0 → H = [ro (ints .u32 l)]), l.length, ⟨0, by omega, rfl, rfl, rfl, rfl, fun h => (h rfl).elim, fun _ => rfl⟩, ?_⟩
  rintro n s H ⟨k, hk1, rfl, h0, h4, h3, hH, hH0⟩
  by_cases hlt : k < l.length
  · have hx := hr k
    have hne : l.take (k + 1) ≠ [] := by simp; intro h; subst h; simp at hlt
    rcases Nat.eq_zero_or_pos k with rfl | hp
    · have hH := hH0 rfl
      subst hH
      have h3' : s 3 = .nilslice := h3
      have h4' : s 4 = .int .i64 0 := h4
      simp (disch := omega) only [sS, ↓reduceIte, Nat.reduceEqDiff, Nat.reduceAdd, Nat.reduceMul, Nat.reduceSub, reduceCtorEq, e_none, e_some, e_bindS, h0, h4', k_len hk, k_idx hk, b_rem, b_quo, Int.toNat_zero]
      rw [x_bs4 (v1 := .int .i64 (l.getD 0 0 % 256)) (v2 := .int .i64 (l.getD 0 0 / 256 % 256)) (v3 := .int .i64 (l.getD 0 0 / 65536 % 256)) (v4 := .int .i64 (l.getD 0 0 / 16777216))
        (by simp only [e_t, e_upd, Nat.reduceEqDiff, ↓reduceIte]) (by simp only [e_t, e_upd, Nat.reduceEqDiff, ↓reduceIte]) (by simp only [e_t, e_upd, Nat.reduceEqDiff, ↓reduceIte]) (by simp only [e_t, e_upd, Nat.reduceEqDiff, ↓reduceIte]) rfl rfl rfl rfl]
      simp (disch := omega) only [sS, ↓reduceIte, Nat.reduceEqDiff, Nat.reduceAdd, Nat.reduceMul, Nat.reduceSub, reduceCtorEq, e_none, e_some, e_bindS]
      rw [x_appN (r := 1) (m := 4) (c := 4) (row := ⟨true, false, ints .i64 (dig4 (l.getD 0 0))⟩) (xs := ints .i64 (dig4 (l.getD 0 0))) (by simp only [e_t, e_upd, Nat.reduceEqDiff, ↓reduceIte, h3']) (by simp only [e_t, e_upd, Nat.reduceEqDiff, ↓reduceIte]; rfl) rfl rfl (by simp [dig4, ints]) (by decide) rfl]
      simp (disch := omega) only [sS, ↓reduceIte, Nat.reduceEqDiff, Nat.reduceAdd, Nat.reduceMul, Nat.reduceSub, reduceCtorEq, e_none, e_some, e_bindS, h4']
      refine loop_gc [0, 2] ?_ ?_ (show l.length - 1 < l.length - 0 by omega) ?_
      · rfl
      · simp [gcH, Vh.rowAt, sl, ro, ints_ren, ints_cell]
      refine ⟨1, by omega, rfl, gc_at ?_ (n_mkS0 (κ := κ) (r := 0) (off := 0) (n := l.length) (r' := 0) rfl), gc_at ?_ (n_int (k := .i64) (n := ((1 : Nat) : Int))), ?_, fun _ => ?_, fun h => by omega⟩
      · simp only [e_upd, Nat.reduceEqDiff, ↓reduceIte, h0]
      · simp (disch := omega) only [e_upd, Nat.reduceEqDiff, ↓reduceIte, h4, w64]; rfl
      · rw [digK, if_neg hne]
        refine gc_at ?_ (n_mkS0 (κ := .u) (r := 2) (off := 0) (n := 4 * 1) (r' := 1) rfl)
        simp only [e_upd, Nat.reduceEqDiff, ↓reduceIte]
        rfl
      · have := digs_take (l := l) (k := 0) (by omega)
        simp only [Nat.zero_add, List.take_zero] at this
        rw [this]
        simp [gcH, Vh.rowAt, sl, ro, ints_ren, digs]
    · have hH := hH (by omega)
      subst hH
      have hne' : l.take k ≠ [] := List.ne_nil_of_length_pos (by rw [List.length_take]; omega)
      have h3' : s 3 = .sliceU 1 0 (4 * k) 1 := by rw [h3, digK, if_neg hne']; rfl
      have hdl : (digs (l.take k)).length = 4 * k := by rw [digs_length, List.length_take]; omega
      simp (disch := omega) only [sS, ↓reduceIte, Nat.reduceEqDiff, Nat.reduceAdd, Nat.reduceMul, Nat.reduceSub, reduceCtorEq, e_none, e_some, e_bindS, h0, h4, k_len hk, k_idx hk, b_rem, b_quo]
      rw [x_bs4 (v1 := .int .i64 (l.getD k 0 % 256)) (v2 := .int .i64 (l.getD k 0 / 256 % 256)) (v3 := .int .i64 (l.getD k 0 / 65536 % 256)) (v4 := .int .i64 (l.getD k 0 / 16777216))
        (by simp only [e_t, e_upd, Nat.reduceEqDiff, ↓reduceIte]) (by simp only [e_t, e_upd, Nat.reduceEqDiff, ↓reduceIte]) (by simp only [e_t, e_upd, Nat.reduceEqDiff, ↓reduceIte]) (by simp only [e_t, e_upd, Nat.reduceEqDiff, ↓reduceIte]) rfl rfl rfl rfl]
      simp (disch := omega) only [sS, ↓reduceIte, Nat.reduceEqDiff, Nat.reduceAdd, Nat.reduceMul, Nat.reduceSub, reduceCtorEq, e_none, e_some, e_bindS]
      rw [x_appU (q := 1) (n := 4 * k) (old := ints .i64 (digs (l.take k))) (r := 2) (m := 4) (c := 4) (row := ⟨true, false, ints .i64 (dig4 (l.getD k 0))⟩) (xs := ints .i64 (dig4 (l.getD k 0))) (by simp only [e_t, e_upd, Nat.reduceEqDiff, ↓reduceIte, h3']) (by simp only [e_t, e_upd, Nat.reduceEqDiff, ↓reduceIte]; rfl) rfl (by rw [ints_length, hdl]) rfl rfl (by simp [dig4, ints]) (by omega) rfl]
      simp (disch := omega) only [sS, ↓reduceIte, Nat.reduceEqDiff, Nat.reduceAdd, Nat.reduceMul, Nat.reduceSub, reduceCtorEq, e_none, e_some, e_bindS, h4]
      refine loop_gc [0, 3] ?_ ?_ (show l.length - (k + 1) < l.length - k by omega) ?_
      · rfl
      · simp [gcH, Vh.rowAt, sl, ro, ints_ren, ints_cell, ints_append]
      refine ⟨k + 1, by omega, rfl, gc_at ?_ (n_mkS0 (κ := κ) (r := 0) (off := 0) (n := l.length) (r' := 0) rfl), gc_at ?_ (n_int (k := .i64) (n := ((k + 1 : Nat) : Int))), ?_, fun _ => ?_, fun h => by omega⟩
      · simp only [e_upd, Nat.reduceEqDiff, ↓reduceIte, h0]
      · simp (disch := omega) only [e_upd, Nat.reduceEqDiff, ↓reduceIte, h4, w64]; simp
      · rw [digK, if_neg hne]
        refine gc_at ?_ (n_mkS0 (κ := .u) (r := 3) (off := 0) (n := 4 * (k + 1)) (r' := 1) rfl)
        simp only [e_upd, Nat.reduceEqDiff, ↓reduceIte]
        rfl
      · rw [digs_take hlt]
        simp [gcH, Vh.rowAt, sl, ro, ints_ren, ints_append]
  · obtain rfl : k = l.length := by omega
    simp (disch := omega) only [sS, ↓reduceIte, Nat.reduceEqDiff, Nat.reduceAdd, Nat.reduceMul, Nat.reduceSub, reduceCtorEq, e_none, e_some, e_bindS, h0, h4, h3, k_len hk]
    rw [List.take_length] at h3 hH
    by_cases hl : l = []
    · subst hl
      have hH := hH0 rfl
      subst hH
      refine call_ints (r := 0) (row := ⟨false, false, []⟩) (rtrim_calls .nil [] rfl (by simp)) rfl rfl rfl rfl ?_
      rintro v0 H0' ⟨rfl, rfl⟩
      simp (disch := omega) only [sS, ↓reduceIte, Nat.reduceEqDiff, Nat.reduceAdd, Nat.reduceMul, Nat.reduceSub, reduceCtorEq, e_none, e_some, e_bindS]
      refine ret_keep (by simp) ⟨?_, rfl⟩
      simp only [e_upd, ↓reduceIte]
      rfl
    · have hp : l.length ≠ 0 := by simpa using hl
      have hH := hH hp
      subst hH
      have hdl := digs_length l
      have := rtrim_calls .u (digs l) okS_u (by omega)
      rw [hdl] at this
      refine call_ints (r := 1) (row := ⟨true, true, ints .i64 (digs l)⟩) this rfl rfl (by rw [← ints_length (k := .i64) (l := digs l), List.take_length]) (by rw [List.take_length, digK, if_neg hl]; rfl) ?_
      rintro v0 H0' ⟨rfl, rfl⟩
      simp (disch := omega) only [sS, ↓reduceIte, Nat.reduceEqDiff, Nat.reduceAdd, Nat.reduceMul, Nat.reduceSub, reduceCtorEq, e_none, e_some, e_bindS]
      refine ret_keep (by simp) ⟨?_, ?_⟩
      · simp only [e_upd, ↓reduceIte]
        rw [digK, if_neg hl, n_mkS (r' := 1) (d := 0) rfl]
      · rw [digH, if_neg hl]; rfl
end Go.Proofs.Ythbhljolpnbdlaa.S1


