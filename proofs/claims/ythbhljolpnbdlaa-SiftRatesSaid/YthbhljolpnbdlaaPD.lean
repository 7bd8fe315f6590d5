/- Contracts: mulSmall. -/
import Derived.Test.YthbhljolpnbdlaaV7
import Derived.Test.YthbhljolpnbdlaaPC
import Derived.Test.YthbhljolpnbdlaaV8
import Derived.Test.YthbhljolpnbdlaaChecked
set_option linter.unusedSimpArgs false
set_option linter.unusedVariables false
namespace Go.Proofs.Ythbhljolpnbdlaa.S1
open Go Go.Vh

def msS (a : List Int) (f more : Int) (n : Nat) : Nat → List Int × Int
  | 0 => (List.replicate n 0, more)
  | i + 1 => ((msS a f more n i).1.set i (((msS a f more n i).2 + a.getD i 0 * f) % 4294967296), ((msS a f more n i).2 + a.getD i 0 * f) / 4294967296)
theorem msS_length (a : List Int) (f more : Int) (n : Nat) : ∀ i, (msS a f more n i).1.length = n
  | 0 => by simp [msS]
  | i + 1 => by simp [msS, msS_length a f more n i]
theorem msS_range {a : List Int} {f more : Int} (ha : Limbs a) (hf : 0 ≤ f ∧ f ≤ 4294967295) (hm : 0 ≤ more ∧ more ≤ 4294967295) (n : Nat) : ∀ i, Limbs (msS a f more n i).1 ∧ 0 ≤ (msS a f more n i).2 ∧ (msS a f more n i).2 ≤ 4294967295
  | 0 => ⟨fun j => by
      have : (msS a f more n 0).1.getD j 0 = 0 := by simp only [msS, List.getD_eq_getElem?_getD, List.getElem?_replicate]; split <;> rfl
      rw [this]; omega, hm⟩
  | i + 1 => by
    obtain ⟨h1, h2, h3⟩ := msS_range ha hf hm n i
    have h4 := prod_range (ha i) hf
    simp only [msS]
    generalize a.getD i 0 * f = p at *
    refine ⟨set_limbs h1 _ ?_, ?_, ?_⟩ <;> omega
theorem msS_sum (a : List Int) (f more : Int) {n : Nat} : ∀ i, i ≤ n → nv (msS a f more n i).1 i + (msS a f more n i).2 * BB ^ i = nv a i * f + more
  | 0, _ => by simp [nv, msS]
  | i + 1, h => by
    have ih := msS_sum a f more (n := n) i (by omega)
    have hl := msS_length a f more n i
    simp only [msS, nv]
    rw [getD_set, if_pos ⟨rfl, by omega⟩, Int.pow_succ]
    have e3 : nv ((msS a f more n i).1.set i (((msS a f more n i).2 + a.getD i 0 * f) % 4294967296)) i = nv (msS a f more n i).1 i := nv_congr i fun j hj => by
      rw [getD_set, if_neg (by omega)]
    rw [e3]
    generalize (msS a f more n i).2 = c at *
    have hb : BB = 4294967296 := rfl
    have key : (c + a.getD i 0 * f) % 4294967296 * BB ^ i + (c + a.getD i 0 * f) / 4294967296 * (BB ^ i * BB) = (c + a.getD i 0 * f) * BB ^ i := by
      have := Int.emod_add_mul_ediv (c + a.getD i 0 * f) 4294967296
      generalize (c + a.getD i 0 * f) / 4294967296 = u at *
      generalize (c + a.getD i 0 * f) % 4294967296 = r at *
      rw [← this, hb, Int.add_mul, ← Int.mul_assoc, Int.mul_right_comm u, Int.mul_comm u]
    rw [Int.add_mul c] at key
    rw [Int.add_mul, Int.mul_right_comm (a.getD i 0)]
    omega
def msL (a : List Int) (f more : Int) : List Int := (msS a f more (a.length + 1) a.length).1.set a.length (msS a f more (a.length + 1) a.length).2
theorem msL_length (a : List Int) (f more : Int) : (msL a f more).length = a.length + 1 := by simp [msL, msS_length]
theorem msL_limbs {a : List Int} {f more : Int} (ha : Limbs a) (hf : 0 ≤ f ∧ f ≤ 4294967295) (hm : 0 ≤ more ∧ more ≤ 4294967295) : Limbs (msL a f more) :=
  let ⟨h1, h2⟩ := msS_range ha hf hm (a.length + 1) a.length
  set_limbs h1 _ h2
theorem msL_num (a : List Int) (f more : Int) : num (msL a f more) = num a * f + more := by
  have hs := msS_sum a f more (n := a.length + 1) a.length (by omega)
  have hl := msS_length a f more (a.length + 1) a.length
  simp only [num, msL_length, nv]
  rw [msL, getD_set, if_pos ⟨rfl, by omega⟩]
  have e3 : nv ((msS a f more (a.length + 1) a.length).1.set a.length (msS a f more (a.length + 1) a.length).2) a.length = nv (msS a f more (a.length + 1) a.length).1 a.length := nv_congr _ fun j hj => by
    rw [getD_set, if_neg (by omega)]
  rw [e3]
  exact hs

theorem mulSmall_calls (κ : SK) (a : List Int) (hk : okS κ a.length) (hm : a.length ≤ 1000000) (ha : Limbs a) {f more : Int} (hf : 0 ≤ f ∧ f ≤ 4294967295) (hmo : 0 ≤ more ∧ more ≤ 4294967295) :
    ACalls Try.prog 156 [mkS κ 0 0 a.length, .int .u32 f, .int .u32 more] [ro (ints .u32 a)] [0] fun v H =>
      v = mkS (.cap (a.length + 1)) 1 0 (tz (msL a f more) (a.length + 1)) ∧ H = [ro (ints .u32 a), rw_ (ints .u32 (msL a f more))] := by
  refine ACalls.body Try.func156 ent_mulSmall ir_mulSmall_ok rs_mulSmall_ok Try.ntmps156 (by simp) rfl ?_
  unfold ir_mulSmall
  have e0 : s0 [mkS κ 0 0 a.length, .int .u32 f, .int .u32 more] 0 = mkS κ 0 0 a.length := rfl
  have e1 : s0 [mkS κ 0 0 a.length, .int .u32 f, .int .u32 more] 1 = .int .u32 f := rfl
  have e2 : s0 [mkS κ 0 0 a.length, .int .u32 f, .int .u32 more] 2 = .int .u32 more := rfl
  simp (disch := omega) only [sS, ↓reduceIte, Nat.reduceEqDiff, Nat.reduceAdd, Nat.reduceMul, Nat.reduceSub, reduceCtorEq, e_none, e_some, e_bindS, e0, e1, e2, k_len hk]
  rw [x_make (n := (a.length : Int) + 1) (by simp only [e_t, e_upd, Nat.reduceEqDiff, ↓reduceIte]) (by omega) (by omega) (by omega)]
  have hN : ((a.length : Int) + 1).toNat = a.length + 1 := by omega
  simp (disch := omega) only [sS, ↓reduceIte, Nat.reduceEqDiff, Nat.reduceAdd, Nat.reduceMul, Nat.reduceSub, reduceCtorEq, e_none, e_some, e_bindS, hN, e0, e1, e2, k_len hk]
  refine ⟨fun m s H => ∃ i : Nat, i ≤ a.length ∧ m = a.length - i ∧ s 0 = mkS κ 0 0 a.length ∧ s 1 = .int .u32 f ∧ s 7 = .slice 1 0 (a.length + 1) (a.length + 1) ∧ s 8 = .int .u64 (msS a f more (a.length + 1) i).2 ∧ s 17 = .int .i64 a.length ∧ s 18 = .int .i64 i ∧ H = [ro (ints .u32 a), rw_ (ints .u32 (msS a f more (a.length + 1) i).1)], a.length, ⟨0, by omega, rfl, ?_, ?_, ?_, ?_, ?_, ?_, rfl⟩, ?_⟩
  · simp only [e_upd, Nat.reduceEqDiff, ↓reduceIte, e0]
  · simp only [e_upd, Nat.reduceEqDiff, ↓reduceIte, e1]
  · simp only [e_upd, Nat.reduceEqDiff, ↓reduceIte]; rfl
  · simp only [e_upd, Nat.reduceEqDiff, ↓reduceIte]; rfl
  · simp only [e_upd, Nat.reduceEqDiff, ↓reduceIte]
  · simp only [e_upd, Nat.reduceEqDiff, ↓reduceIte]; rfl
  rintro m s H ⟨i, hi, rfl, h0, h1, h7, h8, h17, h18, rfl⟩
  have hS := msS_length a f more (a.length + 1) i
  obtain ⟨hL, hc⟩ := msS_range ha hf hmo (a.length + 1) i
  by_cases hil : i < a.length
  · have hp := prod_range (ha i) hf
    have hy := ha i
    have e3 : msS a f more (a.length + 1) (i + 1) = ((msS a f more (a.length + 1) i).1.set i (((msS a f more (a.length + 1) i).2 + a.getD i 0 * f) % 4294967296), ((msS a f more (a.length + 1) i).2 + a.getD i 0 * f) / 4294967296) := rfl
    generalize hX : msS a f more (a.length + 1) i = X at *
    obtain ⟨Q, c⟩ := X
    simp only at hL hc hS e3 h8 ⊢
    generalize hpp : a.getD i 0 * f = p at *
    have wt : IntKind.u32.wrap (c + p) = (c + p) % 4294967296 := IntKind.wrap_u32 _
    have hs : abin .shr (.int .u64 (c + p)) (.int .u64 32) = some (.int .u64 ((c + p) / 4294967296)) := b_shr (n := 32) (by decide)
    simp (disch := omega) only [sS, ↓reduceIte, Nat.reduceEqDiff, Nat.reduceAdd, Nat.reduceMul, Nat.reduceSub, reduceCtorEq, e_none, e_some, e_bindS, h0, h1, h7, h8, h17, h18, k_len hk, k_idx hk, hpp, wt, hs]
    rw [x_store (r := 1) (off := i) (k := .u32) (b := (c + p) % 4294967296) (l := Q) (by simp only [e_t, e_upd, Nat.reduceEqDiff, ↓reduceIte]) (by simp only [e_t, e_upd, Nat.reduceEqDiff, ↓reduceIte]) rfl (by omega)]
    simp (disch := omega) only [sS, ↓reduceIte, Nat.reduceEqDiff, Nat.reduceAdd, Nat.reduceMul, Nat.reduceSub, reduceCtorEq, e_none, e_some, e_bindS, h18, hs]
    refine loop_keep (m := a.length - (i + 1)) (by omega) ⟨i + 1, by omega, rfl, ?_, ?_, ?_, ?_, ?_, ?_, ?_⟩
    · simp only [e_upd, Nat.reduceEqDiff, ↓reduceIte, h0]
    · simp only [e_upd, Nat.reduceEqDiff, ↓reduceIte, h1]
    · simp only [e_upd, Nat.reduceEqDiff, ↓reduceIte, h7]
    · rw [e3]; simp only [e_upd, Nat.reduceEqDiff, ↓reduceIte]
    · simp only [e_upd, Nat.reduceEqDiff, ↓reduceIte, h17]
    · simp (disch := omega) only [e_upd, Nat.reduceEqDiff, ↓reduceIte, h18, w64, AV.int.injEq]; simp
    · rw [e3]; rfl
  · obtain rfl : i = a.length := by omega
    have wc : IntKind.u32.wrap (msS a f more (a.length + 1) a.length).2 = (msS a f more (a.length + 1) a.length).2 := by rw [IntKind.wrap_u32]; omega
    simp (disch := omega) only [sS, ↓reduceIte, Nat.reduceEqDiff, Nat.reduceAdd, Nat.reduceMul, Nat.reduceSub, reduceCtorEq, e_none, e_some, e_bindS, h0, h1, h7, h8, h17, h18, k_len hk, wc]
    rw [x_store (r := 1) (off := a.length) (k := .u32) (b := (msS a f more (a.length + 1) a.length).2) (l := (msS a f more (a.length + 1) a.length).1) (by simp only [e_t, e_upd, Nat.reduceEqDiff, ↓reduceIte]) (by simp only [e_t, e_upd, Nat.reduceEqDiff, ↓reduceIte]) rfl (by omega)]
    simp (disch := omega) only [sS, ↓reduceIte, Nat.reduceEqDiff, Nat.reduceAdd, Nat.reduceMul, Nat.reduceSub, reduceCtorEq, e_none, e_some, e_bindS, h7]
    have hml := msL_length a f more
    have ht := xtrim_calls (.cap (a.length + 1)) (msL a f more) (okS_cap (by omega)) (by omega)
    rw [hml] at ht
    refine call_rdS (r := 1) (row := ⟨true, false, ints .u32 (msL a f more)⟩) ht rfl rfl take_all rfl ?_
    simp (disch := omega) only [sS, ↓reduceIte, Nat.reduceEqDiff, Nat.reduceAdd, Nat.reduceMul, Nat.reduceSub, reduceCtorEq, e_none, e_some, e_bindS]
    refine ret_keep (by simp) ⟨?_, rfl⟩
    simp only [e_upd, ↓reduceIte]
end Go.Proofs.Ythbhljolpnbdlaa.S1



/- Texts of code of this program, checked against its dump. -/
namespace Go.Proofs.Ythbhljolpnbdlaa.S1
open Go Go.Vh
def ir_div32 : IR := (.seq (.ops [⟨(some 6), none, (.pure (.move (.c (.int .u32 0))))⟩, ⟨(some 7), none, (.pure (.move (.c (.int .u32 0))))⟩]) (.seq (.seq (.ops [⟨(some 9), none, (.pure (.move (.t 2)))⟩, ⟨(some 10), none, (.pure (.bin .neq (.t 9) (.c (.int .u32 0))))⟩, ⟨(some 11), none, (.pure (.move (.t 10)))⟩, ⟨(some 12), (some (11, true)), (.pure (.move (.t 2)))⟩, ⟨(some 13), (some (11, true)), (.pure (.move (.t 0)))⟩, ⟨(some 14), (some (11, true)), (.pure (.bin .leq (.t 12) (.t 13)))⟩, ⟨(some 15), none, (.pure (.pick (.t 11) (.t 14) (.c (.bool false))))⟩]) (.cond (.t 15) (.ops [⟨(some 16), none, (.eff (.load1 (.t 1048576)))⟩, ⟨none, none, (.pure .stuck)⟩]) .skip)) (.seq (.ops [⟨(some 17), none, (.pure (.move (.t 0)))⟩, ⟨(some 18), none, (.pure (.conv .u64 (.t 17)))⟩, ⟨(some 19), none, (.pure (.bin .shl (.t 18) (.c (.int .u64 32))))⟩, ⟨(some 20), none, (.pure (.move (.t 1)))⟩, ⟨(some 21), none, (.pure (.conv .u64 (.t 20)))⟩, ⟨(some 22), none, (.pure (.bin .or (.t 19) (.t 21)))⟩, ⟨(some 8), none, (.pure (.move (.t 22)))⟩]) (.seq (.dops [⟨⟨(some 23), none, (.pure (.move (.t 8)))⟩, 0, 0⟩, ⟨⟨(some 24), none, (.pure (.move (.t 2)))⟩, 1, 0⟩, ⟨⟨(some 25), none, (.pure (.conv .u64 (.t 24)))⟩, 2, 0⟩, ⟨⟨(some 26), none, (.pure (.bin .quo (.t 23) (.t 25)))⟩, 3, 0⟩, ⟨⟨(some 27), none, (.pure (.conv .u32 (.t 26)))⟩, 4, 0⟩, ⟨⟨(some 28), none, (.pure (.move (.t 8)))⟩, 5, 0⟩, ⟨⟨(some 29), none, (.pure (.move (.t 2)))⟩, 6, 0⟩, ⟨⟨(some 30), none, (.pure (.conv .u64 (.t 29)))⟩, 7, 0⟩, ⟨⟨(some 31), none, (.pure (.bin .rem (.t 28) (.t 30)))⟩, 8, 0⟩, ⟨⟨(some 32), none, (.pure (.conv .u32 (.t 31)))⟩, 9, 0⟩, ⟨⟨(some 6), none, (.pure (.move (.t 27)))⟩, 10, 0⟩, ⟨⟨(some 7), none, (.pure (.move (.t 32)))⟩, 11, 0⟩]) .ret))))
def rs_div32 : List IRes := [(.tmp 6), (.tmp 7)]
theorem ir_div32_ok : (Func.body Try.f165).bind (irOf Try.prog Try.f165.ntmps) = some ir_div32 := by kernel_rfl
theorem rs_div32_ok : Try.f165.results.toList.mapM (resOf Try.prog) = some rs_div32 := by kernel_rfl
theorem ent_div32 : enters Try.prog 165 = true := by kernel_rfl

def ir_divideSmall : IR := (.seq (.ops [⟨(some 4), none, (.pure (.move (.c .nilslice)))⟩, ⟨(some 5), none, (.pure (.move (.c (.int .u32 0))))⟩]) (.seq (.ops [⟨(some 10), none, (.pure (.move (.t 0)))⟩, ⟨(some 11), none, (.pure (.len (.t 10)))⟩, ⟨(some 12), none, (.eff (.makeSlice (.int .u32 0) 4 (.t 11) (.t 11)))⟩, ⟨(some 6), none, (.pure (.move (.t 12)))⟩]) (.seq (.ops [⟨(some 7), none, (.pure (.move (.c (.int .u32 0))))⟩]) (.seq (.seq (.ops [⟨(some 13), none, (.pure (.move (.t 0)))⟩, ⟨(some 14), none, (.pure (.len (.t 13)))⟩, ⟨(some 15), none, (.pure (.move (.c (.int .i64 0))))⟩]) (.block 0 (.loop (.seq (.ops [⟨(some 16), none, (.pure (.bin .lss (.t 15) (.t 14)))⟩]) (.seq (.cond (.t 16) .skip (.exit 0)) (.seq (.block 1 (.seq (.ops [⟨(some 17), none, (.pure (.move (.t 15)))⟩, ⟨(some 8), none, (.pure (.move (.t 17)))⟩]) (.seq (.ops [⟨(some 18), none, (.pure (.move (.t 0)))⟩, ⟨(some 19), none, (.pure (.len (.t 18)))⟩, ⟨(some 20), none, (.pure (.bin .sub (.t 19) (.c (.int .i64 1))))⟩, ⟨(some 21), none, (.pure (.move (.t 8)))⟩, ⟨(some 22), none, (.pure (.bin .sub (.t 20) (.t 21)))⟩, ⟨(some 9), none, (.pure (.move (.t 22)))⟩]) (.ops [⟨(some 24), none, (.pure (.move (.t 6)))⟩, ⟨(some 25), none, (.pure (.move (.t 9)))⟩, ⟨(some 26), none, (.pure (.move (.t 7)))⟩, ⟨(some 27), none, (.pure (.move (.t 0)))⟩, ⟨(some 28), none, (.pure (.move (.t 9)))⟩, ⟨(some 29), none, (.pure (.indexAddr 1 (.t 27) (.t 28)))⟩, ⟨(some 30), none, (.eff (.load1 (.t 29)))⟩, ⟨(some 31), none, (.pure (.move (.t 1)))⟩, ⟨(some 32), none, (.call (.c (.func 165 [])) [(.t 26), (.t 30), (.t 31)])⟩, ⟨(some 23), none, (.pure (.move (.t 32)))⟩, ⟨(some 33), none, (.pure (.extract (.t 23) 0))⟩, ⟨(some 34), none, (.pure (.extract (.t 23) 1))⟩, ⟨(some 35), none, (.pure (.indexAddr 1 (.t 24) (.t 25)))⟩, ⟨none, none, (.eff (.store 1 (.t 35) (.t 33)))⟩, ⟨(some 7), none, (.pure (.move (.t 34)))⟩])))) (.ops [⟨(some 36), none, (.pure (.bin .add (.t 15) (.c (.int .i64 1))))⟩, ⟨(some 15), none, (.pure (.move (.t 36)))⟩]))))))) (.seq (.ops [⟨(some 37), none, (.pure (.move (.t 6)))⟩, ⟨(some 38), none, (.call (.c (.func 136 [])) [(.t 37)])⟩, ⟨(some 39), none, (.pure (.move (.t 7)))⟩, ⟨(some 4), none, (.pure (.move (.t 38)))⟩, ⟨(some 5), none, (.pure (.move (.t 39)))⟩]) .ret)))))
def rs_divideSmall : List IRes := [(.tmp 4), (.tmp 5)]
theorem ir_divideSmall_ok : (Func.body Try.f155).bind (irOf Try.prog Try.f155.ntmps) = some ir_divideSmall := by kernel_rfl
theorem rs_divideSmall_ok : Try.f155.results.toList.mapM (resOf Try.prog) = some rs_divideSmall := by kernel_rfl
theorem ent_divideSmall : enters Try.prog 155 = true := by kernel_rfl

def ir_step : IR := (.seq (.ops [⟨(some 6), none, (.pure (.move (.c .nilslice)))⟩]) (.seq (.ops [⟨(some 10), none, (.pure (.move (.t 0)))⟩, ⟨(some 11), none, (.pure (.move (.t 1)))⟩, ⟨(some 12), none, (.pure (.conv .u32 (.t 11)))⟩, ⟨(some 13), none, (.call (.c (.func 156 [])) [(.t 10), (.t 12), (.c (.int .u32 0))])⟩, ⟨(some 14), none, (.pure (.move (.t 2)))⟩, ⟨(some 15), none, (.pure (.conv .u32 (.t 14)))⟩, ⟨(some 16), none, (.call (.c (.func 155 [])) [(.t 13), (.t 15)])⟩, ⟨(some 9), none, (.pure (.move (.t 16)))⟩, ⟨(some 17), none, (.pure (.extract (.t 9) 0))⟩, ⟨(some 18), none, (.pure (.extract (.t 9) 1))⟩, ⟨(some 7), none, (.pure (.move (.t 17)))⟩, ⟨(some 8), none, (.pure (.move (.t 18)))⟩]) (.seq (.ops [⟨(some 19), none, (.pure (.move (.t 7)))⟩, ⟨(some 6), none, (.pure (.move (.t 19)))⟩]) .ret)))
def rs_step : List IRes := [(.tmp 6)]
theorem ir_step_ok : (Func.body Try.f138).bind (irOf Try.prog Try.f138.ntmps) = some ir_step := by kernel_rfl
theorem rs_step_ok : Try.f138.results.toList.mapM (resOf Try.prog) = some rs_step := by kernel_rfl
theorem ent_step : enters Try.prog 138 = true := by kernel_rfl

end Go.Proofs.Ythbhljolpnbdlaa.S1



/- Contracts: Div32, divideSmall, step. -/
namespace Go.Proofs.Ythbhljolpnbdlaa.S1
open Go Go.Vh

theorem div32_calls {hi lo y : Int} (hh : 0 ≤ hi ∧ hi < y) (hl : 0 ≤ lo ∧ lo ≤ 4294967295) (hy : y ≤ 4294967295) : ACalls Try.prog 165 [.int .u32 hi, .int .u32 lo, .int .u32 y] [] [] fun v H =>
    v = .tuple [.int .u32 ((hi * 4294967296 + lo) / y), .int .u32 ((hi * 4294967296 + lo) % y)] ∧ H = [] := by
  refine ACalls.body Try.func165 ent_div32 ir_div32_ok rs_div32_ok Try.ntmps165 (by simp) rfl ?_
  unfold ir_div32
  have e0 : s0 [.int .u32 hi, .int .u32 lo, .int .u32 y] 0 = .int .u32 hi := rfl
  have e1 : s0 [.int .u32 hi, .int .u32 lo, .int .u32 y] 1 = .int .u32 lo := rfl
  have e2 : s0 [.int .u32 hi, .int .u32 lo, .int .u32 y] 2 = .int .u32 y := rfl
  have hs : abin .shl (.int .u64 hi) (.int .u64 32) = some (.int .u64 (hi * 4294967296)) := by
    rw [show ((32 : Int)) = ((32 : Nat) : Int) from rfl, b_shl (n := 32) (by decide), wu64 (by omega) (by omega)]; rfl
  have ho := b_or hh.1 (show hi ≤ 4294967295 by omega) hl.1 hl.2
  have hq : 0 ≤ (hi * 4294967296 + lo) / y ∧ (hi * 4294967296 + lo) / y ≤ 4294967295 := by
    refine ⟨Int.ediv_nonneg (by omega) (by omega), ?_⟩
    have : (hi * 4294967296 + lo) / y < 4294967296 := Int.ediv_lt_of_lt_mul (by omega) (by omega)
    omega
  have hr : 0 ≤ (hi * 4294967296 + lo) % y ∧ (hi * 4294967296 + lo) % y ≤ 4294967295 := by
    have h1 := Int.emod_nonneg (hi * 4294967296 + lo) (show y ≠ 0 by omega)
    have h2 := Int.emod_lt_of_pos (hi * 4294967296 + lo) (show 0 < y by omega)
    omega
  generalize hz : hi * 4294967296 + lo = z at *
  have hz2 : 0 ≤ z := by omega
  simp (disch := omega) only [sS, ↓reduceIte, Nat.reduceEqDiff, Nat.reduceAdd, Nat.reduceMul, Nat.reduceSub, reduceCtorEq, e_none, e_some, e_bindS, e0, e1, e2, hs, ho, hz, b_quo, b_rem]
  refine ret_keep (by simp) ⟨?_, rfl⟩
  simp only [e_upd, Nat.reduceEqDiff, ↓reduceIte]

def dsS (a : List Int) (y : Int) (n : Nat) : Nat → List Int × Int
  | 0 => (List.replicate n 0, 0)
  | k + 1 => ((dsS a y n k).1.set (n - 1 - k) (((dsS a y n k).2 * 4294967296 + a.getD (n - 1 - k) 0) / y), ((dsS a y n k).2 * 4294967296 + a.getD (n - 1 - k) 0) % y)
theorem dsS_length (a : List Int) (y : Int) (n : Nat) : ∀ k, (dsS a y n k).1.length = n
  | 0 => by simp [dsS]
  | k + 1 => by simp [dsS, dsS_length a y n k]
theorem dsS_range {a : List Int} {y : Int} (ha : Limbs a) (hy : 0 < y ∧ y ≤ 4294967295) (n : Nat) : ∀ k, Limbs (dsS a y n k).1 ∧ 0 ≤ (dsS a y n k).2 ∧ (dsS a y n k).2 < y
  | 0 => ⟨fun j => by
      have : (dsS a y n 0).1.getD j 0 = 0 := by simp only [dsS, List.getD_eq_getElem?_getD, List.getElem?_replicate]; split <;> rfl
      rw [this]; omega, by simp [dsS], by simp [dsS]; omega⟩
  | k + 1 => by
    obtain ⟨h1, h2, h3⟩ := dsS_range ha hy n k
    have h4 := ha (n - 1 - k)
    simp only [dsS]
    refine ⟨set_limbs h1 _ ⟨Int.ediv_nonneg (by omega) (by omega), ?_⟩, Int.emod_nonneg _ (by omega), Int.emod_lt_of_pos _ hy.1⟩
    have : ((dsS a y n k).2 * 4294967296 + a.getD (n - 1 - k) 0) / y < 4294967296 := Int.ediv_lt_of_lt_mul (by omega) (by omega)
    omega
theorem dsS_zero (a : List Int) (y : Int) (n : Nat) : ∀ k j, j + k < n → (dsS a y n k).1.getD j 0 = 0
  | 0, j, _ => by simp only [dsS, List.getD_eq_getElem?_getD, List.getElem?_replicate]; split <;> rfl
  | k + 1, j, h => by
    simp only [dsS, getD_set]
    rw [if_neg (by omega)]
    exact dsS_zero a y n k j (by omega)
theorem dsS_sum (a : List Int) (y : Int) {n : Nat} : ∀ k, k ≤ n → nv a n - nv a (n - k) = y * nv (dsS a y n k).1 n + (dsS a y n k).2 * BB ^ (n - k)
  | 0, _ => by
    have : ∀ m, nv (List.replicate n (0 : Int)) m = 0 := by
      intro m
      induction m with
      | zero => rfl
      | succ m ih =>
        have : (List.replicate n (0 : Int)).getD m 0 = 0 := by simp only [List.getD_eq_getElem?_getD, List.getElem?_replicate]; split <;> rfl
        simp only [nv, ih, this]; omega
    simp [dsS, this]
  | k + 1, h => by
    have ih := dsS_sum a y (n := n) k (by omega)
    have hl := dsS_length a y n k
    have hz := dsS_zero a y n k (n - 1 - k) (by omega)
    obtain ⟨i, hi⟩ : ∃ i, i = n - 1 - k := ⟨_, rfl⟩
    have e1 : n - k = i + 1 := by omega
    have e2 : n - (k + 1) = i := by omega
    simp only [dsS]
    rw [← hi] at hz ⊢
    rw [nv_set _ _ _ (by omega), if_pos (by omega), hz, Int.sub_zero, e2]
    rw [e1] at ih
    simp only [nv] at ih
    rw [Int.pow_succ] at ih
    generalize (dsS a y n k).2 = r at *
    have key := Int.mul_ediv_add_emod (r * 4294967296 + a.getD i 0) y
    generalize (r * 4294967296 + a.getD i 0) / y = q at *
    generalize (r * 4294967296 + a.getD i 0) % y = t at *
    have hb : BB = 4294967296 := rfl
    have e3 : y * (q * BB ^ i) + t * BB ^ i = r * (BB ^ i * BB) + a.getD i 0 * BB ^ i := by
      rw [← Int.mul_assoc, ← Int.add_mul, key, Int.add_mul, hb, Int.mul_comm ((4294967296 : Int) ^ i) 4294967296, Int.mul_assoc]
    rw [Int.mul_add]
    omega
theorem dsS_num {a : List Int} {y : Int} (ha : Limbs a) (hy : 0 < y ∧ y ≤ 4294967295) : num (dsS a y a.length a.length).1 = num a / y ∧ (dsS a y a.length a.length).2 = num a % y := by
  have hs := dsS_sum a y (n := a.length) a.length (Nat.le_refl _)
  obtain ⟨_, h2, h3⟩ := dsS_range ha hy a.length a.length
  have hl := dsS_length a y a.length a.length
  rw [Nat.sub_self] at hs
  simp only [nv, Int.sub_zero, Int.pow_zero, Int.mul_one] at hs
  simp only [num, hl]
  exact (Int.ediv_emod_unique hy.1).2 ⟨by omega, h2, h3⟩ |>.imp Eq.symm Eq.symm

theorem divideSmall_calls (κ : SK) (a : List Int) (hk : okS κ a.length) (hm : a.length ≤ 1000000) (ha : Limbs a) {y : Int} (hy : 0 < y ∧ y ≤ 4294967295) :
    ACalls Try.prog 155 [mkS κ 0 0 a.length, .int .u32 y] [ro (ints .u32 a)] [0] fun v H =>
      v = .tuple [mkS (.cap a.length) 1 0 (tz (dsS a y a.length a.length).1 a.length), .int .u32 (dsS a y a.length a.length).2] ∧ H = [ro (ints .u32 a), rw_ (ints .u32 (dsS a y a.length a.length).1)] := by
  refine ACalls.body Try.func155 ent_divideSmall ir_divideSmall_ok rs_divideSmall_ok Try.ntmps155 (by simp) rfl ?_
  unfold ir_divideSmall
  have e0 : s0 [mkS κ 0 0 a.length, .int .u32 y] 0 = mkS κ 0 0 a.length := rfl
  have e1 : s0 [mkS κ 0 0 a.length, .int .u32 y] 1 = .int .u32 y := rfl
  simp (disch := omega) only [sS, ↓reduceIte, Nat.reduceEqDiff, Nat.reduceAdd, Nat.reduceMul, Nat.reduceSub, reduceCtorEq, e_none, e_some, e_bindS, e0, e1, k_len hk]
  rw [x_make (n := (a.length : Int)) (by simp only [e_t, e_upd, Nat.reduceEqDiff, ↓reduceIte]) (by omega) (by omega) (by omega)]
  simp (disch := omega) only [sS, ↓reduceIte, Nat.reduceEqDiff, Nat.reduceAdd, Nat.reduceMul, Nat.reduceSub, reduceCtorEq, e_none, e_some, e_bindS, e0, e1, k_len hk]
  refine ⟨fun m s H => ∃ k : Nat, k ≤ a.length ∧ m = a.length - k ∧ s 0 = mkS κ 0 0 a.length ∧ s 1 = .int .u32 y ∧ s 6 = .slice 1 0 a.length a.length ∧ s 7 = .int .u32 (dsS a y a.length k).2 ∧ s 14 = .int .i64 a.length ∧ s 15 = .int .i64 k ∧ H = [ro (ints .u32 a), rw_ (ints .u32 (dsS a y a.length k).1)], a.length, ⟨0, by omega, rfl, ?_, ?_, ?_, ?_, ?_, ?_, rfl⟩, ?_⟩
  · simp only [e_upd, Nat.reduceEqDiff, ↓reduceIte, e0]
  · simp only [e_upd, Nat.reduceEqDiff, ↓reduceIte, e1]
  · simp only [e_upd, Nat.reduceEqDiff, ↓reduceIte]; rfl
  · simp only [e_upd, Nat.reduceEqDiff, ↓reduceIte]; rfl
  · simp only [e_upd, Nat.reduceEqDiff, ↓reduceIte]
  · simp only [e_upd, Nat.reduceEqDiff, ↓reduceIte]; rfl
  rintro m s H ⟨k, hk1, rfl, h0, h1, h6, h7, h14, h15, rfl⟩
  have hS := dsS_length a y a.length k
  obtain ⟨hL, hc⟩ := dsS_range ha hy a.length k
  by_cases hil : k < a.length
  · have hidx : (a.length : Int) - 1 - (k : Int) = ((a.length - 1 - k : Nat) : Int) := by omega
    have hy1 := ha (a.length - 1 - k)
    simp (disch := omega) only [sS, ↓reduceIte, Nat.reduceEqDiff, Nat.reduceAdd, Nat.reduceMul, Nat.reduceSub, reduceCtorEq, e_none, e_some, e_bindS, h0, h1, h6, h7, h14, h15, k_len hk, k_idx hk, hidx]
    refine call_sc (div32_calls hc hy1 hy.2) rfl rfl (fun _ => rfl) ?_
    simp (disch := omega) only [sS, ↓reduceIte, Nat.reduceEqDiff, Nat.reduceAdd, Nat.reduceMul, Nat.reduceSub, reduceCtorEq, e_none, e_some, e_bindS, h0, h1, h6, h7, h14, h15, List.getElem?_cons_zero, List.getElem?_cons_succ]
    rw [x_store (r := 1) (off := a.length - 1 - k) (k := .u32) (b := ((dsS a y a.length k).2 * 4294967296 + a.getD (a.length - 1 - k) 0) / y) (l := (dsS a y a.length k).1) (by simp only [e_t, e_upd, Nat.reduceEqDiff, ↓reduceIte]) (by simp only [e_t, e_upd, Nat.reduceEqDiff, ↓reduceIte]) rfl (by omega)]
    simp (disch := omega) only [sS, ↓reduceIte, Nat.reduceEqDiff, Nat.reduceAdd, Nat.reduceMul, Nat.reduceSub, reduceCtorEq, e_none, e_some, e_bindS, h15]
    refine loop_keep (m := a.length - (k + 1)) (by omega) ⟨k + 1, by omega, rfl, ?_, ?_, ?_, ?_, ?_, ?_, rfl⟩
    · simp only [e_upd, Nat.reduceEqDiff, ↓reduceIte, h0]
    · simp only [e_upd, Nat.reduceEqDiff, ↓reduceIte, h1]
    · simp only [e_upd, Nat.reduceEqDiff, ↓reduceIte, h6]
    · simp only [e_upd, Nat.reduceEqDiff, ↓reduceIte]; rfl
    · simp only [e_upd, Nat.reduceEqDiff, ↓reduceIte, h14]
    · simp (disch := omega) only [e_upd, Nat.reduceEqDiff, ↓reduceIte, h15, w64, AV.int.injEq]; simp
  · obtain rfl : k = a.length := by omega
    simp (disch := omega) only [sS, ↓reduceIte, Nat.reduceEqDiff, Nat.reduceAdd, Nat.reduceMul, Nat.reduceSub, reduceCtorEq, e_none, e_some, e_bindS, h0, h1, h6, h7, h14, h15]
    have ht := xtrim_calls (.cap a.length) (dsS a y a.length a.length).1 (okS_cap (by omega)) (by omega)
    rw [hS] at ht
    refine call_rdS (r := 1) (row := ⟨true, false, ints .u32 (dsS a y a.length a.length).1⟩) ht rfl rfl take_all rfl ?_
    simp (disch := omega) only [sS, ↓reduceIte, Nat.reduceEqDiff, Nat.reduceAdd, Nat.reduceMul, Nat.reduceSub, reduceCtorEq, e_none, e_some, e_bindS, h7]
    refine ret_keep (by simp) ⟨?_, rfl⟩
    simp only [e_upd, Nat.reduceEqDiff, ↓reduceIte]
end Go.Proofs.Ythbhljolpnbdlaa.S1



/- Calls that answer a new number. -/
namespace Go.Proofs.Ythbhljolpnbdlaa.S1
open Go Go.Vh

/-- no row is handed over as the callee's own -/
def allRo (H0 : AHeap) : Bool := H0.all fun o => o.any fun r => !r.own
theorem allRo_some {H0 : AHeap} (h : allRo H0 = true) : H0.all Option.isSome = true := by
  simp only [allRo, List.all_eq_true] at h ⊢
  intro o ho
  have := h o ho
  cases o with
  | none => simp at this
  | some r => rfl
theorem allRo_own {H0 : AHeap} (h : allRo H0 = true) (i : Nat) : ownAt H0 i = false := by
  unfold ownAt
  cases hr : Vh.rowAt H0 i with
  | none => rfl
  | some row =>
    rw [Vh.rowAt_some] at hr
    simp only [allRo, List.all_eq_true] at h
    have := h _ (List.mem_of_getElem? hr)
    simpa using this
theorem allRo_once {H0 : AHeap} (h : allRo H0 = true) (σ : List (Nat × Nat)) : onceOK H0 σ = true := by
  simp only [onceOK, List.all_eq_true]
  intro i _
  simp [allRo_own h i]
theorem allRo_img {H0 : AHeap} (h : allRo H0 = true) (σ : List (Nat × Nat)) : ownImg H0 σ = [] := by
  simp only [ownImg]
  rw [List.filter_eq_nil_iff.2 (fun i _ => by simp [allRo_own h i])]
  rfl
theorem mergeGo_ro {σ' : Sig} {H0' : AHeap} : ∀ {os : AHeap} {ps : List (Nat × Nat)} {i : Nat} {H : AHeap}, allRo os = true → mergeGo σ' H0' os ps i H = H
  | [], _, _, _, _ => m_nil
  | _ :: _, [], _, _, _ => by simp [mergeGo]
  | o :: os, p :: ps, i, H, h => by
    simp only [allRo, List.all_cons, Bool.and_eq_true] at h
    cases o with
    | none => simp at h
    | some r =>
      have hr : r.own = false := by simpa using h.1
      simp only [mergeGo, hr, Bool.false_eq_true, if_false]
      exact mergeGo_ro h.2

/-- A new number: a slice over a new row, normal. -/
structure NewNum (x : Int) (κ : SK) (l : List Int) (row : ARow) : Prop where
  ok : okS κ l.length
  limbs : Limbs l
  norm : tz l l.length = l.length
  num : num l = x
  own : row.own = true
  cells : row.cells.take l.length = ints .u32 l
  flat : row.cells.all AV.flat = true

def Fresh (H0 : AHeap) (x : Int) (v : AV) (H : AHeap) : Prop := ∃ κ l row, v = mkS κ H0.length 0 l.length ∧ H = H0 ++ [some row] ∧ NewNum x κ l row

theorem NewNum.ren {x : Int} {κ : SK} {l : List Int} {row : ARow} (h : NewNum x κ l row) (σ : Sig) : (⟨true, row.slack, renL σ row.cells⟩ : ARow) = row := by
  rw [flatL_ren h.flat]
  have := h.own
  cases row
  simp only at this; subst this; rfl
theorem flat_cell {v : AV} (h : v.flat = true) : v.cell = true := by
  cases v <;> first | rfl | (simp [AV.flat] at h; done)
theorem NewNum.cell {x : Int} {κ : SK} {l : List Int} {row : ARow} (h : NewNum x κ l row) : row.cells.all AV.cell = true := by
  have := h.flat
  simp only [List.all_eq_true] at this ⊢
  exact fun v hv => flat_cell (this v hv)
theorem NewNum.len {x : Int} {κ : SK} {l : List Int} {row : ARow} (h : NewNum x κ l row) : l.length ≤ row.cells.length := by
  have := congrArg List.length h.cells
  simp only [List.length_take, ints_length] at this
  omega

section
variable {P : Program} {f : FuncId} {args0 : List AV} {H0 : AHeap} {W0 : List Nat} {x : Int} {K : St → AHeap → Prop} {d : Option Nat} {s : St} {H : AHeap} {args caps : List AV}
theorem fresh_merge {σ : List (Nat × Nat)} {κ : SK} {l : List Int} {row : ARow} (hro : allRo H0 = true) (hl : σ.length = H0.length) (hn : NewNum x κ l row) :
    (mkS κ H0.length 0 l.length).ren (sig σ H.length) = mkS κ H.length 0 l.length ∧ merge H σ H0 (H0 ++ [some row]) = H ++ [some row] := by
  have hs : sig σ H.length H0.length = some (H.length, 0) := by rw [sig_ge (by omega)]; simp [hl]
  refine ⟨n_mkS0 hs, ?_⟩
  rw [m_merge, mergeGo_ro hro]
  simp [renRow, hn.own, hn.ren]
theorem call_fresh (h : ACalls P f args0 H0 W0 (Fresh H0 x)) (σ : List (Nat × Nat)) (hro : allRo H0 = true) (hl : σ.length = H0.length) (hu : underL H0.length args0 = true) (hargs : args ++ caps = renL (sig σ H.length) args0)
    (hseen : seenAll H (sig σ H.length) H0.length H0 σ) (hK : ∀ κ l row, NewNum x κ l row → K (putI d s (mkS κ H.length 0 l.length)) (H ++ [some row])) : thenC P K d s H args (.func f caps) :=
  call_do h σ (allRo_some hro) hu (allRo_once hro σ) hargs hseen fun v0 H0' ⟨κ, l, row, e1, e2, hn⟩ => by
    subst e1; subst e2
    obtain ⟨k1, k2⟩ := fresh_merge (H := H) hro hl hn
    rw [k1, k2]
    exact hK _ _ _ hn
end

/-- A normal number's length. -/
theorem norm_len {l : List Int} (h : Limbs l) (hn : tz l l.length = l.length) {k : Nat} (hx : num l < BB ^ k) : l.length ≤ k := by
  rcases Nat.lt_or_ge k l.length with h1 | h1
  · have hl := tz_last l l.length (by omega)
    rw [hn] at hl
    have h2 := nv_ge h hl
    rw [show l.length - 1 + 1 = l.length by omega] at h2
    have h3 : BB ^ k ≤ BB ^ (l.length - 1) := BB_mono (by omega)
    have : num l = nv l l.length := rfl
    omega
  · exact h1
/-- What is cut off a row without its zeros is a new number. -/
theorem new_of_trim {S : List Int} {x : Int} {c : Nat} {row : ARow} (hS : Limbs S) (hx : num S = x) (hc : tz S S.length ≤ c) (ho : row.own = true) (hr : row.cells = ints .u32 S) : NewNum x (.cap c) (S.take (tz S S.length)) row := by
  have ht := tz_le S S.length
  have hl : (S.take (tz S S.length)).length = tz S S.length := by rw [List.length_take]; omega
  have hg : ∀ i, (S.take (tz S S.length)).getD i 0 = S.getD i 0 := fun i => getD_take S S.length _ i (tz_zero S S.length) (Nat.le_refl _)
  refine ⟨by rw [hl]; exact hc, fun i => by rw [hg]; exact hS i, ?_, by rw [num_take, hx], ho, by rw [hl, hr, ints_take], by rw [hr]; exact ints_flat⟩
  rw [hl, ← hl, hl]
  rw [tz_uniq (S.take (tz S S.length)) (tz S S.length) (tz S S.length) (Nat.le_refl _) (fun h => by rw [hg]; exact tz_last S S.length h) (fun i h1 h2 => by omega)]
end Go.Proofs.Ythbhljolpnbdlaa.S1



/- Contracts, as new numbers: mulSmall, add, mul, step. -/
namespace Go.Proofs.Ythbhljolpnbdlaa.S1
open Go Go.Vh

theorem mulSmall_fresh (κ : SK) (a : List Int) (hk : okS κ a.length) (hm : a.length ≤ 1000000) (ha : Limbs a) {f more : Int} (hf : 0 ≤ f ∧ f ≤ 4294967295) (hmo : 0 ≤ more ∧ more ≤ 4294967295) :
    ACalls Try.prog 156 [mkS κ 0 0 a.length, .int .u32 f, .int .u32 more] [ro (ints .u32 a)] [0] (Fresh [ro (ints .u32 a)] (num a * f + more)) :=
  (mulSmall_calls κ a hk hm ha hf hmo).mono fun v H ⟨h1, h2⟩ => by
    have hl := msL_length a f more
    have ht := tz_le (msL a f more) (a.length + 1)
    refine ⟨.cap (a.length + 1), (msL a f more).take (tz (msL a f more) (msL a f more).length), ⟨true, false, ints .u32 (msL a f more)⟩, ?_, h2, new_of_trim (msL_limbs ha hf hmo) (msL_num a f more) (by rw [hl]; exact ht) rfl rfl⟩
    rw [h1, List.length_take, hl, Nat.min_eq_left ht]; rfl
theorem xadd_fresh (κ κ' : SK) (a b : List Int) (hk : okS κ a.length) (hk' : okS κ' b.length) (hm : a.length ≤ 1000000) (hm' : b.length ≤ 1000000) (ha : Limbs a) (hb : Limbs b) :
    ACalls Try.prog 139 [mkS κ 0 0 a.length, mkS κ' 1 0 b.length] [ro (ints .u32 a), ro (ints .u32 b)] [0, 1] (Fresh [ro (ints .u32 a), ro (ints .u32 b)] (num a + num b)) := by
  obtain ⟨n, hn⟩ : ∃ n, n = if b.length > a.length then b.length else a.length := ⟨_, rfl⟩
  have h1 : a.length ≤ n := by subst hn; split <;> omega
  have h2 : b.length ≤ n := by subst hn; split <;> omega
  refine (xadd_calls κ κ' a b hk hk' hm hm' ha hb n hn).mono fun v H ⟨e1, e2⟩ => ?_
  have hl := addS_length a b (n + 1) n
  have ht := tz_le (addS a b (n + 1) n) (n + 1)
  refine ⟨.cap (n + 1), (addS a b (n + 1) n).take (tz (addS a b (n + 1) n) (addS a b (n + 1) n).length), ⟨true, false, ints .u32 (addS a b (n + 1) n)⟩, ?_, e2, new_of_trim (addS_limbs ha hb _ _) (addS_num h1 h2) (by rw [hl]; exact ht) rfl rfl⟩
  rw [e1, List.length_take, hl, Nat.min_eq_left ht]; rfl
theorem xmul_fresh (κ κ' : SK) (a b : List Int) (hk : okS κ a.length) (hk' : okS κ' b.length) (hm : a.length ≤ 1000000) (hm' : b.length ≤ 1000000) (ha : Limbs a) (hb : Limbs b) :
    ACalls Try.prog 112 [mkS κ 0 0 a.length, mkS κ' 1 0 b.length] [ro (ints .u32 a), ro (ints .u32 b)] [0, 1] (Fresh [ro (ints .u32 a), ro (ints .u32 b)] (num a * num b)) := by
  refine (xmul_calls κ κ' a b hk hk' hm hm' ha hb).mono fun v H ⟨e1, e2⟩ => ?_
  have hl := mulI_length a b a.length
  have ht := tz_le (mulI a b a.length) (a.length + b.length)
  refine ⟨.cap (a.length + b.length), (mulI a b a.length).take (tz (mulI a b a.length) (mulI a b a.length).length), ⟨true, false, ints .u32 (mulI a b a.length)⟩, ?_, e2, new_of_trim (mulI_limbs ha hb _) (mul_num a b) (by rw [hl]; exact ht) rfl rfl⟩
  rw [e1, List.length_take, hl, Nat.min_eq_left ht]; rfl

theorem step_fresh (κ : SK) (a : List Int) (hk : okS κ a.length) (hm : a.length ≤ 100000) (ha : Limbs a) {up down : Int} (hu : 0 ≤ up ∧ up ≤ 4294967295) (hd : 0 < down ∧ down ≤ 4294967295) :
    ACalls Try.prog 138 [mkS κ 0 0 a.length, .int .i64 up, .int .i64 down] [ro (ints .u32 a)] [0] (Fresh [ro (ints .u32 a)] (num a * up / down)) := by
  refine ACalls.body Try.func138 ent_step ir_step_ok rs_step_ok Try.ntmps138 (by simp) rfl ?_
  unfold ir_step
  have e0 : s0 [mkS κ 0 0 a.length, .int .i64 up, .int .i64 down] 0 = mkS κ 0 0 a.length := rfl
  have e1 : s0 [mkS κ 0 0 a.length, .int .i64 up, .int .i64 down] 1 = .int .i64 up := rfl
  have e2 : s0 [mkS κ 0 0 a.length, .int .i64 up, .int .i64 down] 2 = .int .i64 down := rfl
  simp (disch := omega) only [sS, ↓reduceIte, Nat.reduceEqDiff, Nat.reduceAdd, Nat.reduceMul, Nat.reduceSub, reduceCtorEq, e_none, e_some, e_bindS, e0, e1, e2]
  refine call_fresh (mulSmall_fresh κ a hk (by omega) ha hu (more := 0) (by omega)) [(0, 0)] rfl rfl ?_ ?_ ⟨seen_ro_whole (row := ⟨false, false, ints .u32 a⟩) rfl (by rw [ints_ren]) (flatL_under ints_flat), trivial⟩ ?_
  · simp [underL, mkS_under, AV.under]
  · rw [n_lcons, n_mkS0 (r' := 0) rfl]; rfl
  intro κ1 l1 row1 h1
  have hl1 : l1.length ≤ a.length + 1 := norm_len h1.limbs h1.norm (by
    rw [h1.num, Int.pow_succ, Int.add_zero]
    have h2 := (nv_bound ha a.length).2
    have h3 : num a * up ≤ num a * 4294967295 := Int.mul_le_mul_of_nonneg_left hu.2 (num_nonneg ha)
    have h4 : num a = nv a a.length := rfl
    have hb : BB = 4294967296 := rfl
    generalize BB ^ a.length = p at *
    have h5 : p * BB = p * 4294967296 := by rw [hb]
    have h6 := num_nonneg ha
    omega)
  simp (disch := omega) only [sS, ↓reduceIte, Nat.reduceEqDiff, Nat.reduceAdd, Nat.reduceMul, Nat.reduceSub, reduceCtorEq, e_none, e_some, e_bindS, e0, e1, e2]
  refine call_ints (r := 1) (row := row1) (divideSmall_calls κ1 l1 h1.ok (by omega) h1.limbs hd) rfl rfl h1.cells rfl ?_
  rintro v0 H0' ⟨rfl, rfl⟩
  have hdl := dsS_length l1 down l1.length l1.length
  obtain ⟨hL, _⟩ := dsS_range h1.limbs hd l1.length l1.length
  obtain ⟨hq, _⟩ := dsS_num h1.limbs hd
  have ht := tz_le (dsS l1 down l1.length l1.length).1 l1.length
  rw [n_tuple, n_lcons, n_lcons, n_lnil, n_int, n_mkS0 (r' := 2) rfl]
  simp (disch := omega) only [sS, ↓reduceIte, Nat.reduceEqDiff, Nat.reduceAdd, Nat.reduceMul, Nat.reduceSub, reduceCtorEq, e_none, e_some, e_bindS, List.getElem?_cons_zero, List.getElem?_cons_succ]
  refine ret_gc [0, 2] rfl ?_ (by simp) ?_
  · simp [gcH, Vh.rowAt, ro, rw_, renRow, ints_ren, ints_cell]
  show Fresh _ _ _ _
  refine ⟨.cap l1.length, (dsS l1 down l1.length l1.length).1.take (tz (dsS l1 down l1.length l1.length).1 (dsS l1 down l1.length l1.length).1.length), ⟨true, false, ints .u32 (dsS l1 down l1.length l1.length).1⟩, ?_, ?_, new_of_trim hL ?_ (by rw [hdl]; exact ht) rfl rfl⟩
  · simp only [gcS, e_upd, Nat.reduceEqDiff, ↓reduceIte]
    rw [n_mkS0 (r' := 1) rfl, List.length_take, hdl, Nat.min_eq_left ht]
    rfl
  · simp [gcH, Vh.rowAt, ro, rw_, renRow, ints_ren]
  · rw [hq, h1.num, Int.add_zero]
end Go.Proofs.Ythbhljolpnbdlaa.S1



/- Texts of code of this program, checked against its dump. -/
namespace Go.Proofs.Ythbhljolpnbdlaa.S1
open Go Go.Vh
def ir_within : IR := (.seq (.ops [⟨(some 4), none, (.pure (.move (.c (.bool false))))⟩]) (.seq (.ops [⟨(some 5), none, (.pure (.move (.t 0)))⟩, ⟨(some 6), none, (.pure (.bin .geq (.t 5) (.c (.int .i64 0))))⟩, ⟨(some 7), none, (.pure (.move (.t 6)))⟩, ⟨(some 8), (some (7, true)), (.pure (.move (.t 0)))⟩, ⟨(some 9), (some (7, true)), (.pure (.move (.t 1)))⟩, ⟨(some 10), (some (7, true)), (.pure (.bin .leq (.t 8) (.t 9)))⟩, ⟨(some 11), none, (.pure (.pick (.t 7) (.t 10) (.c (.bool false))))⟩, ⟨(some 4), none, (.pure (.move (.t 11)))⟩]) .ret))
def rs_within : List IRes := [(.tmp 4)]
theorem ir_within_ok : (Func.body Try.f110).bind (irOf Try.prog Try.f110.ntmps) = some ir_within := by kernel_rfl
theorem rs_within_ok : Try.f110.results.toList.mapM (resOf Try.prog) = some rs_within := by kernel_rfl
theorem ent_within : enters Try.prog 110 = true := by kernel_rfl

def ir_choose : IR := (.seq (.ops [⟨(some 4), none, (.pure (.move (.c .nilslice)))⟩]) (.seq (.seq (.ops [⟨(some 7), none, (.pure (.move (.t 1)))⟩, ⟨(some 8), none, (.pure (.move (.t 0)))⟩, ⟨(some 9), none, (.call (.c (.func 110 [])) [(.t 7), (.t 8)])⟩, ⟨(some 10), none, (.pure (.not (.t 9)))⟩]) (.cond (.t 10) (.seq (.ops [⟨(some 4), none, (.pure (.move (.c .nilslice)))⟩]) .ret) .skip)) (.seq (.ops [⟨(some 11), none, (.call (.c (.func 122 [])) [(.c (.int .u64 1))])⟩, ⟨(some 5), none, (.pure (.move (.t 11)))⟩]) (.seq (.seq (.ops [⟨(some 12), none, (.pure (.move (.t 1)))⟩, ⟨(some 13), none, (.pure (.move (.t 0)))⟩, ⟨(some 14), none, (.pure (.move (.t 1)))⟩, ⟨(some 15), none, (.pure (.bin .sub (.t 13) (.t 14)))⟩, ⟨(some 16), none, (.pure (.minmax false (.t 12) (.t 15)))⟩, ⟨(some 17), none, (.pure (.move (.c (.int .i64 0))))⟩]) (.block 0 (.loop (.seq (.ops [⟨(some 18), none, (.pure (.bin .lss (.t 17) (.t 16)))⟩]) (.seq (.cond (.t 18) .skip (.exit 0)) (.seq (.block 1 (.seq (.ops [⟨(some 19), none, (.pure (.move (.t 17)))⟩, ⟨(some 6), none, (.pure (.move (.t 19)))⟩]) (.ops [⟨(some 20), none, (.pure (.move (.t 5)))⟩, ⟨(some 21), none, (.pure (.move (.t 0)))⟩, ⟨(some 22), none, (.pure (.move (.t 6)))⟩, ⟨(some 23), none, (.pure (.bin .sub (.t 21) (.t 22)))⟩, ⟨(some 24), none, (.pure (.move (.t 6)))⟩, ⟨(some 25), none, (.pure (.bin .add (.t 24) (.c (.int .i64 1))))⟩, ⟨(some 26), none, (.call (.c (.func 138 [])) [(.t 20), (.t 23), (.t 25)])⟩, ⟨(some 5), none, (.pure (.move (.t 26)))⟩]))) (.ops [⟨(some 27), none, (.pure (.bin .add (.t 17) (.c (.int .i64 1))))⟩, ⟨(some 17), none, (.pure (.move (.t 27)))⟩]))))))) (.seq (.ops [⟨(some 28), none, (.pure (.move (.t 5)))⟩, ⟨(some 4), none, (.pure (.move (.t 28)))⟩]) .ret)))))
def rs_choose : List IRes := [(.tmp 4)]
theorem ir_choose_ok : (Func.body Try.f113).bind (irOf Try.prog Try.f113.ntmps) = some ir_choose := by kernel_rfl
theorem rs_choose_ok : Try.f113.results.toList.mapM (resOf Try.prog) = some rs_choose := by kernel_rfl
theorem ent_choose : enters Try.prog 113 = true := by kernel_rfl

end Go.Proofs.Ythbhljolpnbdlaa.S1


