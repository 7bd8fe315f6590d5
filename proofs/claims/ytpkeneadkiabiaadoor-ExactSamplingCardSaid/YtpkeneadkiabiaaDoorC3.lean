/- Contracts: Small. -/
import Derived.Test.YtpkeneadkiabiaaDoorV7
import Derived.Test.YtpkeneadkiabiaaDoorC2
set_option linter.unusedSimpArgs false
set_option linter.unusedVariables false
namespace Go.Proofs.YtpkeneadkiabiaaDoor
open Go Go.Vh

section
variable {K : St → AHeap → Prop} {d : Option Nat} {s : St} {H : AHeap}
/-- A call of tooLong with one number. -/
theorem call_tooLong1 {a b n : Nat} {κ : SK} {row rowb : ARow} (hk : okS κ n) (hn : n < 9223372036854775807) (ha : Vh.rowAt H a = some row) (hc : row.cells = [mkS κ b 0 n]) (hb : Vh.rowAt H b = some rowb)
    (hK : K (putI d s (.int .i64 (if n ≤ 64 then 0 else 4))) H) : thenC Tryd.prog K d s H [.slice a 0 1 1] (.func 60 []) := by
  have hl : alen (mkS κ 1 0 n) = some n := k_len hk (Nat.le_refl _)
  have hl' : lenOf (mkS κ 1 0 n) = n := by simp [lenOf, hl]
  have s0' : sig [(a, 0), (b, 0)] H.length 0 = some (a, 0) := rfl
  have s1' : sig [(a, 0), (b, 0)] H.length 1 = some (b, 0) := rfl
  refine call_do (tooLong_calls [mkS κ 1 0 n] [ro []] (fun c hc => ?_) (by simp)) [(a, 0), (b, 0)] rfl rfl ?_ ?_ ⟨seen_ro_whole ha ?_ ?_, seen_ro hb ?_ rfl rfl, trivial⟩ ?_
  · simp only [List.mem_singleton] at hc; subst hc
    exact ⟨by rw [hl]; rfl, by rw [hl']; exact hn⟩
  · simp [onceOK, ownAt, Vh.rowAt, ro, List.range, List.range.loop]
  · simp only [List.length_cons, List.length_nil]; rw [n_lcons, n_lnil, n_slice s0']; rfl
  · rw [n_lcons, n_lnil, n_mkS s1', hc]
  · simp [underL, mkS_under]
  · simp
  · rintro v0 H0' ⟨rfl, rfl⟩
    rw [n_int, m_merge, m_ro, m_ro, m_nil]
    simp only [List.length_cons, List.length_nil, Nat.reduceAdd, List.drop_succ_cons, List.drop_zero, List.map_nil, List.append_nil, List.all_cons, List.all_nil, Bool.and_true, decide_eq_true_eq, hl']
    exact hK
end

theorem b_or {a b : Int} (h0 : 0 ≤ a) (h1 : a ≤ 4294967295) (h2 : 0 ≤ b) (h3 : b ≤ 4294967295) : abin .or (.int .u64 (a * 4294967296)) (.int .u64 b) = some (.int .u64 (a * 4294967296 + b)) := by
  obtain ⟨m, rfl⟩ : ∃ m : Nat, a = m := ⟨a.toNat, by omega⟩
  obtain ⟨k, rfl⟩ : ∃ k : Nat, b = k := ⟨b.toNat, by omega⟩
  have e1 : ((m : Int) * 4294967296) = ((m * 4294967296 : Nat) : Int) := by omega
  have e2 : (BitVec.ofInt 64 ((m * 4294967296 : Nat) : Int) ||| BitVec.ofInt 64 (k : Int)).toNat = m * 4294967296 + k := by
    rw [BitVec.ofInt_natCast, BitVec.ofInt_natCast, BitVec.toNat_or, BitVec.toNat_ofNat, BitVec.toNat_ofNat, Nat.mod_eq_of_lt (by omega), Nat.mod_eq_of_lt (by omega)]
    have := Nat.shiftLeft_add_eq_or_of_lt (b := k) (i := 32) (by omega) m
    rw [Nat.shiftLeft_eq] at this
    exact this.symm
  simp only [abin, aint, abits, if_true, e1]
  congr 2
  have : (IntKind.u64).bits = 64 := rfl
  rw [show (BitVec.ofInt IntKind.u64.bits ((m * 4294967296 : Nat) : Int) ||| BitVec.ofInt IntKind.u64.bits (k : Int)).toNat = m * 4294967296 + k from e2]
  rw [wu64 (by omega) (by omega)]
  omega

/-- the number of the first two limbs -/
def val2 (l : List Int) : Int := l.getD 1 0 * 4294967296 + l.getD 0 0

theorem xsmall_calls (κ : SK) (l : List Int) (hk : okS κ l.length) (hm : l.length ≤ 64) (hr : ∀ i, 0 ≤ l.getD i 0 ∧ l.getD i 0 ≤ 4294967295) : ACalls Tryd.prog 15 [mkS κ 0 0 l.length] [ro (ints .u32 l)] [0] fun v H =>
    v = .tuple (if tz l l.length ≤ 2 then [.int .u64 (val2 l), .int .i64 0] else [.int .u64 0, .int .i64 8]) ∧ H = [ro (ints .u32 l)] := by
  refine ACalls.body Tryd.func15 ent_xsmall ir_xsmall_ok rs_xsmall_ok Tryd.ntmps15 (by simp) rfl ?_
  unfold ir_xsmall
  have e0 : s0 [mkS κ 0 0 l.length] 0 = mkS κ 0 0 l.length := rfl
  simp (disch := omega) only [sS, ↓reduceIte, Nat.reduceEqDiff, Nat.reduceAdd, Nat.reduceMul, Nat.reduceSub, reduceCtorEq, e_none, e_some, e_bindS, e0]
  rw [x_bs1 (v := mkS κ 0 0 l.length) (by simp only [e_t, e_upd, Nat.reduceEqDiff, ↓reduceIte]) c_mkS]
  simp (disch := omega) only [sS, ↓reduceIte, Nat.reduceEqDiff, Nat.reduceAdd, Nat.reduceMul, Nat.reduceSub, reduceCtorEq, e_none, e_some, e_bindS]
  refine call_tooLong1 (a := 1) (b := 0) hk (by omega) rfl rfl rfl ?_
  simp (disch := omega) only [sS, ↓reduceIte, Nat.reduceEqDiff, Nat.reduceAdd, Nat.reduceMul, Nat.reduceSub, reduceCtorEq, e_none, e_some, e_bindS, if_pos hm, e0]
  refine call_ints (r := 0) (row := ⟨false, false, ints .u32 l⟩) (xtrim_calls κ l hk (by omega)) rfl rfl (by rw [← ints_length (k := .u32) (l := l), List.take_length]) rfl ?_
  rintro v0 H0' ⟨rfl, rfl⟩
  rw [n_mkS (r' := 0) (d := 0) rfl]
  have htz := tz_le l l.length
  simp (disch := omega) only [sS, ↓reduceIte, Nat.reduceEqDiff, Nat.reduceAdd, Nat.reduceMul, Nat.reduceSub, reduceCtorEq, e_none, e_some, e_bindS, k_len hk]
  by_cases h2 : tz l l.length ≤ 2
  · simp (disch := omega) only [sS, ↓reduceIte, Nat.reduceEqDiff, Nat.reduceAdd, Nat.reduceMul, Nat.reduceSub, reduceCtorEq, e_none, e_some, e_bindS]
    refine call_ints (r := 0) (row := ⟨false, false, ints .u32 l⟩) (limb_calls κ l hk (by omega) 1 (by omega)) rfl rfl (by rw [← ints_length (k := .u32) (l := l), List.take_length]) (by rfl) ?_
    rintro v0 H0' ⟨rfl, rfl⟩
    rw [n_int]
    have h1 := hr 1
    have h0 := hr 0
    have hs : abin .shl (.int .u64 (l.getD 1 0)) (.int .u64 32) = some (.int .u64 (l.getD 1 0 * 4294967296)) := by
      rw [show ((32 : Int)) = ((32 : Nat) : Int) from rfl, b_shl (n := 32) (by decide), wu64 (by omega) (by omega)]; rfl
    simp (disch := omega) only [sS, ↓reduceIte, Nat.reduceEqDiff, Nat.reduceAdd, Nat.reduceMul, Nat.reduceSub, reduceCtorEq, e_none, e_some, e_bindS, hs, e0]
    refine call_ints (r := 0) (row := ⟨false, false, ints .u32 l⟩) (limb_calls κ l hk (by omega) 0 (by omega)) rfl rfl (by rw [← ints_length (k := .u32) (l := l), List.take_length]) (by rfl) ?_
    rintro v0 H0' ⟨rfl, rfl⟩
    rw [n_int]
    simp (disch := omega) only [sS, ↓reduceIte, Nat.reduceEqDiff, Nat.reduceAdd, Nat.reduceMul, Nat.reduceSub, reduceCtorEq, e_none, e_some, e_bindS, b_or]
    refine ret_gc [0] rfl (by simp [gcH, Vh.rowAt, ro, ints_ren, ints_cell]) (by simp) ?_
    show _ ∧ _
    refine ⟨?_, ?_⟩
    · simp only [gcS, e_upd, Nat.reduceEqDiff, ↓reduceIte, if_pos h2, n_int]
      rfl
    · simp [gcH, Vh.rowAt, ro, ints_ren]
  · simp (disch := omega) only [sS, ↓reduceIte, Nat.reduceEqDiff, Nat.reduceAdd, Nat.reduceMul, Nat.reduceSub, reduceCtorEq, e_none, e_some, e_bindS]
    refine ret_gc [0] rfl (by simp [gcH, Vh.rowAt, ro, ints_ren, ints_cell]) (by simp) ?_
    show _ ∧ _
    refine ⟨?_, ?_⟩
    · simp only [gcS, e_upd, Nat.reduceEqDiff, ↓reduceIte, if_neg h2, n_int]
    · simp [gcH, Vh.rowAt, ro, ints_ren]
end Go.Proofs.YtpkeneadkiabiaaDoor
