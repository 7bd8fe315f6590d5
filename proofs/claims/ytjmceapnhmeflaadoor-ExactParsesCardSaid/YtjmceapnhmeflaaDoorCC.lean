/- Contracts: Div32, divideSmall, step. -/
import Derived.Test.YtjmceapnhmeflaaDoorV7
import Derived.Test.YtjmceapnhmeflaaDoorCB
import Derived.Test.YtjmceapnhmeflaaDoorIrA
import Derived.Test.YtjmceapnhmeflaaDoorChecked
set_option linter.unusedSimpArgs false
set_option linter.unusedVariables false
namespace Go.Proofs.YtjmceapnhmeflaaDoor
open Go Go.Vh

theorem div32_calls {hi lo y : Int} (hh : 0 ≤ hi ∧ hi < y) (hl : 0 ≤ lo ∧ lo ≤ 4294967295) (hy : y ≤ 4294967295) : ACalls Tryd.prog 133 [.int .u32 hi, .int .u32 lo, .int .u32 y] [] [] fun v H =>
    v = .tuple [.int .u32 ((hi * 4294967296 + lo) / y), .int .u32 ((hi * 4294967296 + lo) % y)] ∧ H = [] := by
  refine ACalls.body Tryd.func133 ent_div32 ir_div32_ok rs_div32_ok Tryd.ntmps133 (by simp) rfl ?_
  unfold ir_div32
  have e0 : s0 [.int .u32 hi, .int .u32 lo, .int .u32 y] 0 = .int .u32 hi := rfl
  have e1 : s0 [.int .u32 hi, .int .u32 lo, .int .u32 y] 1 = .int .u32 lo := rfl
  have e2 : s0 [.int .u32 hi, .int .u32 lo, .int .u32 y] 2 = .int .u32 y := rfl
  have hs : abin .shl (.int .u64 hi) (.int .u64 32) = some (.int .u64 (hi * 4294967296)) := by
    rw [show ((32 : Int)) = ((32 : Nat) : Int) from rfl, b_shl (n := 32) (by decide), wu64 (by omega) (by omega)]; rfl
  have ho := b_or hh.1 (show hi ≤ 4294967295 by omega) hl.1 hl.2
  have hq : 0 ≤ (hi * 4294967296 + lo) / y ∧ (hi * 4294967296 + lo) / y ≤ 4294967295 := by
    refine ⟨Int.ediv_nonneg (by omega) (by omega), ?_⟩
    have : (hi * 4294967296 + lo) / y < 4294967296 := Int.ediv_lt_of_lt_mul (by omega) (by omega)
    omega
  have hr : 0 ≤ (hi * 4294967296 + lo) % y ∧ (hi * 4294967296 + lo) % y ≤ 4294967295 := by
    have h1 := Int.emod_nonneg (hi * 4294967296 + lo) (show y ≠ 0 by omega)
    have h2 := Int.emod_lt_of_pos (hi * 4294967296 + lo) (show 0 < y by omega)
    omega
  generalize hz : hi * 4294967296 + lo = z at *
  have hz2 : 0 ≤ z := by omega
  simp (disch := omega) only [sS, ↓reduceIte, Nat.reduceEqDiff, Nat.reduceAdd, Nat.reduceMul, Nat.reduceSub, reduceCtorEq, e_none, e_some, e_bindS, e0, e1, e2, hs, ho, hz, b_quo, b_rem]
  refine ret_keep (by simp) ⟨?_, rfl⟩
  simp only [e_upd, Nat.reduceEqDiff, ↓reduceIte]

def dsS (a : List Int) (y : Int) (n : Nat) : Nat → List Int × Int
  | 0 => (List.replicate n 0, 0)
  | k + 1 => ((dsS a y n k).1.set (n - 1 - k) (((dsS a y n k).2 * 4294967296 + a.getD (n - 1 - k) 0) / y), ((dsS a y n k).2 * 4294967296 + a.getD (n - 1 - k) 0) % y)
theorem dsS_length (a : List Int) (y : Int) (n : Nat) : ∀ k, (dsS a y n k).1.length = n
  | 0 => by simp [dsS]
  | k + 1 => by simp [dsS, dsS_length a y n k]
theorem dsS_range {a : List Int} {y : Int} (ha : Limbs a) (hy : 0 < y ∧ y ≤ 4294967295) (n : Nat) : ∀ k, Limbs (dsS a y n k).1 ∧ 0 ≤ (dsS a y n k).2 ∧ (dsS a y n k).2 < y
  | 0 => ⟨fun j => by
      have : (dsS a y n 0).1.getD j 0 = 0 := by simp only [dsS, List.getD_eq_getElem?_getD, List.getElem?_replicate]; split <;> rfl
      rw [this]; omega, by simp [dsS], by simp [dsS]; omega⟩
  | k + 1 => by
    obtain ⟨h1, h2, h3⟩ := dsS_range ha hy n k
    have h4 := ha (n - 1 - k)
    simp only [dsS]
    refine ⟨set_limbs h1 _ ⟨Int.ediv_nonneg (by omega) (by omega), ?_⟩, Int.emod_nonneg _ (by omega), Int.emod_lt_of_pos _ hy.1⟩
    have : ((dsS a y n k).2 * 4294967296 + a.getD (n - 1 - k) 0) / y < 4294967296 := Int.ediv_lt_of_lt_mul (by omega) (by omega)
    omega
theorem dsS_zero (a : List Int) (y : Int) (n : Nat) : ∀ k j, j + k < n → (dsS a y n k).1.getD j 0 = 0
  | 0, j, _ => by simp only [dsS, List.getD_eq_getElem?_getD, List.getElem?_replicate]; split <;> rfl
  | k + 1, j, h => by
    simp only [dsS, getD_set]
    rw [if_neg (by omega)]
    exact dsS_zero a y n k j (by omega)
theorem dsS_sum (a : List Int) (y : Int) {n : Nat} : ∀ k, k ≤ n → nv a n - nv a (n - k) = y * nv (dsS a y n k).1 n + (dsS a y n k).2 * BB ^ (n - k)
  | 0, _ => by
    have : ∀ m, nv (List.replicate n (0 : Int)) m = 0 := by
      intro m
      induction m with
      | zero => rfl
      | succ m ih =>
        have : (List.replicate n (0 : Int)).getD m 0 = 0 := by simp only [List.getD_eq_getElem?_getD, List.getElem?_replicate]; split <;> rfl
        simp only [nv, ih, this]; omega
    simp [dsS, this]
  | k + 1, h => by
    have ih := dsS_sum a y (n := n) k (by omega)
    have hl := dsS_length a y n k
    have hz := dsS_zero a y n k (n - 1 - k) (by omega)
    obtain ⟨i, hi⟩ : ∃ i, i = n - 1 - k := ⟨_, rfl⟩
    have e1 : n - k = i + 1 := by omega
    have e2 : n - (k + 1) = i := by omega
    simp only [dsS]
    rw [← hi] at hz ⊢
    rw [nv_set _ _ _ (by omega), if_pos (by omega), hz, Int.sub_zero, e2]
    rw [e1] at ih
    simp only [nv] at ih
    rw [Int.pow_succ] at ih
    generalize (dsS a y n k).2 = r at *
    have key := Int.mul_ediv_add_emod (r * 4294967296 + a.getD i 0) y
    generalize (r * 4294967296 + a.getD i 0) / y = q at *
    generalize (r * 4294967296 + a.getD i 0) % y = t at *
    have hb : BB = 4294967296 := rfl
    have e3 : y * (q * BB ^ i) + t * BB ^ i = r * (BB ^ i * BB) + a.getD i 0 * BB ^ i := by
      rw [← Int.mul_assoc, ← Int.add_mul, key, Int.add_mul, hb, Int.mul_comm ((4294967296 : Int) ^ i) 4294967296, Int.mul_assoc]
    rw [Int.mul_add]
    omega
theorem dsS_num {a : List Int} {y : Int} (ha : Limbs a) (hy : 0 < y ∧ y ≤ 4294967295) : num (dsS a y a.length a.length).1 = num a / y ∧ (dsS a y a.length a.length).2 = num a % y := by
  have hs := dsS_sum a y (n := a.length) a.length (Nat.le_refl _)
  obtain ⟨_, h2, h3⟩ := dsS_range ha hy a.length a.length
  have hl := dsS_length a y a.length a.length
  rw [Nat.sub_self] at hs
  simp only [nv, Int.sub_zero, Int.pow_zero, Int.mul_one] at hs
  simp only [num, hl]
  exact (Int.ediv_emod_unique hy.1).2 ⟨by omega, h2, h3⟩ |>.imp Eq.symm Eq.symm

theorem divideSmall_calls (κ : SK) (a : List Int) (hk : okS κ a.length) (hm : a.length ≤ 1000000) (ha : Limbs a) {y : Int} (hy : 0 < y ∧ y ≤ 4294967295) :
    ACalls Tryd.prog 112 [mkS κ 0 0 a.length, .int .u32 y] [ro (ints .u32 a)] [0] fun v H =>
      v = .tuple [mkS (.cap a.length) 1 0 (tz (dsS a y a.length a.length).1 a.length), .int .u32 (dsS a y a.length a.length).2] ∧ H = [ro (ints .u32 a), rw_ (ints .u32 (dsS a y a.length a.length).1)] := by
  refine ACalls.body Tryd.func112 ent_divideSmall ir_divideSmall_ok rs_divideSmall_ok Tryd.ntmps112 (by simp) rfl ?_
  unfold ir_divideSmall
  have e0 : s0 [mkS κ 0 0 a.length, .int .u32 y] 0 = mkS κ 0 0 a.length := rfl
  have e1 : s0 [mkS κ 0 0 a.length, .int .u32 y] 1 = .int .u32 y := rfl
  simp (disch := omega) only [sS, ↓reduceIte, Nat.reduceEqDiff, Nat.reduceAdd, Nat.reduceMul, Nat.reduceSub, reduceCtorEq, e_none, e_some, e_bindS, e0, e1, k_len hk]
  rw [x_make (n := (a.length : Int)) (by simp only [e_t, e_upd, Nat.reduceEqDiff, ↓reduceIte]) (by omega) (by omega) (by omega)]
  simp (disch := omega) only [sS, ↓reduceIte, Nat.reduceEqDiff, Nat.reduceAdd, Nat.reduceMul, Nat.reduceSub, reduceCtorEq, e_none, e_some, e_bindS, e0, e1, k_len hk]
  refine ⟨fun m s H => ∃ k : Nat, k ≤ a.length ∧ m = a.length - k ∧ s 0 = mkS κ 0 0 a.length ∧ s 1 = .int .u32 y ∧ s 6 = .slice 1 0 a.length a.length ∧ s 7 = .int .u32 (dsS a y a.length k).2 ∧ s 14 = .int .i64 a.length ∧ s 15 = .int .i64 k ∧ H = [ro (ints .u32 a), rw_ (ints .u32 (dsS a y a.length k).1)], a.length, ⟨0, by omega, rfl, ?_, ?_, ?_, ?_, ?_, ?_, rfl⟩, ?_⟩
  · simp only [e_upd, Nat.reduceEqDiff, ↓reduceIte, e0]
  · simp only [e_upd, Nat.reduceEqDiff, ↓reduceIte, e1]
  · simp only [e_upd, Nat.reduceEqDiff, ↓reduceIte]; rfl
  · simp only [e_upd, Nat.reduceEqDiff, ↓reduceIte]; rfl
  · simp only [e_upd, Nat.reduceEqDiff, ↓reduceIte]
  · simp only [e_upd, Nat.reduceEqDiff, ↓reduceIte]; rfl
  rintro m s H ⟨k, hk1, rfl, h0, h1, h6, h7, h14, h15, rfl⟩
  have hS := dsS_length a y a.length k
  obtain ⟨hL, hc⟩ := dsS_range ha hy a.length k
  by_cases hil : k < a.length
  · have hidx : (a.length : Int) - 1 - (k : Int) = ((a.length - 1 - k : Nat) : Int) := by omega
    have hy1 := ha (a.length - 1 - k)
    simp (disch := omega) only [sS, ↓reduceIte, Nat.reduceEqDiff, Nat.reduceAdd, Nat.reduceMul, Nat.reduceSub, reduceCtorEq, e_none, e_some, e_bindS, h0, h1, h6, h7, h14, h15, k_len hk, k_idx hk, hidx]
    refine call_sc (div32_calls hc hy1 hy.2) rfl rfl (fun _ => rfl) ?_
    simp (disch := omega) only [sS, ↓reduceIte, Nat.reduceEqDiff, Nat.reduceAdd, Nat.reduceMul, Nat.reduceSub, reduceCtorEq, e_none, e_some, e_bindS, h0, h1, h6, h7, h14, h15, List.getElem?_cons_zero, List.getElem?_cons_succ]
    rw [x_store (r := 1) (off := a.length - 1 - k) (k := .u32) (b := ((dsS a y a.length k).2 * 4294967296 + a.getD (a.length - 1 - k) 0) / y) (l := (dsS a y a.length k).1) (by simp only [e_t, e_upd, Nat.reduceEqDiff, ↓reduceIte]) (by simp only [e_t, e_upd, Nat.reduceEqDiff, ↓reduceIte]) rfl (by omega)]
    simp (disch := omega) only [sS, ↓reduceIte, Nat.reduceEqDiff, Nat.reduceAdd, Nat.reduceMul, Nat.reduceSub, reduceCtorEq, e_none, e_some, e_bindS, h15]
    refine loop_keep (m := a.length - (k + 1)) (by omega) ⟨k + 1, by omega, rfl, ?_, ?_, ?_, ?_, ?_, ?_, rfl⟩
    · simp only [e_upd, Nat.reduceEqDiff, ↓reduceIte, h0]
    · simp only [e_upd, Nat.reduceEqDiff, ↓reduceIte, h1]
    · simp only [e_upd, Nat.reduceEqDiff, ↓reduceIte, h6]
    · simp only [e_upd, Nat.reduceEqDiff, ↓reduceIte]; rfl
    · simp only [e_upd, Nat.reduceEqDiff, ↓reduceIte, h14]
    · simp (disch := omega) only [e_upd, Nat.reduceEqDiff, ↓reduceIte, h15, w64, AV.int.injEq]; simp
  · obtain rfl : k = a.length := by omega
    simp (disch := omega) only [sS, ↓reduceIte, Nat.reduceEqDiff, Nat.reduceAdd, Nat.reduceMul, Nat.reduceSub, reduceCtorEq, e_none, e_some, e_bindS, h0, h1, h6, h7, h14, h15]
    have ht := xtrim_calls (.cap a.length) (dsS a y a.length a.length).1 (okS_cap (by omega)) (by omega)
    rw [hS] at ht
    refine call_rdS (r := 1) (row := ⟨true, false, ints .u32 (dsS a y a.length a.length).1⟩) ht rfl rfl take_all rfl ?_
    simp (disch := omega) only [sS, ↓reduceIte, Nat.reduceEqDiff, Nat.reduceAdd, Nat.reduceMul, Nat.reduceSub, reduceCtorEq, e_none, e_some, e_bindS, h7]
    refine ret_keep (by simp) ⟨?_, rfl⟩
    simp only [e_upd, Nat.reduceEqDiff, ↓reduceIte]
end Go.Proofs.YtjmceapnhmeflaaDoor


/- Calls that answer a new number. -/
namespace Go.Proofs.YtjmceapnhmeflaaDoor
open Go Go.Vh

/-- no row is handed over as the callee's own -/
def allRo (H0 : AHeap) : Bool := H0.all fun o => o.any fun r => !r.own
theorem allRo_some {H0 : AHeap} (h : allRo H0 = true) : H0.all Option.isSome = true := by
  simp only [allRo, List.all_eq_true] at h ⊢
  intro o ho
  have := h o ho
  cases o with
  | none => simp at this
  | some r => rfl
theorem allRo_own {H0 : AHeap} (h : allRo H0 = true) (i : Nat) : ownAt H0 i = false := by
  unfold ownAt
  cases hr : Vh.rowAt H0 i with
  | none => rfl
  | some row =>
    rw [Vh.rowAt_some] at hr
    simp only [allRo, List.all_eq_true] at h
    have := h _ (List.mem_of_getElem? hr)
    simpa using this
theorem allRo_once {H0 : AHeap} (h : allRo H0 = true) (σ : List (Nat × Nat)) : onceOK H0 σ = true := by
  simp only [onceOK, List.all_eq_true]
  intro i _
  simp [allRo_own h i]
theorem allRo_img {H0 : AHeap} (h : allRo H0 = true) (σ : List (Nat × Nat)) : ownImg H0 σ = [] := by
  simp only [ownImg]
  rw [List.filter_eq_nil_iff.2 (fun i _ => by simp [allRo_own h i])]
  rfl
theorem mergeGo_ro {σ' : Sig} {H0' : AHeap} : ∀ {os : AHeap} {ps : List (Nat × Nat)} {i : Nat} {H : AHeap}, allRo os = true → mergeGo σ' H0' os ps i H = H
  | [], _, _, _, _ => m_nil
  | _ :: _, [], _, _, _ => by simp [mergeGo]
  | o :: os, p :: ps, i, H, h => by
    simp only [allRo, List.all_cons, Bool.and_eq_true] at h
    cases o with
    | none => simp at h
    | some r =>
      have hr : r.own = false := by simpa using h.1
      simp only [mergeGo, hr, Bool.false_eq_true, if_false]
      exact mergeGo_ro h.2

/-- A new number: a slice over a new row, normal. -/
structure NewNum (x : Int) (κ : SK) (l : List Int) (row : ARow) : Prop where
  ok : okS κ l.length
  limbs : Limbs l
  norm : tz l l.length = l.length
  num : num l = x
  own : row.own = true
  cells : row.cells.take l.length = ints .u32 l
  flat : row.cells.all AV.flat = true

def Fresh (H0 : AHeap) (x : Int) (v : AV) (H : AHeap) : Prop := ∃ κ l row, v = mkS κ H0.length 0 l.length ∧ H = H0 ++ [some row] ∧ NewNum x κ l row

theorem NewNum.ren {x : Int} {κ : SK} {l : List Int} {row : ARow} (h : NewNum x κ l row) (σ : Sig) : (⟨true, row.slack, renL σ row.cells⟩ : ARow) = row := by
  rw [flatL_ren h.flat]
  have := h.own
  cases row
  simp only at this; subst this; rfl
theorem flat_cell {v : AV} (h : v.flat = true) : v.cell = true := by
  cases v <;> first | rfl | (simp [AV.flat] at h; done)
theorem NewNum.cell {x : Int} {κ : SK} {l : List Int} {row : ARow} (h : NewNum x κ l row) : row.cells.all AV.cell = true := by
  have := h.flat
  simp only [List.all_eq_true] at this ⊢
  exact fun v hv => flat_cell (this v hv)
theorem NewNum.len {x : Int} {κ : SK} {l : List Int} {row : ARow} (h : NewNum x κ l row) : l.length ≤ row.cells.length := by
  have := congrArg List.length h.cells
  simp only [List.length_take, ints_length] at this
  omega

section
variable {P : Program} {f : FuncId} {args0 : List AV} {H0 : AHeap} {W0 : List Nat} {x : Int} {K : St → AHeap → Prop} {d : Option Nat} {s : St} {H : AHeap} {args caps : List AV}
theorem fresh_merge {σ : List (Nat × Nat)} {κ : SK} {l : List Int} {row : ARow} (hro : allRo H0 = true) (hl : σ.length = H0.length) (hn : NewNum x κ l row) :
    (mkS κ H0.length 0 l.length).ren (sig σ H.length) = mkS κ H.length 0 l.length ∧ merge H σ H0 (H0 ++ [some row]) = H ++ [some row] := by
  have hs : sig σ H.length H0.length = some (H.length, 0) := by rw [sig_ge (by omega)]; simp [hl]
  refine ⟨n_mkS0 hs, ?_⟩
  rw [m_merge, mergeGo_ro hro]
  simp [renRow, hn.own, hn.ren]
theorem call_fresh (h : ACalls P f args0 H0 W0 (Fresh H0 x)) (σ : List (Nat × Nat)) (hro : allRo H0 = true) (hl : σ.length = H0.length) (hu : underL H0.length args0 = true) (hargs : args ++ caps = renL (sig σ H.length) args0)
    (hseen : seenAll H (sig σ H.length) H0.length H0 σ) (hK : ∀ κ l row, NewNum x κ l row → K (putI d s (mkS κ H.length 0 l.length)) (H ++ [some row])) : thenC P K d s H args (.func f caps) :=
  call_do h σ (allRo_some hro) hu (allRo_once hro σ) hargs hseen fun v0 H0' ⟨κ, l, row, e1, e2, hn⟩ => by
    subst e1; subst e2
    obtain ⟨k1, k2⟩ := fresh_merge (H := H) hro hl hn
    rw [k1, k2]
    exact hK _ _ _ hn
end

/-- A normal number's length. -/
theorem norm_len {l : List Int} (h : Limbs l) (hn : tz l l.length = l.length) {k : Nat} (hx : num l < BB ^ k) : l.length ≤ k := by
  rcases Nat.lt_or_ge k l.length with h1 | h1
  · have hl := tz_last l l.length (by omega)
    rw [hn] at hl
    have h2 := nv_ge h hl
    rw [show l.length - 1 + 1 = l.length by omega] at h2
    have h3 : BB ^ k ≤ BB ^ (l.length - 1) := BB_mono (by omega)
    have : num l = nv l l.length := rfl
    omega
  · exact h1
/-- What is cut off a row without its zeros is a new number. -/
theorem new_of_trim {S : List Int} {x : Int} {c : Nat} {row : ARow} (hS : Limbs S) (hx : num S = x) (hc : tz S S.length ≤ c) (ho : row.own = true) (hr : row.cells = ints .u32 S) : NewNum x (.cap c) (S.take (tz S S.length)) row := by
  have ht := tz_le S S.length
  have hl : (S.take (tz S S.length)).length = tz S S.length := by rw [List.length_take]; omega
  have hg : ∀ i, (S.take (tz S S.length)).getD i 0 = S.getD i 0 := fun i => getD_take S S.length _ i (tz_zero S S.length) (Nat.le_refl _)
  refine ⟨by rw [hl]; exact hc, fun i => by rw [hg]; exact hS i, ?_, by rw [num_take, hx], ho, by rw [hl, hr, ints_take], by rw [hr]; exact ints_flat⟩
  rw [hl, ← hl, hl]
  rw [tz_uniq (S.take (tz S S.length)) (tz S S.length) (tz S S.length) (Nat.le_refl _) (fun h => by rw [hg]; exact tz_last S S.length h) (fun i h1 h2 => by omega)]
end Go.Proofs.YtjmceapnhmeflaaDoor


/- Contracts, as new numbers: mulSmall, add, mul, step. -/
namespace Go.Proofs.YtjmceapnhmeflaaDoor
open Go Go.Vh

theorem mulSmall_fresh (κ : SK) (a : List Int) (hk : okS κ a.length) (hm : a.length ≤ 1000000) (ha : Limbs a) {f more : Int} (hf : 0 ≤ f ∧ f ≤ 4294967295) (hmo : 0 ≤ more ∧ more ≤ 4294967295) :
    ACalls Tryd.prog 108 [mkS κ 0 0 a.length, .int .u32 f, .int .u32 more] [ro (ints .u32 a)] [0] (Fresh [ro (ints .u32 a)] (num a * f + more)) :=
  (mulSmall_calls κ a hk hm ha hf hmo).mono fun v H ⟨h1, h2⟩ => by
    have hl := msL_length a f more
    have ht := tz_le (msL a f more) (a.length + 1)
    refine ⟨.cap (a.length + 1), (msL a f more).take (tz (msL a f more) (msL a f more).length), ⟨true, false, ints .u32 (msL a f more)⟩, ?_, h2, new_of_trim (msL_limbs ha hf hmo) (msL_num a f more) (by rw [hl]; exact ht) rfl rfl⟩
    rw [h1, List.length_take, hl, Nat.min_eq_left ht]; rfl
end Go.Proofs.YtjmceapnhmeflaaDoor


/- Contracts: within, choose. -/
namespace Go.Proofs.YtjmceapnhmeflaaDoor
open Go Go.Vh

/-- C(n, k) -/
def cnk : Nat → Nat → Nat
  | _, 0 => 1
  | 0, _ + 1 => 0
  | n + 1, k + 1 => cnk n k + cnk n (k + 1)
end Go.Proofs.YtjmceapnhmeflaaDoor

