/- The sums of samples: they do not grow with the bad things. -/
import Derived.Test.YthbhljolpnbdlaaVX
import Derived.Test.YthbhljolpnbdlaaPF
import Derived.Test.YthbhljolpnbdlaaV8
import Derived.Test.YthbhljolpnbdlaaChecked
import Derived.Test.YthbhljolpnbdlaaPG
set_option linter.unusedSimpArgs false
set_option linter.unusedVariables false
-- NEWSET
namespace Go.Proofs.Ythbhljolpnbdlaa.S1
open Go Go.Vh

theorem tS_zero (b g i : Nat) : tN (b + 1) g 0 i = tN b g 0 i := by
  unfold tN
  split
  · obtain rfl : i = 0 := by omega
    simp [cnk_zero]
  · rfl
theorem tS_first (b g k : Nat) : tN (b + 1) g k 0 = tN b g k 0 := by
  unfold tN
  rw [if_pos (Nat.zero_le _), if_pos (Nat.zero_le _), cnk_zero, cnk_zero]
theorem tS_pascal (b g k i : Nat) : tN (b + 1) g (k + 1) (i + 1) = tN b g k i + tN b g (k + 1) (i + 1) := by
  unfold tN
  by_cases h : i ≤ k
  · rw [if_pos (by omega), if_pos h, if_pos (by omega), show k + 1 - (i + 1) = k - i by omega, ← Nat.add_mul]; rfl
  · rw [if_neg (by omega), if_neg h, if_neg (by omega)]
theorem tS_gzero (b g i : Nat) : tN b (g + 1) 0 i = tN b g 0 i := by
  unfold tN
  split
  · obtain rfl : i = 0 := by omega
    simp [cnk_zero]
  · rfl
theorem tS_gpascal (b g k i : Nat) : tN b (g + 1) (k + 1) i = tN b g k i + tN b g (k + 1) i := by
  unfold tN
  by_cases h : i ≤ k
  · rw [if_pos (by omega), if_pos h, if_pos (by omega), show k + 1 - i = (k - i) + 1 by omega, ← Nat.mul_add]; rfl
  · by_cases h2 : i = k + 1
    · subst h2
      rw [if_pos (by omega), if_neg h, if_pos (by omega), Nat.sub_self, cnk_zero, cnk_zero]; omega
    · rw [if_neg (by omega), if_neg h, if_neg (by omega)]
theorem sS_zero (b g : Nat) : ∀ m, sumT (b + 1) g 0 m = sumT b g 0 m
  | 0 => rfl
  | m + 1 => by rw [sumT, sumT, sS_zero b g m, tS_zero]
theorem sS_gzero (b g : Nat) : ∀ m, sumT b (g + 1) 0 m = sumT b g 0 m
  | 0 => rfl
  | m + 1 => by rw [sumT, sumT, sS_gzero b g m, tS_gzero]
theorem sS_pascal (b g k : Nat) : ∀ m, sumT (b + 1) g (k + 1) (m + 1) = sumT b g k m + sumT b g (k + 1) (m + 1)
  | 0 => by simp only [sumT, tS_first]; omega
  | m + 1 => by
    have ih := sS_pascal b g k m
    have e1 : sumT (b + 1) g (k + 1) (m + 1 + 1) = sumT (b + 1) g (k + 1) (m + 1) + tN (b + 1) g (k + 1) (m + 1) := rfl
    have e2 : sumT b g k (m + 1) = sumT b g k m + tN b g k m := rfl
    have e3 : sumT b g (k + 1) (m + 1 + 1) = sumT b g (k + 1) (m + 1) + tN b g (k + 1) (m + 1) := rfl
    have e4 := tS_pascal b g k m
    omega
theorem sS_gpascal (b g k : Nat) : ∀ m, sumT b (g + 1) (k + 1) m = sumT b g k m + sumT b g (k + 1) m
  | 0 => rfl
  | m + 1 => by
    have ih := sS_gpascal b g k m
    have e4 := tS_gpascal b g k m
    simp only [sumT]
    omega
/-- with one bad thing more there are not more samples that show few -/
theorem sS_mono (b g k m : Nat) : sumT (b + 1) g k m ≤ sumT b (g + 1) k m := by
  cases k with
  | zero => rw [sS_zero, sS_gzero]; exact Nat.le_refl _
  | succ k =>
    cases m with
    | zero => exact Nat.le_refl _
    | succ m =>
      have h1 := sS_pascal b g k m
      have h2 := sS_gpascal b g k (m + 1)
      have h3 : sumT b g k (m + 1) = sumT b g k m + tN b g k m := rfl
      omega
theorem sS_base (g k : Nat) : ∀ m, sumT 0 g k (m + 1) = cnk g k
  | 0 => by simp [sumT, tN, cnk_zero]
  | m + 1 => by
    rw [sumT, sS_base g k m]
    have : tN 0 g k (m + 1) = 0 := tN_high (by omega)
    omega
/-- all samples together -/
theorem sS_full : ∀ b g k m, b < m → sumT b g k m = cnk (b + g) k := by
  intro b
  induction b with
  | zero => intro g k m h; obtain ⟨j, rfl⟩ : ∃ j, m = j + 1 := ⟨m - 1, by omega⟩; rw [sS_base, Nat.zero_add]
  | succ b ih =>
    intro g k m h
    obtain ⟨j, rfl⟩ : ∃ j, m = j + 1 := ⟨m - 1, by omega⟩
    cases k with
    | zero => rw [sS_zero, ih g 0 (j + 1) (by omega), cnk_zero, cnk_zero]
    | succ k => rw [sS_pascal, ih g k j (by omega), ih g (k + 1) (j + 1) (by omega), show b + 1 + g = (b + g) + 1 by omega]; rfl
/-- the samples of k among n, that show at most 'seen' of b bad ones -/
def wT (n b k : Nat) (seen : Int) : Nat := wN b (n - b) k seen
theorem wT_mono {n b k : Nat} {seen : Int} (h : b < n) : wT n (b + 1) k seen ≤ wT n b k seen := by
  unfold wT wN
  have := sS_mono b (n - (b + 1)) k (seen + 1).toNat
  rwa [show n - (b + 1) + 1 = n - b by omega] at this
theorem wT_anti {n k : Nat} {seen : Int} {b c : Nat} (h : b ≤ c) (hc : c ≤ n) : wT n c k seen ≤ wT n b k seen := by
  induction c with
  | zero => obtain rfl : b = 0 := by omega
            exact Nat.le_refl _
  | succ c ih =>
    rcases Nat.eq_or_lt_of_le h with e | e
    · rw [e]; exact Nat.le_refl _
    · exact Nat.le_trans (wT_mono (by omega)) (ih (by omega) (by omega))
theorem wT_full {n b k : Nat} {seen : Int} (hb : b ≤ n) (h : (b : Int) ≤ seen) : wT n b k seen = cnk n k := by
  unfold wT wN
  rw [sS_full b (n - b) k _ (by omega), show b + (n - b) = n by omega]

/-- the last one that is not, of those up to n -/
def lastF (p : Nat → Bool) : Nat → Nat
  | 0 => 0
  | n + 1 => if p (n + 1) then lastF p n else n + 1
theorem lastF_eq {p : Nat → Bool} {r : Nat} : ∀ {n : Nat}, r ≤ n → (r ≠ 0 → p r = false) → (∀ i, r < i → i ≤ n → p i = true) → lastF p n = r
  | 0, h, _, _ => by simp only [lastF]; omega
  | n + 1, h, h1, h2 => by
    rcases Nat.eq_or_lt_of_le h with e | e
    · have := h1 (by omega)
      rw [e] at this
      rw [lastF, this, if_neg (by decide), e]
    · rw [lastF, h2 (n + 1) e (Nat.le_refl _), if_pos rfl]
      exact lastF_eq (by omega) h1 fun i h3 h4 => h2 i h3 (by omega)
end Go.Proofs.Ythbhljolpnbdlaa.S1



/- Texts of code of this program, checked against its dump. -/
namespace Go.Proofs.Ythbhljolpnbdlaa.S1
open Go Go.Vh
def ir_xBound : IR := (.seq (.ops [⟨(some 4), none, (.eff (.box (.t 0)))⟩, ⟨(some 5), none, (.eff (.box (.t 1)))⟩, ⟨(some 6), none, (.eff (.box (.t 2)))⟩, ⟨(some 7), none, (.eff (.box (.t 3)))⟩, ⟨(some 8), none, (.pure (.move (.c (.int .i64 0))))⟩, ⟨(some 9), none, (.pure (.move (.c (.int .i64 0))))⟩]) (.seq (.seq (.ops [⟨(some 13), none, (.eff (.loadN 2 (.t 7)))⟩, ⟨(some 14), none, (.eff (.buildSlice 1 [.nilslice, .nilslice] [(0, (2, (.t 13)))]))⟩, ⟨(some 15), none, (.call (.c (.func 109 [])) [(.t 14)])⟩, ⟨(some 10), none, (.pure (.move (.t 15)))⟩]) (.seq (.ops [⟨(some 16), none, (.pure (.move (.t 10)))⟩, ⟨(some 17), none, (.pure (.bin .neq (.t 16) (.c (.int .i64 0))))⟩]) (.cond (.t 17) (.seq (.ops [⟨(some 18), none, (.pure (.move (.t 10)))⟩, ⟨(some 8), none, (.pure (.move (.c (.int .i64 0))))⟩, ⟨(some 9), none, (.pure (.move (.t 18)))⟩]) .ret) .skip))) (.seq (.seq (.ops [⟨(some 19), none, (.eff (.load1 (.t 4)))⟩, ⟨(some 20), none, (.call (.c (.func 110 [])) [(.t 19), (.c (.int .i64 512))])⟩, ⟨(some 21), none, (.pure (.not (.t 20)))⟩, ⟨(some 22), none, (.pure (.move (.t 21)))⟩, ⟨(some 23), (some (22, false)), (.eff (.load1 (.t 5)))⟩, ⟨(some 24), (some (22, false)), (.eff (.load1 (.t 4)))⟩, ⟨(some 25), (some (22, false)), (.call (.c (.func 110 [])) [(.t 23), (.t 24)])⟩, ⟨(some 26), (some (22, false)), (.pure (.not (.t 25)))⟩, ⟨(some 27), none, (.pure (.pick (.t 22) (.c (.bool true)) (.t 26)))⟩, ⟨(some 28), none, (.pure (.move (.t 27)))⟩, ⟨(some 29), (some (28, false)), (.eff (.load1 (.t 6)))⟩, ⟨(some 30), (some (28, false)), (.eff (.load1 (.t 5)))⟩, ⟨(some 31), (some (28, false)), (.call (.c (.func 110 [])) [(.t 29), (.t 30)])⟩, ⟨(some 32), (some (28, false)), (.pure (.not (.t 31)))⟩, ⟨(some 33), none, (.pure (.pick (.t 28) (.c (.bool true)) (.t 32)))⟩]) (.cond (.t 33) (.seq (.ops [⟨(some 8), none, (.pure (.move (.c (.int .i64 0))))⟩, ⟨(some 9), none, (.pure (.move (.c (.int .i64 3))))⟩]) .ret) .skip)) (.seq (.seq (.ops [⟨(some 34), none, (.pure (.fieldAddr 0 (.t 7)))⟩, ⟨(some 35), none, (.eff (.load1 (.t 34)))⟩, ⟨(some 36), none, (.pure (.fieldAddr 1 (.t 7)))⟩, ⟨(some 37), none, (.eff (.load1 (.t 36)))⟩, ⟨(some 38), none, (.call (.c (.func 111 [])) [(.t 35), (.t 37)])⟩, ⟨(some 39), none, (.pure (.bin .geq (.t 38) (.c (.int .i64 0))))⟩]) (.cond (.t 39) (.seq (.ops [⟨(some 8), none, (.pure (.move (.c (.int .i64 0))))⟩, ⟨(some 9), none, (.pure (.move (.c (.int .i64 2))))⟩]) .ret) .skip)) (.seq (.tops (.soft ⟨⟨(some 40), none, (.pure (.fieldAddr 0 (.t 7)))⟩, 0, 0⟩ (.soft ⟨⟨(some 41), none, (.eff (.load1 (.t 40)))⟩, 1, 1⟩ (.soft ⟨⟨(some 42), none, (.eff (.load1 (.t 4)))⟩, 2, 1⟩ (.soft ⟨⟨(some 43), none, (.eff (.load1 (.t 5)))⟩, 3, 1⟩ (.alt ⟨⟨(some 44), none, (.call (.c (.func 113 [])) [(.t 42), (.t 43)])⟩, 4, 2⟩ (.alt ⟨⟨(some 45), none, (.call (.c (.func 112 [])) [(.t 41), (.t 44)])⟩, 5, 3⟩ (.alt ⟨⟨(some 11), none, (.eff (.alloc [.nilslice]))⟩, 6, 2⟩ (.alt ⟨⟨none, none, (.eff (.store 1 (.t 11) (.t 45)))⟩, 7, 3⟩ .done .none) .none) (.alt ⟨⟨(some 11), none, (.eff (.alloc [.nilslice]))⟩, 6, 2⟩ (.alt ⟨⟨(some 45), none, (.call (.c (.func 112 [])) [(.t 41), (.t 44)])⟩, 5, 3⟩ (.alt ⟨⟨none, none, (.eff (.store 1 (.t 11) (.t 45)))⟩, 7, 3⟩ .done .none) .none) .none)) (.alt ⟨⟨(some 11), none, (.eff (.alloc [.nilslice]))⟩, 6, 2⟩ (.alt ⟨⟨(some 44), none, (.call (.c (.func 113 [])) [(.t 42), (.t 43)])⟩, 4, 2⟩ (.alt ⟨⟨(some 45), none, (.call (.c (.func 112 [])) [(.t 41), (.t 44)])⟩, 5, 3⟩ (.alt ⟨⟨none, none, (.eff (.store 1 (.t 11) (.t 45)))⟩, 7, 3⟩ .done .none) .none) .none) .none))))))) (.seq (.ops [⟨(some 46), none, (.pure (.makeFunc 114 [(.t 4), (.t 5), (.t 6), (.t 7), (.t 11)]))⟩, ⟨(some 12), none, (.pure (.move (.t 46)))⟩]) (.seq (.ops [⟨(some 47), none, (.eff (.load1 (.t 4)))⟩, ⟨(some 48), none, (.pure (.bin .add (.t 47) (.c (.int .i64 1))))⟩, ⟨(some 49), none, (.pure (.move (.t 12)))⟩, ⟨(some 50), none, (.call (.c (.func 116 [])) [(.t 48), (.t 49)])⟩, ⟨(some 51), none, (.pure (.bin .sub (.t 50) (.c (.int .i64 1))))⟩, ⟨(some 8), none, (.pure (.move (.t 51)))⟩, ⟨(some 9), none, (.pure (.move (.c (.int .i64 0))))⟩]) .ret)))))))
def rs_xBound : List IRes := [(.tmp 8), (.tmp 9)]
theorem ir_xBound_ok : (Func.body Try.f75).bind (irOf Try.prog Try.f75.ntmps) = some ir_xBound := by kernel_rfl
theorem rs_xBound_ok : Try.f75.results.toList.mapM (resOf Try.prog) = some rs_xBound := by kernel_rfl
theorem ent_xBound : enters Try.prog 75 = true := by kernel_rfl

def ir_search : IR := (.seq (.ops [⟨(some 4), none, (.pure (.move (.c (.int .i64 0))))⟩]) (.seq (.ops [⟨(some 8), none, (.pure (.move (.t 0)))⟩, ⟨(some 5), none, (.pure (.move (.c (.int .i64 0))))⟩, ⟨(some 6), none, (.pure (.move (.t 8)))⟩]) (.seq (.block 0 (.loop (.seq (.seq (.ops [⟨(some 9), none, (.pure (.move (.t 5)))⟩, ⟨(some 10), none, (.pure (.move (.t 6)))⟩, ⟨(some 11), none, (.pure (.bin .lss (.t 9) (.t 10)))⟩]) (.cond (.t 11) .skip (.exit 0))) (.block 1 (.seq (.ops [⟨(some 12), none, (.pure (.move (.t 5)))⟩, ⟨(some 13), none, (.pure (.move (.t 6)))⟩, ⟨(some 14), none, (.pure (.bin .add (.t 12) (.t 13)))⟩, ⟨(some 15), none, (.pure (.conv .u64 (.t 14)))⟩, ⟨(some 16), none, (.pure (.bin .shr (.t 15) (.c (.int .u64 1))))⟩, ⟨(some 17), none, (.pure (.conv .i64 (.t 16)))⟩, ⟨(some 7), none, (.pure (.move (.t 17)))⟩]) (.seq (.ops [⟨(some 18), none, (.pure (.move (.t 1)))⟩, ⟨(some 19), none, (.pure (.move (.t 7)))⟩, ⟨(some 20), none, (.call (.t 18) [(.t 19)])⟩, ⟨(some 21), none, (.pure (.not (.t 20)))⟩]) (.cond (.t 21) (.ops [⟨(some 22), none, (.pure (.move (.t 7)))⟩, ⟨(some 23), none, (.pure (.bin .add (.t 22) (.c (.int .i64 1))))⟩, ⟨(some 5), none, (.pure (.move (.t 23)))⟩]) (.ops [⟨(some 24), none, (.pure (.move (.t 7)))⟩, ⟨(some 6), none, (.pure (.move (.t 24)))⟩])))))))) (.seq (.ops [⟨(some 25), none, (.pure (.move (.t 5)))⟩, ⟨(some 4), none, (.pure (.move (.t 25)))⟩]) .ret))))
def rs_search : List IRes := [(.tmp 4)]
theorem ir_search_ok : (Func.body Try.f116).bind (irOf Try.prog Try.f116.ntmps) = some ir_search := by kernel_rfl
theorem rs_search_ok : Try.f116.results.toList.mapM (resOf Try.prog) = some rs_search := by kernel_rfl
theorem ent_search : enters Try.prog 116 = true := by kernel_rfl

def ir_boundF : IR := (.seq (.ops [⟨(some 7), none, (.pure (.move (.c (.bool false))))⟩]) (.seq (.dops [⟨⟨(some 8), none, (.eff (.load1 (.t 1)))⟩, 0, 1⟩, ⟨⟨(some 9), none, (.pure (.move (.t 0)))⟩, 1, 0⟩, ⟨⟨(some 10), none, (.eff (.load1 (.t 2)))⟩, 2, 1⟩, ⟨⟨(some 11), none, (.eff (.load1 (.t 3)))⟩, 3, 1⟩, ⟨⟨(some 13), none, (.pure (.fieldAddr 1 (.t 4)))⟩, 5, 0⟩, ⟨⟨(some 14), none, (.eff (.load1 (.t 13)))⟩, 6, 1⟩, ⟨⟨(some 16), none, (.eff (.load1 (.t 5)))⟩, 8, 1⟩, ⟨⟨(some 12), none, (.call (.c (.func 115 [])) [(.t 8), (.t 9), (.t 10), (.t 11)])⟩, 4, 2⟩, ⟨⟨(some 15), none, (.call (.c (.func 112 [])) [(.t 12), (.t 14)])⟩, 7, 2⟩, ⟨⟨(some 17), none, (.call (.c (.func 111 [])) [(.t 15), (.t 16)])⟩, 9, 3⟩, ⟨⟨(some 18), none, (.pure (.bin .leq (.t 17) (.c (.int .i64 0))))⟩, 10, 0⟩, ⟨⟨(some 7), none, (.pure (.move (.t 18)))⟩, 11, 0⟩]) .ret))
def rs_boundF : List IRes := [(.tmp 7)]
theorem ir_boundF_ok : (Func.body Try.f114).bind (irOf Try.prog Try.f114.ntmps) = some ir_boundF := by kernel_rfl
theorem rs_boundF_ok : Try.f114.results.toList.mapM (resOf Try.prog) = some rs_boundF := by kernel_rfl
theorem ent_boundF : enters Try.prog 114 = true := by kernel_rfl

end Go.Proofs.Ythbhljolpnbdlaa.S1



/- Contracts: sort.Search; the bound's closure. -/
-- NEWSET
namespace Go.Proofs.Ythbhljolpnbdlaa.S1
open Go Go.Vh

theorem shr1 {x : Nat} (hx : x < 18446744073709551616) : abin .shr (.int .u64 (x : Int)) (.int .u64 1) = some (.int .u64 ((x / 2 : Nat) : Int)) := by
  have := b_shr (k := .u64) (k' := .u64) (a := (x : Int)) (n := 1) (by decide)
  exact this.trans (by rw [show (2 : Int) ^ 1 = 2 from rfl]; congr 2)

set_option maxHeartbeats 1000000 in
theorem search_calls (H0 : AHeap) {f : FuncId} {caps : List AV} {n : Nat} (hn : n ≤ 1000000) (p : Nat → Bool) (hmono : ∀ i j, i ≤ j → j < n → p i = true → p j = true)
    (hstep : ∀ H j, Base H0 H → j < n → ∃ W, ACalls Try.prog f (.int .i64 (j : Int) :: caps) H W fun v H' => v = .bool (p j) ∧ Base H H') :
    ACalls Try.prog 116 [.int .i64 (n : Int), .func f caps] H0 (List.range H0.length) fun v H' => Base H0 H' ∧ ∃ r : Nat, v = .int .i64 (r : Int) ∧ r ≤ n ∧ (∀ i, i < r → p i = false) ∧ ∀ i, r ≤ i → i < n → p i = true := by
  refine ACalls.body Try.func116 ent_search ir_search_ok rs_search_ok Try.ntmps116 (by simp) rfl ?_
  unfold ir_search
  have e0 : s0 [.int .i64 (n : Int), .func f caps] 0 = .int .i64 n := rfl
  have e1 : s0 [.int .i64 (n : Int), .func f caps] 1 = .func f caps := rfl
  simp -implicitDefEqProofs (disch := omega) only [sN, ↓reduceIte, Nat.reduceEqDiff, Nat.reduceAdd, Nat.reduceMul, Nat.reduceSub, reduceCtorEq, e_none, e_some, e_bindS, e0, e1]
  refine ⟨fun t s H => ∃ i j : Nat, i ≤ j ∧ j ≤ n ∧ t = j - i ∧ (∀ a, a < i → p a = false) ∧ (∀ a, j ≤ a → a < n → p a = true) ∧ Base H0 H ∧ s 1 = .func f caps ∧ s 5 = .int .i64 (i : Int) ∧ s 6 = .int .i64 (j : Int), n, ⟨0, n, by omega, by omega, rfl, fun a h => by omega, fun a h h' => by omega, Base.refl, ?_, ?_, ?_⟩, ?_⟩
  · simp only [e_upd, e_putS, e_putN, e_t, e_c, Nat.reduceEqDiff, ↓reduceIte, reduceCtorEq, Nat.reduceAdd, e1]
  · simp only [e_upd, e_putS, e_putN, e_t, e_c, Nat.reduceEqDiff, ↓reduceIte, reduceCtorEq, Nat.reduceAdd]; rfl
  · simp only [e_upd, e_putS, e_putN, e_t, e_c, Nat.reduceEqDiff, ↓reduceIte, reduceCtorEq, Nat.reduceAdd]
  rintro t s H ⟨i, j, hij, hj, rfl, hlo, hhi, hB, h1, h5, h6⟩
  by_cases hlt : i < j
  · have hwu : IntKind.u64.wrap ((i : Int) + (j : Int)) = ((i + j : Nat) : Int) := by rw [wu64 (by omega) (by omega)]; omega
    have hshr := shr1 (x := i + j) (by omega)
    obtain ⟨m, hm⟩ : ∃ m, (i + j) / 2 = m := ⟨_, rfl⟩
    rw [hm] at hshr
    obtain ⟨W, hA⟩ := hstep H m hB (by omega)
    simp -implicitDefEqProofs (disch := omega) only [sN, ↓reduceIte, Nat.reduceEqDiff, Nat.reduceAdd, Nat.reduceMul, Nat.reduceSub, reduceCtorEq, e_none, e_some, e_bindS, h1, h5, h6, hwu, hshr, List.map_cons, List.map_nil]
    refine ⟨W, ?_⟩
    rw [show [AV.int IntKind.i64 (m : Int)] ++ caps = .int .i64 (m : Int) :: caps from rfl]
    refine hA.g.mono ?_
    rintro v H' ⟨rfl, hB'⟩
    by_cases hp : p m = true
    · rw [hp]
      simp -implicitDefEqProofs (disch := omega) only [sN, ↓reduceIte, Nat.reduceEqDiff, Nat.reduceAdd, Nat.reduceMul, Nat.reduceSub, reduceCtorEq, e_none, e_some, e_bindS, h1, h5, h6]
      refine loop_keep (m := m - i) (by omega) ⟨i, m, by omega, by omega, rfl, hlo, fun a h h' => hmono m a h h' hp, hB.trans hB', ?_, ?_, ?_⟩
      · simp only [e_upd, e_putS, e_putN, e_t, e_c, Nat.reduceEqDiff, ↓reduceIte, reduceCtorEq, Nat.reduceAdd, h1]
      · simp only [e_upd, e_putS, e_putN, e_t, e_c, Nat.reduceEqDiff, ↓reduceIte, reduceCtorEq, Nat.reduceAdd, h5]
      · simp only [e_upd, e_putS, e_putN, e_t, e_c, Nat.reduceEqDiff, ↓reduceIte, reduceCtorEq, Nat.reduceAdd]
    · have hpf : p m = false := by simpa using hp
      rw [hpf]
      simp -implicitDefEqProofs (disch := omega) only [sN, ↓reduceIte, Nat.reduceEqDiff, Nat.reduceAdd, Nat.reduceMul, Nat.reduceSub, reduceCtorEq, e_none, e_some, e_bindS, h1, h5, h6]
      refine loop_keep (m := j - (m + 1)) (by omega) ⟨m + 1, j, by omega, hj, rfl, fun a h => ?_, hhi, hB.trans hB', ?_, ?_, ?_⟩
      · rcases Decidable.em (p a = true) with h2 | h2
        · exact absurd (hmono a m (by omega) (by omega) h2) hp
        · simpa using h2
      · simp only [e_upd, e_putS, e_putN, e_t, e_c, Nat.reduceEqDiff, ↓reduceIte, reduceCtorEq, Nat.reduceAdd, h1]
      · simp only [e_upd, e_putS, e_putN, e_t, e_c, Nat.reduceEqDiff, ↓reduceIte, reduceCtorEq, Nat.reduceAdd]; first | done | rfl
      · simp only [e_upd, e_putS, e_putN, e_t, e_c, Nat.reduceEqDiff, ↓reduceIte, reduceCtorEq, Nat.reduceAdd, h6]
  · obtain rfl : i = j := by omega
    simp -implicitDefEqProofs (disch := omega) only [sN, ↓reduceIte, Nat.reduceEqDiff, Nat.reduceAdd, Nat.reduceMul, Nat.reduceSub, reduceCtorEq, e_none, e_some, e_bindS, h1, h5, h6]
    refine ret_keep hB.1 ⟨hB, i, ?_, hj, hlo, hhi⟩
    simp only [e_upd, e_putS, e_putN, e_t, e_c, Nat.reduceEqDiff, ↓reduceIte, reduceCtorEq, Nat.reduceAdd]
end Go.Proofs.Ythbhljolpnbdlaa.S1



/- Contracts: the bound's closure, its region. -/
-- NEWSET
namespace Go.Proofs.Ythbhljolpnbdlaa.S1
open Go Go.Vh

/-- is so many excluded? -/
def exclP (n k : Nat) (seen : Int) (x y : Int) (b : Nat) : Bool := decide (((wT n b k seen : Nat) : Int) * y ≤ x * ((cnk n k : Nat) : Int))
theorem exclP_mono {n k : Nat} {seen x y : Int} (hy : 0 ≤ y) : ∀ i j, i ≤ j → j < n + 1 → exclP n k seen x y i = true → exclP n k seen x y j = true := fun i j hij hj h => by
  unfold exclP at h ⊢
  rw [decide_eq_true_eq] at h ⊢
  have h1 : wT n j k seen ≤ wT n i k seen := wT_anti hij (by omega)
  have h2 : ((wT n j k seen : Nat) : Int) * y ≤ ((wT n i k seen : Nat) : Int) * y := Int.mul_le_mul_of_nonneg_right (by omega) hy
  omega
theorem wN_bb {b g k : Nat} {seen : Int} (h : b + g ≤ 512) (hk : k ≤ 512) : ((wN b g k seen : Nat) : Int) < BB ^ 17 := by
  unfold wN
  rcases Nat.lt_or_ge (seen + 1).toNat 1000 with h1 | h1
  · exact sumT_bb h (by omega)
  · rw [sumT_high (n := 1000) (by omega) h1]
    exact sumT_bb h (by omega)

section
variable {P : Program} {f : FuncId} {args0 : List AV} {K : St → AHeap → Prop} {d : Option Nat} {s : St} {H : AHeap} {Q : AHeap → AV → AHeap → Prop}
theorem call_in0_0 {W : List Nat} (h : ACalls P f args0 [] W (Q [])) (hf : args0.all AV.flat = true)
    (hK : ∀ (σ : List (Nat × Nat)) (H0 : AHeap) (v0 : AV) (H0' : AHeap), σ.length = H0.length → allRo H0 = true → Q H0 v0 H0' → K (putI d s (v0.ren (sig σ H.length))) (H ++ (H0'.drop H0.length).map (renRow (sig σ H.length)))) : thenC0 P K d s H args0 (.func f []) := by
  refine call_do0 h [] rfl (flatL_under hf) rfl rfl (by rw [List.append_nil, flatL_ren hf]) trivial fun v0 H0' hq => ?_
  have := hK [] [] v0 H0' rfl rfl hq
  rw [m_merge, m_nil]
  exact this
end

/-- What the closure finds in its boxes. -/
structure Boxes (H : AHeap) (t4 t5 t6 t7 t11 n k : Nat) (seen : Int) (w1 w2 wl : AV) (x y : Int) : Prop where
  r4 : Vh.rowAt H t4 = some ⟨true, false, [.int .i64 (n : Int)]⟩
  r5 : Vh.rowAt H t5 = some ⟨true, false, [.int .i64 (k : Int)]⟩
  r6 : Vh.rowAt H t6 = some ⟨true, false, [.int .i64 seen]⟩
  r7 : Vh.rowAt H t7 = some ⟨true, false, [w1, w2]⟩
  r11 : Vh.rowAt H t11 = some ⟨true, false, [wl]⟩
  den : ∃ r, AtK H w2 y r 64
  lim : ∃ r, AtK H wl (x * ((cnk n k : Nat) : Int)) r 81
theorem Boxes.base {H H' : AHeap} {t4 t5 t6 t7 t11 n k : Nat} {seen : Int} {w1 w2 wl : AV} {x y : Int} (h : Boxes H t4 t5 t6 t7 t11 n k seen w1 w2 wl x y) (hb : Base H H') : Boxes H' t4 t5 t6 t7 t11 n k seen w1 w2 wl x y := by
  obtain ⟨a, ha⟩ := h.den
  obtain ⟨b, hb'⟩ := h.lim
  exact ⟨hb.row h.r4, hb.row h.r5, hb.row h.r6, hb.row h.r7, hb.row h.r11, ⟨a, ha.keep (hb.2 a ha.lt)⟩, ⟨b, hb'.keep (hb.2 b hb'.lt)⟩⟩

set_option maxHeartbeats 1000000 in
theorem boundF_calls {H : AHeap} {t4 t5 t6 t7 t11 n k : Nat} {seen : Int} {w1 w2 wl : AV} {x y : Int} (h : Boxes H t4 t5 t6 t7 t11 n k seen w1 w2 wl x y) (hn : n ≤ 512) (hk : k ≤ n) (hs : -9223372036854775808 ≤ seen ∧ seen ≤ 9223372036854775807) {b : Nat} (hb : b ≤ n) :
    ACalls Try.prog 114 [.int .i64 (b : Int), .ptr t4 0, .ptr t5 0, .ptr t6 0, .ptr t7 0, .ptr t11 0] H (List.range H.length) fun v H' => v = .bool (exclP n k seen x y b) ∧ Base H H' := by
  refine ACalls.body Try.func114 ent_boundF ir_boundF_ok rs_boundF_ok Try.ntmps114 (by simp) rfl ?_
  unfold ir_boundF
  have e0 : s0 [.int .i64 (b : Int), .ptr t4 0, .ptr t5 0, .ptr t6 0, .ptr t7 0, .ptr t11 0] 0 = .int .i64 (b : Int) := rfl
  have e1 : s0 [.int .i64 (b : Int), .ptr t4 0, .ptr t5 0, .ptr t6 0, .ptr t7 0, .ptr t11 0] 1 = .ptr t4 0 := rfl
  have e2 : s0 [.int .i64 (b : Int), .ptr t4 0, .ptr t5 0, .ptr t6 0, .ptr t7 0, .ptr t11 0] 2 = .ptr t5 0 := rfl
  have e3 : s0 [.int .i64 (b : Int), .ptr t4 0, .ptr t5 0, .ptr t6 0, .ptr t7 0, .ptr t11 0] 3 = .ptr t6 0 := rfl
  have e4 : s0 [.int .i64 (b : Int), .ptr t4 0, .ptr t5 0, .ptr t6 0, .ptr t7 0, .ptr t11 0] 4 = .ptr t7 0 := rfl
  have e5 : s0 [.int .i64 (b : Int), .ptr t4 0, .ptr t5 0, .ptr t6 0, .ptr t7 0, .ptr t11 0] 5 = .ptr t11 0 := rfl
  obtain ⟨ra, hA⟩ := h.den
  obtain ⟨rb, hL⟩ := h.lim
  obtain ⟨g, hg⟩ : ∃ g, n = b + g := ⟨n - b, by omega⟩
  have hwT : wT n b k seen = wN b g k seen := by unfold wT; rw [show n - b = g by omega]
  have hsw := samplesWith_calls b g k seen (by omega) (by omega) hs.1 hs.2
  have hbb := wN_bb (b := b) (g := g) (k := k) (seen := seen) (by omega) (by omega)
  have r4 := h.r4
  rw [hg] at r4
  simp -implicitDefEqProofs (disch := omega) only [sN, ↓reduceIte, Nat.reduceEqDiff, Nat.reduceAdd, Nat.reduceMul, Nat.reduceSub, reduceCtorEq, e_none, e_some, e_bindS, e0, e1, e2, e3, e4, e5, r4, h.r5, h.r6, h.r7, h.r11, p_fieldAddr, Nat.zero_add, Option.bind_some, Option.map_some, List.getElem?_cons_zero, List.getElem?_cons_succ, List.map_cons, List.map_nil]
  refine call_in0_0 (Q := UpN ((wN b g k seen : Nat) : Int)) hsw rfl (hk_N fun R1 v1 n1 => ?_)
  simp -implicitDefEqProofs (disch := omega) only [sN, ↓reduceIte, Nat.reduceEqDiff, Nat.reduceAdd, Nat.reduceMul, Nat.reduceSub, reduceCtorEq, e_none, e_some, e_bindS, List.map_cons, List.map_nil]
  have hr : Vh.rowAt (H ++ R1) t7 = some ⟨true, false, [w1, w2]⟩ := Base.one.row h.r7
  obtain ⟨c1, m1⟩ := (n1.normAt hr).at hbb
  refine call_in2_0 in_mul rfl (m1.mono (by omega)) (hA.mono (show 64 ≤ 100000 by omega)).app (hk_N fun R2 v2 n2 => ?_)
  simp -implicitDefEqProofs (disch := omega) only [sN, ↓reduceIte, Nat.reduceEqDiff, Nat.reduceAdd, Nat.reduceMul, Nat.reduceSub, reduceCtorEq, e_none, e_some, e_bindS, List.map_cons, List.map_nil]
  have hr2 : Vh.rowAt (H ++ R1 ++ R2) t7 = some ⟨true, false, [w1, w2]⟩ := Base.one.row hr
  obtain ⟨c2, m2⟩ := (n2.normAt hr2).at (mul_pow (by omega) hA.nonneg hbb hA.lt_pow)
  refine call_in2 in_compare rfl (m2.mono (by omega)) (hL.mono (show 81 ≤ 100000 by omega)).app.app (hk_P (fun _ => rfl) fun R3 => ?_)
  have hfin : exclP n k seen x y b = decide (cmpI (((wN b g k seen : Nat) : Int) * y) (x * ((cnk n k : Nat) : Int)) ≤ 0) := by
    unfold exclP; rw [hwT]
    refine decide_eq_decide.2 ?_
    unfold cmpI
    constructor
    · intro h1; split
      · omega
      · split <;> omega
    · intro h1
      split at h1
      · omega
      · split at h1 <;> omega
  rw [hfin]
  generalize cmpI (((wN b g k seen : Nat) : Int) * y) (x * ((cnk n k : Nat) : Int)) = c
  simp -implicitDefEqProofs (disch := omega) only [sN, ↓reduceIte, Nat.reduceEqDiff, Nat.reduceAdd, Nat.reduceMul, Nat.reduceSub, reduceCtorEq, e_none, e_some, e_bindS]
  refine ret_keep (by simp) ⟨?_, Base.one.app.app⟩
  simp only [e_upd, e_putS, e_putN, e_t, e_c, Nat.reduceEqDiff, ↓reduceIte, reduceCtorEq, Nat.reduceAdd]
end Go.Proofs.Ythbhljolpnbdlaa.S1



/- Contracts: exact's Bound. -/
-- NEWSET
namespace Go.Proofs.Ythbhljolpnbdlaa.S1
open Go Go.Vh

def bdOK (total sample seen : Int) : Prop := 0 ≤ total ∧ total ≤ 512 ∧ 0 ≤ sample ∧ sample ≤ total ∧ 0 ≤ seen ∧ seen ≤ sample
instance (total sample seen : Int) : Decidable (bdOK total sample seen) := by unfold bdOK; infer_instance
def bdE (q : Fr) (total sample seen : Int) : Int := if cfE [q] = 0 then (if bdOK total sample seen then (if q.x < q.y then 0 else 2) else 3) else cfE [q]
def bdV (q : Fr) (total sample seen : Int) : Int := if bdE q total sample seen = 0 then ((lastF (exclP total.toNat sample.toNat seen q.x q.y) total.toNat : Nat) : Int) else 0
theorem x_bsF1 {s : St} {H : AHeap} {x : Opd} {v1 v2 z1 z2 : AV} (h1 : evo s x = .agg [v1, v2]) (c1 : v1.cell = true) (c2 : v2.cell = true) :
    ieff (.buildSlice 1 [z1, z2] [(0, (2, x))]) s H = some (.slice H.length 0 1 1, H ++ [rw_ [v1, v2]]) := by
  simp [ieff, h1, afill, aparts, c1, c2, anew, rw_]
theorem cfE1_short {q : Fr} (h : cfE [q] = 0) : q.n ≤ 64 ∧ q.m ≤ 64 ∧ q.y ≠ 0 := by
  unfold cfE at h
  split at h
  · rename_i hs
    split at h
    · rename_i hd
      simp [Fr.short] at hs
      simp [Fr.den] at hd
      exact ⟨hs.1, hs.2, hd⟩
    · omega
  · omega
theorem excl_zero {n k : Nat} {seen x y : Int} (hk : k ≤ n) (hs : 0 ≤ seen) (hxy : x < y) {b : Nat} (hb : b ≤ n) (hbs : (b : Int) ≤ seen) : exclP n k seen x y b = false := by
  unfold exclP
  rw [decide_eq_false_iff_not, wT_full hb hbs]
  have hc := cnk_pos2 n k hk
  intro h
  rw [Int.mul_comm x] at h
  have := Int.le_of_mul_le_mul_left h (show (0 : Int) < ((cnk n k : Nat) : Int) by omega)
  omega

def tr_bound : DTree := (.soft ⟨⟨(some 40), none, (.pure (.fieldAddr 0 (.t 7)))⟩, 0, 0⟩ (.soft ⟨⟨(some 41), none, (.eff (.load1 (.t 40)))⟩, 1, 1⟩ (.soft ⟨⟨(some 42), none, (.eff (.load1 (.t 4)))⟩, 2, 1⟩ (.soft ⟨⟨(some 43), none, (.eff (.load1 (.t 5)))⟩, 3, 1⟩ (.alt ⟨⟨(some 44), none, (.call (.c (.func 113 [])) [(.t 42), (.t 43)])⟩, 4, 2⟩ (.alt ⟨⟨(some 45), none, (.call (.c (.func 112 [])) [(.t 41), (.t 44)])⟩, 5, 3⟩ (.alt ⟨⟨(some 11), none, (.eff (.alloc [.nilslice]))⟩, 6, 2⟩ (.alt ⟨⟨none, none, (.eff (.store 1 (.t 11) (.t 45)))⟩, 7, 3⟩ .done .none) .none) (.alt ⟨⟨(some 11), none, (.eff (.alloc [.nilslice]))⟩, 6, 2⟩ (.alt ⟨⟨(some 45), none, (.call (.c (.func 112 [])) [(.t 41), (.t 44)])⟩, 5, 3⟩ (.alt ⟨⟨none, none, (.eff (.store 1 (.t 11) (.t 45)))⟩, 7, 3⟩ .done .none) .none) .none)) (.alt ⟨⟨(some 11), none, (.eff (.alloc [.nilslice]))⟩, 6, 2⟩ (.alt ⟨⟨(some 44), none, (.call (.c (.func 113 [])) [(.t 42), (.t 43)])⟩, 4, 2⟩ (.alt ⟨⟨(some 45), none, (.call (.c (.func 112 [])) [(.t 41), (.t 44)])⟩, 5, 3⟩ (.alt ⟨⟨none, none, (.eff (.store 1 (.t 11) (.t 45)))⟩, 7, 3⟩ .done .none) .none) .none) .none))))))

theorem bound_region {H : AHeap} {s : St} {r4 r5 r7 n k : Nat} {w1 w2 : AV} {x : Int} {a : Nat} (t4 : s 4 = .ptr r4 0) (t5 : s 5 = .ptr r5 0) (t7 : s 7 = .ptr r7 0)
    (h4 : Vh.rowAt H r4 = some ⟨true, false, [.int .i64 (n : Int)]⟩) (h5 : Vh.rowAt H r5 = some ⟨true, false, [.int .i64 (k : Int)]⟩) (h7 : Vh.rowAt H r7 = some ⟨true, false, [w1, w2]⟩) (hx : AtK H w1 x a 64) (hn : n ≤ 512) (hk : k ≤ 512) :
    iopsT Try.prog H tr_bound (fun s' H' => Base H H' ∧ (∃ r wl rl, s' 11 = .ptr r 0 ∧ Vh.rowAt H' r = some ⟨true, false, [wl]⟩ ∧ AtK H' wl (x * ((cnk n k : Nat) : Int)) rl 81) ∧ s' 4 = s 4 ∧ s' 5 = s 5 ∧ s' 6 = s 6 ∧ s' 7 = s 7) s H := by
  have hz : [AV.nilslice].all AV.cell = true := rfl
  have hcb : ((cnk n k : Nat) : Int) < BB ^ 17 := pow_bb (cnk_le n k) (by omega)
  have hpb := mul_pow hx.nonneg (show (0 : Int) ≤ ((cnk n k : Nat) : Int) by omega) hx.lt_pow hcb
  unfold tr_bound
  simp only [e_tsoft, e_stepN, e_pureD, e_effD1, e_thenL, p_fieldAddr, x_load1, e_thenP, e_putS, e_upd, e_t, e_c, Nat.reduceEqDiff, ↓reduceIte, t4, t5, t7, h4, h5, h7, Nat.zero_add, Option.bind_some, Option.map_some, List.getElem?_cons_zero, e_talt, e_talt1, e_callD2, List.map_cons, List.map_nil]
  refine ⟨?_, ?_⟩
  · refine call_in0_0 (Q := UpN ((cnk n k : Nat) : Int)) (choose_up (n := n) (j := k) (by omega) (by omega)) rfl (hk_N fun R1 v1 n1 => ?_)
    have hr1 : Vh.rowAt (H ++ R1) r7 = some ⟨true, false, [w1, w2]⟩ := Base.one.row h7
    obtain ⟨c1, m1⟩ := (n1.normAt hr1).at hcb
    simp only [e_talt, e_talt1, e_stepN, e_callD3, e_effD2, e_putS, e_upd, e_t, e_c, Nat.reduceEqDiff, ↓reduceIte, List.map_cons, List.map_nil]
    refine ⟨?_, ?_⟩
    · refine call_in2 in_mul rfl (hx.mono (show 64 ≤ 100000 by omega)).app (m1.mono (by omega)) (hk_N fun R2 v2 n2 => ?_)
      have hr2 : Vh.rowAt (H ++ R1 ++ R2) r7 = some ⟨true, false, [w1, w2]⟩ := Base.one.row hr1
      obtain ⟨c2, m2⟩ := (n2.normAt hr2).at hpb
      simp only [e_talt1, e_stepN, e_effD2, e_effD3, e_putS, e_upd, e_t, e_c, Nat.reduceEqDiff, ↓reduceIte]
      rw [x_allocA hz]
      simp only [e_thenE, e_talt1, e_stepN, e_effD2, e_effD3, e_putS, e_upd, e_t, e_c, Nat.reduceEqDiff, ↓reduceIte]
      rw [x_store1A (r := (H ++ R1 ++ R2).length) (off := 0) (v := v2) (l := [.nilslice]) (by simp only [e_upd, e_putS, e_putN, e_t, e_c, Nat.reduceEqDiff, ↓reduceIte, reduceCtorEq, Nat.reduceAdd]) (by simp only [e_upd, e_putS, e_putN, e_t, e_c, Nat.reduceEqDiff, ↓reduceIte, reduceCtorEq, Nat.reduceAdd]) n2.cell (by simp [Vh.rowAt, rw_]) (by simp), List.set_cons_zero, set_last]
      simp only [e_thenE, e_tdone, e_putN, e_upd, e_t, e_c, Nat.reduceEqDiff, ↓reduceIte]
      exact ⟨Base.one.app.app, ⟨_, v2, c2, rfl, by simp [Vh.rowAt, rw_], m2.app⟩, t4, t5, trivial, t7⟩
    · rw [x_allocA hz]
      simp only [e_thenE, e_talt1, e_stepN, e_callD3, e_effD2, e_effD3, e_putS, e_upd, e_t, e_c, Nat.reduceEqDiff, ↓reduceIte, List.map_cons, List.map_nil]
      refine call_in2 in_mul rfl (hx.mono (show 64 ≤ 100000 by omega)).app.app (m1.mono (by omega)).app (hk_N fun R2 v2 n2 => ?_)
      have hr2 : Vh.rowAt (H ++ R1 ++ [rw_ [.nilslice]] ++ R2) r7 = some ⟨true, false, [w1, w2]⟩ := Base.one.row (Base.one.row hr1)
      simp only [e_talt1, e_stepN, e_effD2, e_effD3, e_putS, e_upd, e_t, e_c, Nat.reduceEqDiff, ↓reduceIte]
      have hlen : (H ++ R1).length < (H ++ R1 ++ [rw_ [.nilslice]] ++ R2).length := by simp
      have hrow : Vh.rowAt (H ++ R1 ++ [rw_ [.nilslice]] ++ R2) (H ++ R1).length = some ⟨true, false, [.nilslice]⟩ := by rw [rowAt_append_left (by simp)]; simp [Vh.rowAt, rw_]
      rw [x_store1A (r := (H ++ R1).length) (off := 0) (v := v2) (l := [.nilslice]) (by simp only [e_upd, e_putS, e_putN, e_t, e_c, Nat.reduceEqDiff, ↓reduceIte, reduceCtorEq, Nat.reduceAdd]) (by simp only [e_upd, e_putS, e_putN, e_t, e_c, Nat.reduceEqDiff, ↓reduceIte, reduceCtorEq, Nat.reduceAdd]) n2.cell hrow (by simp), List.set_cons_zero]
      simp only [e_thenE, e_tdone, e_putN, e_upd, e_t, e_c, Nat.reduceEqDiff, ↓reduceIte]
      have hB : Base H ((H ++ R1 ++ [rw_ [.nilslice]] ++ R2).set (H ++ R1).length (rw_ [v2])) := (Base.one.app.app).set (by simp)
      obtain ⟨c2, m2⟩ := ((n2.set (q := (H ++ R1).length) (row := rw_ [v2]) (by simp)).normAt (hB.row h7)).at hpb
      exact ⟨hB, ⟨_, v2, c2, rfl, by rw [rowAt_set hlen, if_pos rfl]; rfl, m2⟩, t4, t5, trivial, t7⟩
  · simp only [e_talt1, e_stepN, e_effD2]
    rw [x_allocA hz]
    simp only [e_thenE, e_talt1, e_stepN, e_callD2, e_effD2, e_effD3, e_putS, e_upd, e_t, e_c, Nat.reduceEqDiff, ↓reduceIte, List.map_cons, List.map_nil]
    refine call_in0_0 (Q := UpN ((cnk n k : Nat) : Int)) (choose_up (n := n) (j := k) (by omega) (by omega)) rfl (hk_N fun R1 v1 n1 => ?_)
    have hr1 : Vh.rowAt (H ++ [rw_ [.nilslice]] ++ R1) r7 = some ⟨true, false, [w1, w2]⟩ := Base.one.row (Base.one.row h7)
    obtain ⟨c1, m1⟩ := (n1.normAt hr1).at hcb
    simp only [e_talt1, e_stepN, e_callD3, e_effD2, e_effD3, e_putS, e_upd, e_t, e_c, Nat.reduceEqDiff, ↓reduceIte, List.map_cons, List.map_nil]
    refine call_in2 in_mul rfl (hx.mono (show 64 ≤ 100000 by omega)).app.app (m1.mono (by omega)) (hk_N fun R2 v2 n2 => ?_)
    simp only [e_talt1, e_stepN, e_effD2, e_effD3, e_putS, e_upd, e_t, e_c, Nat.reduceEqDiff, ↓reduceIte]
    have hlen : H.length < (H ++ [rw_ [.nilslice]] ++ R1 ++ R2).length := by simp
    have hrow : Vh.rowAt (H ++ [rw_ [.nilslice]] ++ R1 ++ R2) H.length = some ⟨true, false, [.nilslice]⟩ := by rw [rowAt_append_left (by simp), rowAt_append_left (by simp)]; simp [Vh.rowAt, rw_]
    rw [x_store1A (r := H.length) (off := 0) (v := v2) (l := [.nilslice]) (by simp only [e_upd, e_putS, e_putN, e_t, e_c, Nat.reduceEqDiff, ↓reduceIte, reduceCtorEq, Nat.reduceAdd]) (by simp only [e_upd, e_putS, e_putN, e_t, e_c, Nat.reduceEqDiff, ↓reduceIte, reduceCtorEq, Nat.reduceAdd]) n2.cell hrow (by simp), List.set_cons_zero]
    simp only [e_thenE, e_tdone, e_putN, e_upd, e_t, e_c, Nat.reduceEqDiff, ↓reduceIte]
    have hB : Base H ((H ++ [rw_ [.nilslice]] ++ R1 ++ R2).set H.length (rw_ [v2])) := (Base.one.app.app).set (Nat.le_refl _)
    obtain ⟨c2, m2⟩ := ((n2.set (q := H.length) (row := rw_ [v2]) (by simp)).normAt (hB.row h7)).at hpb
    exact ⟨hB, ⟨_, v2, c2, rfl, by rw [rowAt_set hlen, if_pos rfl]; rfl, m2⟩, t4, t5, trivial, t7⟩
end Go.Proofs.Ythbhljolpnbdlaa.S1


