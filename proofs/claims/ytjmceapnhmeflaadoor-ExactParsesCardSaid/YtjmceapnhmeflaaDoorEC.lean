/- Contracts: the reference's row of binomial numbers. -/
import Derived.Test.YtjmceapnhmeflaaDoorVX
import Derived.Test.YtjmceapnhmeflaaDoorEB
import Derived.Test.YtjmceapnhmeflaaDoorV7
import Derived.Test.YtjmceapnhmeflaaDoorCC
import Derived.Test.YtjmceapnhmeflaaDoorCF
import Derived.Test.YtjmceapnhmeflaaDoorCD
import Derived.Test.YtjmceapnhmeflaaDoorC8
set_option linter.unusedSimpArgs false
set_option linter.unusedVariables false
-- NEWSET
namespace Go.Proofs.YtjmceapnhmeflaaDoor
open Go Go.Vh

section
variable {K : St → AHeap → Prop} {d : Option Nat} {s : St} {H : AHeap}
/-- A quotient. -/
theorem call_div {x y : Nat} {u v : AV} {a b : Nat} (hy0 : 0 < y) (hx : (Dg.dg x).length ≤ 10000) (hy : (Dg.dg y).length ≤ 10000) (hu : AtD H u x a) (hv : AtD H v y b)
    (hK : ∀ w v2 row, row.own = true → row.cells.all AV.flat = true → AtD (H ++ [some row]) w (x / y) H.length → w.cell = true → K (putI d s (.tuple [w, v2])) (H ++ [some row])) : thenC Tryd.prog K d s H [u, v] (.func 121 []) := by
  obtain ⟨κ, ra, h1, rfl, h3, h4⟩ := hu
  obtain ⟨κ', rb, k1, rfl, k3, k4⟩ := hv
  refine call_cc (da := 0) (db := 0) (rest := []) (rdivide_calls κ κ' x y hy0 h1 k1 hx hy) ints_flat ints_flat rfl h3 k3 (by rw [ints_length, Nat.zero_add]; exact AtD.len (H := H) (v := .any) (r := 0) h4) (by rw [ints_length, Nat.zero_add]; exact AtD.len (H := H) (v := .any) (r := 0) k4) (by rw [List.drop_zero, ints_length, h4]) (by rw [List.drop_zero, ints_length, k4]) rfl ?_
  rintro v0 H0' ⟨κ2, v2, row, q1, rfl, rfl, q4, q5, q6⟩
  rw [n_tuple, n_lcons, n_lcons, n_lnil, n_mkS0 (r' := H.length) (by simp [sig]), show ([ro (ints .i64 (Dg.dg x)), ro (ints .i64 (Dg.dg y))] ++ [some row]).drop 2 = [some row] from rfl, List.map_cons, List.map_nil, flat_row q6 q4]
  exact hK _ _ row q4 q6 ⟨κ2, row, q1, rfl, by simp [Vh.rowAt], q5⟩ mkS_cell
end

/-- Some of a row's numbers. -/
def RowN (H : AHeap) (n k D : Nat) (cells : List AV) : Prop := cells.length = k ∧ ∀ j, j < k → ∃ c r, cells[j]? = some c ∧ c.cell = true ∧ AtD H c (cnk n j) r ∧ r ≠ D
end Go.Proofs.YtjmceapnhmeflaaDoor


/- Contracts: the reference's binomial numbers and balls. -/
-- NEWSET
namespace Go.Proofs.YtjmceapnhmeflaaDoor
open Go Go.Vh

theorem pv4 (d : List Int) (b : Nat) : pv d b 4 = d.getD b 0 + 256 * d.getD (b + 1) 0 + 65536 * d.getD (b + 2) 0 + 16777216 * d.getD (b + 3) 0 := by
  simp only [pv, Nat.reduceSub, Nat.sub_zero, Nat.add_zero]
  omega
theorem bb_db (k : Nat) : BB ^ k = Dg.DB ^ (4 * k) := by
  rw [Int.pow_mul]; rfl
theorem nat_nv (d : List Int) (m : Nat) : ∀ k, k ≤ m → nv (natL d m) k = Dg.nv d (4 * k)
  | 0, _ => rfl
  | k + 1, h => by
    have ih := nat_nv d m k (by omega)
    have e : (natL d m).getD k 0 = pv d (4 * k) 4 := by simp [natL, show k < m by omega]
    rw [nv, ih, e, pv4, bb_db, show 4 * (k + 1) = 4 * k + 1 + 1 + 1 + 1 by omega, Dg.nv, Dg.nv, Dg.nv, Dg.nv]
    have e1 : Dg.DB ^ (4 * k + 1) = 256 * Dg.DB ^ (4 * k) := by rw [Int.pow_succ, Int.mul_comm]; rfl
    have e2 : Dg.DB ^ (4 * k + 1 + 1) = 65536 * Dg.DB ^ (4 * k) := by rw [Int.pow_succ, e1, show Dg.DB = 256 from rfl]; omega
    have e3 : Dg.DB ^ (4 * k + 1 + 1 + 1) = 16777216 * Dg.DB ^ (4 * k) := by rw [Int.pow_succ, e2, show Dg.DB = 256 from rfl]; omega
    rw [e1, e2, e3, show 4 * k + 1 + 1 = 4 * k + 2 by omega, show 4 * k + 2 + 1 = 4 * k + 3 by omega]
    generalize Dg.DB ^ (4 * k) = w
    rw [Int.add_mul, Int.add_mul, Int.add_mul, Int.mul_comm 256 (d.getD (4 * k + 1) 0), Int.mul_comm 65536 (d.getD (4 * k + 2) 0), Int.mul_comm 16777216 (d.getD (4 * k + 3) 0), Int.mul_assoc, Int.mul_assoc, Int.mul_assoc]
    omega
/-- The limbs of a number to the base 256. -/
theorem new_nat (x : Nat) : NewNum x (upK (((Dg.dg x).length + 3) / 4)) (natL (Dg.dg x) (((Dg.dg x).length + 3) / 4)) ⟨true, true, ints .u32 (natL (Dg.dg x) (((Dg.dg x).length + 3) / 4))⟩ := by
  have hd := Dg.dg_dl x
  have hn := Dg.dg_num x
  have hlast := Dg.dg_last x
  generalize hdd : Dg.dg x = d at *
  obtain ⟨m, hm⟩ : ∃ m, m = (d.length + 3) / 4 := ⟨_, rfl⟩
  rw [← hm]
  have hl := natL_length d m
  refine ⟨by rw [hl]; unfold upK; split <;> simp_all [okS], fun i => ?_, ?_, ?_, rfl, by rw [← ints_length (k := .u32) (l := natL d m), List.take_length], ints_flat⟩
  · rcases Nat.lt_or_ge i m with h | h
    · have e : (natL d m).getD i 0 = pv d (4 * i) 4 := by simp [natL, h]
      rw [e]; exact pv_small hd (4 * i) 4 (Nat.le_refl _)
    · rw [List.getD_eq_getElem?_getD, List.getElem?_eq_none (by rw [hl]; exact h)]; simp
  · rw [hl]
    refine tz_uniq _ _ _ (Nat.le_refl _) (fun h0 => ?_) fun i h1 h2 => by omega
    have hx : 0 < x := by
      rcases Nat.eq_zero_or_pos x with h | h
      · subst h; rw [Dg.dg_zero] at hdd; subst hdd; simp at hm; omega
      · exact h
    have hz := hlast hx
    have e : (natL d m).getD (m - 1) 0 = pv d (4 * (m - 1)) 4 := by simp [natL, show m - 1 < m by omega]
    rw [e, pv4]
    have g0 := hd (4 * (m - 1))
    have g1 := hd (4 * (m - 1) + 1)
    have g2 := hd (4 * (m - 1) + 2)
    have g3 := hd (4 * (m - 1) + 3)
    rcases (show d.length - 1 = 4 * (m - 1) ∨ d.length - 1 = 4 * (m - 1) + 1 ∨ d.length - 1 = 4 * (m - 1) + 2 ∨ d.length - 1 = 4 * (m - 1) + 3 by omega) with h | h | h | h <;> rw [h] at hz <;> omega
  · simp only [num, hl]
    rw [nat_nv d m m (Nat.le_refl _), Dg.nv_long d (by omega)]
    exact hn

section
variable {K : St → AHeap → Prop} {d : Option Nat} {s : St} {H : AHeap}
/-- The number, out of its digits. -/
theorem call_nat {x a : Nat} {u : AV} (hx : (Dg.dg x).length ≤ 1000000) (hu : AtD H u x a) (h0 : x = 0 → K (putI d s .nilslice) H)
    (h1 : 0 < x → ∀ κ l row, NewNum x κ l row → K (putI d s (mkS κ H.length 0 l.length)) (H ++ [some row])) : thenC Tryd.prog K d s H [u] (.func 62 []) := by
  obtain ⟨κ, ra, k1, rfl, k3, k4⟩ := hu
  refine call_ints (κ := κ) (l := Dg.dg x) (r := a) (row := ra) (rnat_calls κ (Dg.dg x) k1 hx (Dg.dg_dl x)) rfl k3 k4 rfl ?_
  rintro v0 H0' ⟨rfl, rfl⟩
  have hnew := new_nat x
  rcases Nat.eq_zero_or_pos x with h | h
  · subst h
    have := h0 rfl
    rw [Dg.dg_zero]
    simpa [upK, mkS, AV.ren] using this
  · have hp : 0 < (Dg.dg x).length := by rw [Dg.dg_pos h]; simp
    rw [if_neg (by omega), show ([ro (ints .i64 (Dg.dg x)), sl (ints .u32 (natL (Dg.dg x) (((Dg.dg x).length + 3) / 4)))] : AHeap).drop 1 = [sl (ints .u32 (natL (Dg.dg x) (((Dg.dg x).length + 3) / 4)))] from rfl, List.map_cons, List.map_nil, m_renSl, ints_ren, n_mkS0 (r' := H.length) (by simp [sig])]
    have := h1 h _ _ _ hnew
    rw [natL_length] at this
    exact this
end

end Go.Proofs.YtjmceapnhmeflaaDoor


/- Contracts: numbers compared with the reference's; ExactCounts' walk. -/
-- NEWSET
namespace Go.Proofs.YtjmceapnhmeflaaDoor
open Go Go.Vh

def eX (n : Int) : Int := if 0 ≤ n ∧ n ≤ 512 then 0 else 3
theorem lnum_calls (κ κ' : SK) (l : List Int) (e : Int) (hk : okS κ l.length) (hk' : okS κ' l.length) (hm : l.length ≤ 1000000) : ACalls Tryd.prog 21 [mkS κ 0 0 l.length, .int .i64 e, mkS κ' 1 0 l.length, .int .i64 e] [ro (ints .u32 l), ro (ints .u32 l)] (List.range 2) fun v H => v = .bool true ∧ H = [ro (ints .u32 l), ro (ints .u32 l)] := by
  refine ACalls.body Tryd.func21 ent_lnum ir_lnum_ok rs_lnum_ok Tryd.ntmps21 (by simp) rfl ?_
  unfold ir_lnum
  have e0 : s0 [mkS κ 0 0 l.length, .int .i64 e, mkS κ' 1 0 l.length, .int .i64 e] 0 = mkS κ 0 0 l.length := rfl
  have e1 : s0 [mkS κ 0 0 l.length, .int .i64 e, mkS κ' 1 0 l.length, .int .i64 e] 1 = .int .i64 e := rfl
  have e2 : s0 [mkS κ 0 0 l.length, .int .i64 e, mkS κ' 1 0 l.length, .int .i64 e] 2 = mkS κ' 1 0 l.length := rfl
  have e3 : s0 [mkS κ 0 0 l.length, .int .i64 e, mkS κ' 1 0 l.length, .int .i64 e] 3 = .int .i64 e := rfl
  simp (disch := omega) only [sN, ↓reduceIte, Nat.reduceEqDiff, Nat.reduceAdd, Nat.reduceMul, Nat.reduceSub, reduceCtorEq, e_none, e_some, e_bindS, e0, e1, e2, e3, beq_self_eq_true]
  refine call_rsame (κ := κ) (κ' := κ') (a := 0) (b := 1) (l := l) (l' := l) rfl rfl hk hk' (by omega) (by omega) (ra := ⟨false, false, ints .u32 l⟩) rfl (by rw [← ints_length (k := .u32) (l := l), List.take_length]) (rb := ⟨false, false, ints .u32 l⟩) rfl (by rw [← ints_length (k := .u32) (l := l), List.take_length]) ?_
  simp (disch := omega) only [sN, ↓reduceIte, Nat.reduceEqDiff, Nat.reduceAdd, Nat.reduceMul, Nat.reduceSub, reduceCtorEq, e_none, e_some, e_bindS, decide_true]
  exact ret_keep (by simp) ⟨by simp only [e_upd, e_putS, e_putN, e_t, e_c, Nat.reduceEqDiff, ↓reduceIte, reduceCtorEq, Nat.reduceAdd], rfl⟩

section
variable {K : St → AHeap → Prop} {d : Option Nat} {s : St} {H : AHeap}
end

end Go.Proofs.YtjmceapnhmeflaaDoor

