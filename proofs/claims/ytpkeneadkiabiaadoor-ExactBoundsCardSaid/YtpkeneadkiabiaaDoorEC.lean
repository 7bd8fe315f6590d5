/- Contracts: the reference's row of binomial numbers. -/
import Derived.Test.YtpkeneadkiabiaaDoorVX
import Derived.Test.YtpkeneadkiabiaaDoorEB
import Derived.Test.YtpkeneadkiabiaaDoorCD
set_option linter.unusedSimpArgs false
set_option linter.unusedVariables false
-- NEWSET
namespace Go.Proofs.YtpkeneadkiabiaaDoor
open Go Go.Vh

section
variable {K : St → AHeap → Prop} {d : Option Nat} {s : St} {H : AHeap}
theorem call_small0 {n : Nat} (hn : n ≤ 9223372036854775807) (hK : ∀ w row, row.own = true → row.cells.all AV.flat = true → AtD (H ++ [some row]) w n H.length → w.cell = true → K (putI d s w) (H ++ [some row])) : thenC0 Tryd.prog K d s H [.int .i64 (n : Int)] (.func 109 []) := by
  refine call_do0 (rsmall_calls n hn) [] rfl rfl rfl rfl rfl trivial ?_
  rintro v new ⟨κ2, row, q1, rfl, rfl, q4, q5, q6⟩
  rw [m_merge, m_nil, n_mkS0 (r' := H.length) (by simp [sig]), show ([] ++ [some row] : AHeap).drop ([] : AHeap).length = [some row] from rfl, List.map_cons, List.map_nil, flat_row q6 q4]
  exact hK _ row q4 q6 ⟨κ2, row, q1, by simp, by simp [Vh.rowAt], q5⟩ mkS_cell
/-- A quotient. -/
theorem call_div {x y : Nat} {u v : AV} {a b : Nat} (hy0 : 0 < y) (hx : (Dg.dg x).length ≤ 10000) (hy : (Dg.dg y).length ≤ 10000) (hu : AtD H u x a) (hv : AtD H v y b)
    (hK : ∀ w v2 row, row.own = true → row.cells.all AV.flat = true → AtD (H ++ [some row]) w (x / y) H.length → w.cell = true → K (putI d s (.tuple [w, v2])) (H ++ [some row])) : thenC Tryd.prog K d s H [u, v] (.func 121 []) := by
  obtain ⟨κ, ra, h1, rfl, h3, h4⟩ := hu
  obtain ⟨κ', rb, k1, rfl, k3, k4⟩ := hv
  refine call_cc (da := 0) (db := 0) (rest := []) (rdivide_calls κ κ' x y hy0 h1 k1 hx hy) ints_flat ints_flat rfl h3 k3 (by rw [ints_length, Nat.zero_add]; exact AtD.len (H := H) (v := .any) (r := 0) h4) (by rw [ints_length, Nat.zero_add]; exact AtD.len (H := H) (v := .any) (r := 0) k4) (by rw [List.drop_zero, ints_length, h4]) (by rw [List.drop_zero, ints_length, k4]) rfl ?_
  rintro v0 H0' ⟨κ2, v2, row, q1, rfl, rfl, q4, q5, q6⟩
  rw [n_tuple, n_lcons, n_lcons, n_lnil, n_mkS0 (r' := H.length) (by simp [sig]), show ([ro (ints .i64 (Dg.dg x)), ro (ints .i64 (Dg.dg y))] ++ [some row]).drop 2 = [some row] from rfl, List.map_cons, List.map_nil, flat_row q6 q4]
  exact hK _ _ row q4 q6 ⟨κ2, row, q1, rfl, by simp [Vh.rowAt], q5⟩ mkS_cell
end

/-- Some of a row's numbers. -/
def RowN (H : AHeap) (n k D : Nat) (cells : List AV) : Prop := cells.length = k ∧ ∀ j, j < k → ∃ c r, cells[j]? = some c ∧ c.cell = true ∧ AtD H c (cnk n j) r ∧ r ≠ D
theorem pow2_le {n m : Nat} (h : n ≤ 8 * m) : 2 ^ n ≤ 256 ^ m := by
  have h1 : 2 ^ n ≤ 2 ^ (8 * m) := Nat.pow_le_pow_right (by omega) h
  rw [Nat.pow_mul] at h1
  exact h1
/-- A bound of all binomial numbers here. -/
theorem big_ex : ∃ B : Nat, 0 < B ∧ (∀ x, x ≤ B * 513 → (Dg.dg x).length ≤ 66) ∧ ∀ n k, n ≤ 512 → cnk n k ≤ B := by
  refine ⟨256 ^ 64, Nat.pow_pos (by omega), fun x h => ?_, fun n k hn => ?_⟩
  · refine Dg.dg_len_le (Nat.lt_of_le_of_lt h ?_)
    rw [show 66 = 64 + 2 from rfl, Nat.pow_add 256 64 2]
    have hp : 0 < 256 ^ 64 := Nat.pow_pos (by omega)
    exact Nat.mul_lt_mul_of_pos_left (by omega) hp
  · refine Nat.le_trans (cnk_le n k) ?_
    exact pow2_le (m := 64) (by omega)

end Go.Proofs.YtpkeneadkiabiaaDoor


/- Contracts: the reference's binomial numbers and balls. -/
-- NEWSET
namespace Go.Proofs.YtpkeneadkiabiaaDoor
open Go Go.Vh

theorem bb_db (k : Nat) : BB ^ k = Dg.DB ^ (4 * k) := by
  rw [Int.pow_mul]; rfl
section
variable {K : St → AHeap → Prop} {d : Option Nat} {s : St} {H : AHeap}
end

end Go.Proofs.YtpkeneadkiabiaaDoor

