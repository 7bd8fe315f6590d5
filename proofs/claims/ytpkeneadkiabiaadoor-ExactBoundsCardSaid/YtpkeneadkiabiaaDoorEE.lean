/- Contracts: the reference's ways, on top of any heap. -/
import Derived.Test.YtpkeneadkiabiaaDoorVX
import Derived.Test.YtpkeneadkiabiaaDoorED
import Derived.Test.YtpkeneadkiabiaaDoorFH
import Derived.Test.YtpkeneadkiabiaaDoorEC
import Derived.Test.YtpkeneadkiabiaaDoorFG
import Derived.Test.YtpkeneadkiabiaaDoorIrC
set_option linter.unusedSimpArgs false
set_option linter.unusedVariables false
-- NEWSET
namespace Go.Proofs.YtpkeneadkiabiaaDoor
open Go Go.Vh

theorem dg_len_pow {x n m : Nat} (hx : x ≤ 2 ^ n) (hn : n < 8 * m) : (Dg.dg x).length ≤ m := by
  refine Dg.dg_len_le (Nat.lt_of_le_of_lt hx ?_)
  have : 2 ^ n < 2 ^ (8 * m) := Nat.pow_lt_pow_right (by omega) hn
  rwa [Nat.pow_mul] at this
theorem tN_dg {b g k i : Nat} (h : b + g ≤ 512) : (Dg.dg (tN b g k i)).length ≤ 100 := dg_len_pow tN_le (by omega)
theorem cnk_dg {n k : Nat} (h : n ≤ 512) : (Dg.dg (cnk n k)).length ≤ 100 := dg_len_pow (cnk_le n k) (by omega)
theorem sumT_dg {b g k m : Nat} (h : b + g ≤ 512) (hm : m ≤ 1000) : (Dg.dg (sumT b g k m)).length ≤ 100 := by
  have h1 := sumT_le (b := b) (g := g) (k := k) m
  have h3 : m * 2 ^ (b + g) ≤ 2 ^ 10 * 2 ^ (b + g) := Nat.mul_le_mul_right _ (by omega)
  rw [← Nat.pow_add] at h3
  exact dg_len_pow (Nat.le_trans h1 h3) (by omega)
theorem AtD.zero {H : AHeap} {r : Nat} {row : ARow} (h : Vh.rowAt H r = some row) : AtD H .nilslice 0 r := ⟨.nil, row, by rw [Dg.dg_zero]; rfl, rfl, h, by rw [Dg.dg_zero]; rfl⟩

/-- ... in a row of one's own. -/
def AtO (H : AHeap) (v : AV) (n r : Nat) : Prop := AtD H v n r ∧ ∃ row, Vh.rowAt H r = some row ∧ row.own = true
theorem AtO.base {H H' : AHeap} {v : AV} {n r : Nat} (h : AtO H v n r) (hb : Base H H') : AtO H' v n r := by
  obtain ⟨h1, row, h2, h3⟩ := h
  exact ⟨h1.base hb, row, hb.row h2, h3⟩

set_option maxHeartbeats 1000000 in
theorem rwaysO_calls (H0 : AHeap) (b g k : Nat) (seen : Int) (hbg : b + g ≤ 512) (hk : k ≤ b + g) (hs0 : -9223372036854775808 ≤ seen) (hs1 : seen ≤ 9223372036854775807) :
    ACalls Tryd.prog 100 [.int .i64 ((b + g : Nat) : Int), .int .i64 (b : Int), .int .i64 (k : Int), .int .i64 seen] H0 (List.range H0.length) fun v H => Base H0 H ∧ ∃ r, AtO H v (wN b g k seen) r := by
  refine ACalls.body Tryd.func100 ent_rways ir_rways_ok rs_rways_ok Tryd.ntmps100 (by simp) rfl ?_
  unfold ir_rways
  have e0 : s0 [.int .i64 ((b + g : Nat) : Int), .int .i64 (b : Int), .int .i64 (k : Int), .int .i64 seen] 0 = .int .i64 ((b + g : Nat) : Int) := rfl
  have e1 : s0 [.int .i64 ((b + g : Nat) : Int), .int .i64 (b : Int), .int .i64 (k : Int), .int .i64 seen] 1 = .int .i64 (b : Int) := rfl
  have e2 : s0 [.int .i64 ((b + g : Nat) : Int), .int .i64 (b : Int), .int .i64 (k : Int), .int .i64 seen] 2 = .int .i64 (k : Int) := rfl
  have e3 : s0 [.int .i64 ((b + g : Nat) : Int), .int .i64 (b : Int), .int .i64 (k : Int), .int .i64 seen] 3 = .int .i64 seen := rfl
  have hgood : ((b + g : Nat) : Int) - (b : Int) = (g : Int) := by omega
  simp (disch := omega) only [sN, ↓reduceIte, Nat.reduceEqDiff, Nat.reduceAdd, Nat.reduceMul, Nat.reduceSub, reduceCtorEq, e_none, e_some, e_bindS, e0, e1, e2, e3, List.map_cons, List.map_nil]
  refine ⟨_, (rrowB_calls H0 b (by omega)).g.mono ?_⟩
  rintro v1 H1 ⟨D1, c1, rfl, rD1, hR1, hB1, hD1⟩
  simp (disch := omega) only [sN, ↓reduceIte, Nat.reduceEqDiff, Nat.reduceAdd, Nat.reduceMul, Nat.reduceSub, reduceCtorEq, e_none, e_some, e_bindS, e0, e1, e2, e3, hgood, List.map_cons, List.map_nil]
  refine ⟨_, (rrowB_calls H1 g (by omega)).g.mono ?_⟩
  rintro v2 H2 ⟨D2, c2, rfl, rD2, hR2, hB2, hD2⟩
  simp (disch := omega) only [sN, ↓reduceIte, Nat.reduceEqDiff, Nat.reduceAdd, Nat.reduceMul, Nat.reduceSub, reduceCtorEq, e_none, e_some, e_bindS, e0, e1, e2, e3]
  refine ⟨fun t s H => ∃ (i : Nat) (ws : AV) (rs : Nat), i ≤ b + 1 ∧ i ≤ k + 1 ∧ (i : Int) ≤ max 0 (seen + 1) ∧ t = b + 1 - i ∧ Base H2 H ∧ AtO H ws (sumT b g k i) rs ∧ s 0 = .int .i64 ((b + g : Nat) : Int) ∧ s 1 = .int .i64 (b : Int) ∧ s 2 = .int .i64 (k : Int) ∧ s 3 = .int .i64 seen ∧ s 9 = dblS D1 (b + 1) ∧ s 10 = dblS D2 (g + 1) ∧ s 11 = ws ∧ s 12 = .int .i64 (i : Int), b + 1, ⟨0, .nilslice, D2, by omega, by omega, by omega, rfl, Base.refl, ⟨AtD.zero rD2, _, rD2, rfl⟩, ?_, ?_, ?_, ?_, ?_, ?_, ?_, ?_⟩, ?_⟩
  · simp only [e_upd, e_putS, e_putN, e_t, e_c, Nat.reduceEqDiff, ↓reduceIte, reduceCtorEq, Nat.reduceAdd, e0]
  · simp only [e_upd, e_putS, e_putN, e_t, e_c, Nat.reduceEqDiff, ↓reduceIte, reduceCtorEq, Nat.reduceAdd, e1]
  · simp only [e_upd, e_putS, e_putN, e_t, e_c, Nat.reduceEqDiff, ↓reduceIte, reduceCtorEq, Nat.reduceAdd, e2]
  · simp only [e_upd, e_putS, e_putN, e_t, e_c, Nat.reduceEqDiff, ↓reduceIte, reduceCtorEq, Nat.reduceAdd, e3]
  · simp only [e_upd, e_putS, e_putN, e_t, e_c, Nat.reduceEqDiff, ↓reduceIte, reduceCtorEq, Nat.reduceAdd]
  · simp only [e_upd, e_putS, e_putN, e_t, e_c, Nat.reduceEqDiff, ↓reduceIte, reduceCtorEq, Nat.reduceAdd]
  · simp only [e_upd, e_putS, e_putN, e_t, e_c, Nat.reduceEqDiff, ↓reduceIte, reduceCtorEq, Nat.reduceAdd]
  · simp only [e_upd, e_putS, e_putN, e_t, e_c, Nat.reduceEqDiff, ↓reduceIte, reduceCtorEq, Nat.reduceAdd]; rfl
  rintro t s H ⟨i, ws, rs, hi1, hi2, hi3, rfl, hB, hws, t0, t1, t2, t3, t9, t10, t11, t12⟩
  have fin : ¬ ((i : Int) ≤ seen ∧ i ≤ b ∧ i ≤ k) → wN b g k seen = sumT b g k i := by
    intro hc
    unfold wN
    rcases Int.lt_or_le seen (i : Int) with h | h
    · rw [show (seen + 1).toNat = i by omega]
    · exact sumT_high (by omega) (by omega)
  by_cases q1 : (i : Int) ≤ seen
  · by_cases q2 : i ≤ b
    · by_cases q3 : i ≤ k
      · have q2' : (i : Int) ≤ (b : Int) := by omega
        have q3' : (i : Int) ≤ (k : Int) := by omega
        by_cases q4 : k ≤ g + i
        · have i1 : (k : Int) - (i : Int) = ((k - i : Nat) : Int) := by omega
          have hi9 := dblS_idx (D := D1) (k := b + 1) (j := i) (by omega)
          have hi10 := dblS_idx (D := D2) (k := g + 1) (j := k - i) (by omega)
          obtain ⟨x1, r1, a1, a2, a3, a4⟩ := hR1.2 i (by omega)
          obtain ⟨x2, r2, b1, b2, b3, b4⟩ := hR2.2 (k - i) (by omega)
          have eD1 : Vh.rowAt H D1 = some ⟨true, decide (b + 1 ≠ 1), c1⟩ := hB.row (hB2.row rD1)
          have eD2 : Vh.rowAt H D2 = some ⟨true, decide (g + 1 ≠ 1), c2⟩ := hB.row rD2
          have hT : cnk b i * cnk g (k - i) = tN b g k i := by unfold tN; rw [if_pos q3]
          have hS : sumT b g k i + tN b g k i = sumT b g k (i + 1) := rfl
          simp (disch := omega) only [sN, ↓reduceIte, Nat.reduceEqDiff, Nat.reduceAdd, Nat.reduceMul, Nat.reduceSub, reduceCtorEq, e_none, e_some, e_bindS, t0, t1, t2, t3, t9, t10, t11, t12, i1, hgood, hi9, hi10, eD1, eD2, a1, b1, Option.bind_some, Option.map_some, List.map_cons, List.map_nil]
          refine call_mul (Nat.le_trans (cnk_dg (by omega)) (by omega)) (Nat.le_trans (cnk_dg (by omega)) (by omega)) ((a3.base hB2).base hB) (b3.base hB) ?_
          intro w4 row4 o4 f4 a4 c4
          rw [hT] at a4
          simp (disch := omega) only [sN, ↓reduceIte, Nat.reduceEqDiff, Nat.reduceAdd, Nat.reduceMul, Nat.reduceSub, reduceCtorEq, e_none, e_some, e_bindS, t0, t1, t2, t3, t9, t10, t11, t12, List.map_cons, List.map_nil]
          refine call_add (Nat.le_trans (sumT_dg hbg (by omega)) (by omega)) (Nat.le_trans (tN_dg hbg) (by omega)) (hws.1.base Base.one) a4 ?_
          intro w5 row5 o5 f5 a5 c5
          rw [hS] at a5
          simp (disch := omega) only [sN, ↓reduceIte, Nat.reduceEqDiff, Nat.reduceAdd, Nat.reduceMul, Nat.reduceSub, reduceCtorEq, e_none, e_some, e_bindS, t0, t1, t2, t3, t9, t10, t11, t12]
          refine loop_keep (m := b + 1 - (i + 1)) (by omega) ⟨i + 1, w5, _, by omega, by omega, by omega, rfl, hB.app.app, ⟨a5, row5, by simp [Vh.rowAt], o5⟩, ?_, ?_, ?_, ?_, ?_, ?_, ?_, ?_⟩
          · simp only [e_upd, e_putS, e_putN, e_t, e_c, Nat.reduceEqDiff, ↓reduceIte, reduceCtorEq, Nat.reduceAdd, t0]
          · simp only [e_upd, e_putS, e_putN, e_t, e_c, Nat.reduceEqDiff, ↓reduceIte, reduceCtorEq, Nat.reduceAdd, t1]
          · simp only [e_upd, e_putS, e_putN, e_t, e_c, Nat.reduceEqDiff, ↓reduceIte, reduceCtorEq, Nat.reduceAdd, t2]
          · simp only [e_upd, e_putS, e_putN, e_t, e_c, Nat.reduceEqDiff, ↓reduceIte, reduceCtorEq, Nat.reduceAdd, t3]
          · simp only [e_upd, e_putS, e_putN, e_t, e_c, Nat.reduceEqDiff, ↓reduceIte, reduceCtorEq, Nat.reduceAdd, t9]
          · simp only [e_upd, e_putS, e_putN, e_t, e_c, Nat.reduceEqDiff, ↓reduceIte, reduceCtorEq, Nat.reduceAdd, t10]
          · simp only [e_upd, e_putS, e_putN, e_t, e_c, Nat.reduceEqDiff, ↓reduceIte, reduceCtorEq, Nat.reduceAdd]
          · simp only [e_upd, e_putS, e_putN, e_t, e_c, Nat.reduceEqDiff, ↓reduceIte, reduceCtorEq, Nat.reduceAdd]; first | done | rfl
        · have q4' : ¬ ((k : Int) - (i : Int) ≤ (g : Int)) := by omega
          have hS : sumT b g k i = sumT b g k (i + 1) := by rw [sumT, tN_low (by omega), Nat.add_zero]
          rw [hS] at hws
          simp (disch := omega) only [sN, ↓reduceIte, Nat.reduceEqDiff, Nat.reduceAdd, Nat.reduceMul, Nat.reduceSub, reduceCtorEq, e_none, e_some, e_bindS, t0, t1, t2, t3, t9, t10, t11, t12, hgood]
          refine loop_keep (m := b + 1 - (i + 1)) (by omega) ⟨i + 1, ws, rs, by omega, by omega, by omega, rfl, hB, hws, ?_, ?_, ?_, ?_, ?_, ?_, ?_, ?_⟩
          · simp only [e_upd, e_putS, e_putN, e_t, e_c, Nat.reduceEqDiff, ↓reduceIte, reduceCtorEq, Nat.reduceAdd, t0]
          · simp only [e_upd, e_putS, e_putN, e_t, e_c, Nat.reduceEqDiff, ↓reduceIte, reduceCtorEq, Nat.reduceAdd, t1]
          · simp only [e_upd, e_putS, e_putN, e_t, e_c, Nat.reduceEqDiff, ↓reduceIte, reduceCtorEq, Nat.reduceAdd, t2]
          · simp only [e_upd, e_putS, e_putN, e_t, e_c, Nat.reduceEqDiff, ↓reduceIte, reduceCtorEq, Nat.reduceAdd, t3]
          · simp only [e_upd, e_putS, e_putN, e_t, e_c, Nat.reduceEqDiff, ↓reduceIte, reduceCtorEq, Nat.reduceAdd, t9]
          · simp only [e_upd, e_putS, e_putN, e_t, e_c, Nat.reduceEqDiff, ↓reduceIte, reduceCtorEq, Nat.reduceAdd, t10]
          · simp only [e_upd, e_putS, e_putN, e_t, e_c, Nat.reduceEqDiff, ↓reduceIte, reduceCtorEq, Nat.reduceAdd, t11]
          · simp only [e_upd, e_putS, e_putN, e_t, e_c, Nat.reduceEqDiff, ↓reduceIte, reduceCtorEq, Nat.reduceAdd]; first | done | rfl
      · simp (disch := omega) only [sN, ↓reduceIte, Nat.reduceEqDiff, Nat.reduceAdd, Nat.reduceMul, Nat.reduceSub, reduceCtorEq, e_none, e_some, e_bindS, t0, t1, t2, t3, t9, t10, t11, t12]
        refine ret_keep (Nat.le_trans (hB1.trans hB2).1 hB.1) ⟨(hB1.trans hB2).trans hB, rs, ?_⟩
        rw [fin (by omega)]
        simp only [e_upd, e_putS, e_putN, e_t, e_c, Nat.reduceEqDiff, ↓reduceIte, reduceCtorEq, Nat.reduceAdd]; exact hws
    · simp (disch := omega) only [sN, ↓reduceIte, Nat.reduceEqDiff, Nat.reduceAdd, Nat.reduceMul, Nat.reduceSub, reduceCtorEq, e_none, e_some, e_bindS, t0, t1, t2, t3, t9, t10, t11, t12]
      refine ret_keep (Nat.le_trans (hB1.trans hB2).1 hB.1) ⟨(hB1.trans hB2).trans hB, rs, ?_⟩
      rw [fin (by omega)]
      simp only [e_upd, e_putS, e_putN, e_t, e_c, Nat.reduceEqDiff, ↓reduceIte, reduceCtorEq, Nat.reduceAdd]; exact hws
  · simp (disch := omega) only [sN, ↓reduceIte, Nat.reduceEqDiff, Nat.reduceAdd, Nat.reduceMul, Nat.reduceSub, reduceCtorEq, e_none, e_some, e_bindS, t0, t1, t2, t3, t9, t10, t11, t12]
    refine ret_keep (Nat.le_trans (hB1.trans hB2).1 hB.1) ⟨(hB1.trans hB2).trans hB, rs, ?_⟩
    rw [fin (by omega)]
    simp only [e_upd, e_putS, e_putN, e_t, e_c, Nat.reduceEqDiff, ↓reduceIte, reduceCtorEq, Nat.reduceAdd]; exact hws
end Go.Proofs.YtpkeneadkiabiaaDoor


/- Contracts: the reference's gcd and reduced, on top of any heap. -/
-- NEWSET
namespace Go.Proofs.YtpkeneadkiabiaaDoor
open Go Go.Vh

section
variable {K : St → AHeap → Prop} {d : Option Nat} {s : St} {H : AHeap}
theorem dg_fits {n k : Nat} : (Dg.dg n).length ≤ 4 * k ↔ (n : Int) < BB ^ k := by
  have e : BB ^ k = ((256 ^ (4 * k) : Nat) : Int) := by rw [bb_db, Int.natCast_pow]; rfl
  rw [e]
  constructor
  · intro h
    have := Nat.lt_of_lt_of_le (Dg.dg_lt n) (Nat.pow_le_pow_right (n := 256) (by omega) h)
    omega
  · intro h
    exact Dg.dg_len_le (by omega)
end
end Go.Proofs.YtpkeneadkiabiaaDoor


/- Contracts: the reference's reduced, as a whole. -/
-- NEWSET
namespace Go.Proofs.YtpkeneadkiabiaaDoor
open Go Go.Vh

section
variable {K : St → AHeap → Prop} {d : Option Nat} {s : St} {H : AHeap}
end
end Go.Proofs.YtpkeneadkiabiaaDoor

