/- Contracts: exact's samplesWith, its walk. -/
import Derived.Test.YthbhljolpnbdlaaVX
import Derived.Test.YthbhljolpnbdlaaPF
set_option linter.unusedSimpArgs false
set_option linter.unusedVariables false
-- NEWSET
namespace Go.Proofs.Ythbhljolpnbdlaa.S1
open Go Go.Vh

theorem b_mulN {a b c : Nat} {x y : Int} (hx : x = (a : Int)) (hy : y = (b : Int)) (h : a * b = c) (hc : c ≤ 9223372036854775807) : abin .mul (.int .i64 x) (.int .i64 y) = some (.int .i64 (c : Int)) := by
  subst hx; subst hy; subst h
  rw [b_mul, w64 (by rw [← Int.natCast_mul]; omega) (by rw [← Int.natCast_mul]; omega), Int.natCast_mul]

section
variable {f : FuncId} {x y z : Int} {k k' m m' n0 : Nat} {u v : AV} {K : St → AHeap → Prop} {d : Option Nat} {s : St} {H : AHeap} {L : List (AV × Int × Nat)}
theorem hs_NV (h : In2 f x y k k' [] (UpN z)) (hL : Has n0 H L) (hu : (u, x, m) ∈ L) (hv : (v, y, m') ∈ L) (hm : m ≤ k) (hm' : m' ≤ k') {b : Nat} (hb : z < BB ^ b) (hK : ∀ H' w, Has n0 H' ((w, z, b) :: L) → NumV H' w z 0 → K (putI d s w) H') : thenC Try.prog K d s H [u, v] (.func f []) := by
  obtain ⟨a, ha⟩ := hL.nums _ hu
  obtain ⟨a', ha'⟩ := hL.nums _ hv
  refine call_in2 h rfl (ha.mono hm) (ha'.mono hm') (hk_N fun R w hw => ?_)
  exact hK _ _ (hL.app.cons hw hb) (hw.le (Nat.zero_le _))
theorem Has.sub {L' : List (AV × Int × Nat)} (h : Has n0 H L) (hs : ∀ p ∈ L', p ∈ L) : Has n0 H L' := ⟨h.len, h.z, fun p hp => h.nums p (hs p hp)⟩
end

set_option maxHeartbeats 1000000 in
theorem samplesWith_calls (b g k : Nat) (seen : Int) (hbg : b + g ≤ 512) (hk : k ≤ b + g) (hs0 : -9223372036854775808 ≤ seen) (hs1 : seen ≤ 9223372036854775807) :
    ACalls Try.prog 115 [.int .i64 ((b + g : Nat) : Int), .int .i64 (b : Int), .int .i64 (k : Int), .int .i64 seen] [] (List.range 0) (UpN ((wN b g k seen : Nat) : Int) []) := by
  refine ACalls.body Try.func115 ent_samplesWith ir_samplesWith_ok rs_samplesWith_ok Try.ntmps115 (by simp) rfl ?_
  unfold ir_samplesWith
  have e0 : s0 [.int .i64 ((b + g : Nat) : Int), .int .i64 (b : Int), .int .i64 (k : Int), .int .i64 seen] 0 = .int .i64 ((b + g : Nat) : Int) := rfl
  have e1 : s0 [.int .i64 ((b + g : Nat) : Int), .int .i64 (b : Int), .int .i64 (k : Int), .int .i64 seen] 1 = .int .i64 (b : Int) := rfl
  have e2 : s0 [.int .i64 ((b + g : Nat) : Int), .int .i64 (b : Int), .int .i64 (k : Int), .int .i64 seen] 2 = .int .i64 (k : Int) := rfl
  have e3 : s0 [.int .i64 ((b + g : Nat) : Int), .int .i64 (b : Int), .int .i64 (k : Int), .int .i64 seen] 3 = .int .i64 seen := rfl
  have hgood : ((b + g : Nat) : Int) - (b : Int) = (g : Int) := by omega
  simp -implicitDefEqProofs (disch := omega) only [sN, ↓reduceIte, Nat.reduceEqDiff, Nat.reduceAdd, Nat.reduceMul, Nat.reduceSub, reduceCtorEq, e_none, e_some, e_bindS, e0, e1, e2, e3, hgood]
  obtain ⟨lo, hlo⟩ : ∃ lo : Nat, k - g = lo := ⟨_, rfl⟩
  rw [p_minmax (k := .i64) (k' := .i64) (a := 0) (b := (k : Int) - (g : Int)) (by simp only [e_upd, e_putS, e_putN, e_t, e_c, Nat.reduceEqDiff, ↓reduceIte, reduceCtorEq, Nat.reduceAdd]) (by simp only [e_upd, e_putS, e_putN, e_t, e_c, Nat.reduceEqDiff, ↓reduceIte, reduceCtorEq, Nat.reduceAdd])]
  have hmax : (if true = true then (if (k : Int) - (g : Int) > 0 then (k : Int) - (g : Int) else 0) else (if (k : Int) - (g : Int) < 0 then (k : Int) - (g : Int) else 0)) = (lo : Int) := by
    simp only [if_true]
    split <;> omega
  rw [hmax]
  simp -implicitDefEqProofs (disch := omega) only [sN, ↓reduceIte, Nat.reduceEqDiff, Nat.reduceAdd, Nat.reduceMul, Nat.reduceSub, reduceCtorEq, e_none, e_some, e_bindS, e0, e1, e2, e3]
  rw [p_min3 (a := seen) (b := (b : Int)) (c := (k : Int)) (by simp only [e_upd, e_putS, e_putN, e_t, e_c, Nat.reduceEqDiff, ↓reduceIte, reduceCtorEq, Nat.reduceAdd]) (by simp only [e_upd, e_putS, e_putN, e_t, e_c, Nat.reduceEqDiff, ↓reduceIte, reduceCtorEq, Nat.reduceAdd]) (by simp only [e_upd, e_putS, e_putN, e_t, e_c, Nat.reduceEqDiff, ↓reduceIte, reduceCtorEq, Nat.reduceAdd])]
  obtain ⟨mo, hmo⟩ : ∃ mo : Int, min seen (min (b : Int) (k : Int)) = mo := ⟨_, rfl⟩
  rw [hmo]
  by_cases hlt : mo < (lo : Int)
  · simp -implicitDefEqProofs (disch := omega) only [sN, ↓reduceIte, Nat.reduceEqDiff, Nat.reduceAdd, Nat.reduceMul, Nat.reduceSub, reduceCtorEq, e_none, e_some, e_bindS]
    refine ret_keep (by simp) ⟨[], rfl, ?_⟩
    have hz : wN b g k seen = 0 := by
      rcases Int.lt_or_le seen 0 with h | h
      · unfold wN; rw [show (seen + 1).toNat = 0 by omega]; rfl
      · rw [wN_most h, hmo]
        exact sumT_low (by omega)
    rw [hz]
    simp only [q_tmp, q_then, e_upd, e_putS, e_putN, e_t, e_c, Nat.reduceEqDiff, ↓reduceIte, reduceCtorEq, Nat.reduceAdd]
    exact .nil
  · have hs : 0 ≤ seen := by omega
    have hw := wN_most (b := b) (g := g) (k := k) hs
    rw [hmo] at hw
    obtain ⟨m, rfl⟩ : ∃ m : Nat, mo = m := ⟨mo.toNat, by omega⟩
    rw [show (m : Int).toNat.succ = m + 1 by simp] at hw
    have i1 : (k : Int) - (lo : Int) = ((k - lo : Nat) : Int) := by omega
    simp -implicitDefEqProofs (disch := omega) only [sN, ↓reduceIte, Nat.reduceEqDiff, Nat.reduceAdd, Nat.reduceMul, Nat.reduceSub, reduceCtorEq, e_none, e_some, e_bindS, e0, e1, e2, e3, i1, List.map_cons, List.map_nil]
    refine hs_choose0 (n := b) (j := lo) (by omega) (by omega) ?_
    intro H1 w1 h1
    simp -implicitDefEqProofs (disch := omega) only [sN, ↓reduceIte, Nat.reduceEqDiff, Nat.reduceAdd, Nat.reduceMul, Nat.reduceSub, reduceCtorEq, e_none, e_some, e_bindS, e0, e1, e2, e3, i1, List.map_cons, List.map_nil]
    refine hs_choose (n := g) (j := k - lo) (by omega) (by omega) h1 ?_
    intro H2 w2 h2
    simp -implicitDefEqProofs (disch := omega) only [sN, ↓reduceIte, Nat.reduceEqDiff, Nat.reduceAdd, Nat.reduceMul, Nat.reduceSub, reduceCtorEq, e_none, e_some, e_bindS, e0, e1, e2, e3, i1, List.map_cons, List.map_nil]
    have hT : ((cnk b lo : Nat) : Int) * ((cnk g (k - lo) : Nat) : Int) = ((tN b g k lo : Nat) : Int) := by
      unfold tN; rw [if_pos (by omega)]; simp
    have htb : ∀ i, ((tN b g k i : Nat) : Int) < BB ^ 17 := fun i => pow_bb tN_le (by omega)
    refine hs_NV in_mul h2 (.tail _ (.head _)) (.head _) (by omega) (by omega) (b := 17) (by rw [hT]; exact htb lo) ?_
    intro H3 w3 h3 n3
    rw [hT] at h3 n3
    simp -implicitDefEqProofs (disch := omega) only [sN, ↓reduceIte, Nat.reduceEqDiff, Nat.reduceAdd, Nat.reduceMul, Nat.reduceSub, reduceCtorEq, e_none, e_some, e_bindS, e0, e1, e2, e3]
    refine ⟨fun t s H => ∃ (i : Nat) (wc ws : AV), lo ≤ i ∧ i ≤ m ∧ t = m - i ∧ Has 0 H [(wc, ((tN b g k i : Nat) : Int), 17), (ws, ((sumT b g k (i + 1) : Nat) : Int), 17)] ∧ NumV H ws ((sumT b g k (i + 1) : Nat) : Int) 0 ∧ s 1 = .int .i64 (b : Int) ∧ s 2 = .int .i64 (k : Int) ∧ s 9 = .int .i64 (g : Int) ∧ s 11 = .int .i64 (m : Int) ∧ s 12 = wc ∧ s 13 = ws ∧ s 14 = .int .i64 (i : Int), m - lo, ⟨lo, w3, w3, by omega, by omega, rfl, ?_, ?_, ?_, ?_, ?_, ?_, ?_, ?_, ?_⟩, ?_⟩
    · have hs3 : sumT b g k (lo + 1) = tN b g k lo := by
        rw [sumT]
        rcases Nat.lt_or_ge k g with h | h
        · rw [show lo = 0 by omega]; simp [sumT]
        · rw [sumT_low (by omega), Nat.zero_add]
      rw [hs3]
      exact h3.sub fun p hp => by
        simp only [List.mem_cons, List.not_mem_nil, or_false] at hp
        rcases hp with rfl | rfl <;> exact .head _
    · have hs3 : sumT b g k (lo + 1) = tN b g k lo := by
        rw [sumT]
        rcases Nat.lt_or_ge k g with h | h
        · rw [show lo = 0 by omega]; simp [sumT]
        · rw [sumT_low (by omega), Nat.zero_add]
      rw [hs3]; exact n3
    · simp only [e_upd, e_putS, e_putN, e_t, e_c, Nat.reduceEqDiff, ↓reduceIte, reduceCtorEq, Nat.reduceAdd, e1]
    · simp only [e_upd, e_putS, e_putN, e_t, e_c, Nat.reduceEqDiff, ↓reduceIte, reduceCtorEq, Nat.reduceAdd, e2]
    · simp only [e_upd, e_putS, e_putN, e_t, e_c, Nat.reduceEqDiff, ↓reduceIte, reduceCtorEq, Nat.reduceAdd]
    · simp only [e_upd, e_putS, e_putN, e_t, e_c, Nat.reduceEqDiff, ↓reduceIte, reduceCtorEq, Nat.reduceAdd]
    · simp only [e_upd, e_putS, e_putN, e_t, e_c, Nat.reduceEqDiff, ↓reduceIte, reduceCtorEq, Nat.reduceAdd]
    · simp only [e_upd, e_putS, e_putN, e_t, e_c, Nat.reduceEqDiff, ↓reduceIte, reduceCtorEq, Nat.reduceAdd]
    · simp only [e_upd, e_putS, e_putN, e_t, e_c, Nat.reduceEqDiff, ↓reduceIte, reduceCtorEq, Nat.reduceAdd]
    rintro t s H ⟨i, wc, ws, hi1, hi2, rfl, hL, hn, t1, t2, t9, t11, t12, t13, t14⟩
    by_cases him : i < m
    · have hib : i < b ∧ i < k := by omega
      have hst := tN_step (b := b) (g := g) (k := k) (i := i) hib.1 hib.2 (by omega)
      obtain ⟨up, hup⟩ : ∃ up, (b - i) * (k - i) = up := ⟨_, rfl⟩
      obtain ⟨dn, hdn⟩ : ∃ dn, (i + 1) * (g + i + 1 - k) = dn := ⟨_, rfl⟩
      have hup1 : up ≤ 512 * 512 := hup ▸ Nat.mul_le_mul (by omega) (by omega)
      have hdn1 : dn ≤ 513 * 1025 := hdn ▸ Nat.mul_le_mul (by omega) (by omega)
      have hdn0 : 0 < dn := hdn ▸ Nat.mul_pos (by omega) (by omega)
      rw [hup, hdn] at hst
      have hm1 : abin .mul (.int .i64 ((b : Int) - (i : Int))) (.int .i64 ((k : Int) - (i : Int))) = some (.int .i64 (up : Int)) := b_mulN (a := b - i) (b := k - i) (by omega) (by omega) hup (by omega)
      have hm2 : abin .mul (.int .i64 ((i : Int) + 1)) (.int .i64 ((g : Int) - (k : Int) + (i : Int) + 1)) = some (.int .i64 (dn : Int)) := b_mulN (a := i + 1) (b := g + i + 1 - k) (by omega) (by omega) hdn (by omega)
      have hq : ((tN b g k i : Nat) : Int) * (up : Int) / (dn : Int) = ((tN b g k (i + 1) : Nat) : Int) := by
        rw [← Int.natCast_mul, ← hst, ← Int.natCast_ediv, Nat.mul_div_cancel _ hdn0]
      simp -implicitDefEqProofs (disch := omega) only [sN, ↓reduceIte, Nat.reduceEqDiff, Nat.reduceAdd, Nat.reduceMul, Nat.reduceSub, reduceCtorEq, e_none, e_some, e_bindS, t1, t2, t9, t11, t12, t13, t14, hm1, hm2, List.map_cons, List.map_nil]
      refine hs_N1 (in_step (x := ((tN b g k i : Nat) : Int)) (up := (up : Int)) (down := (dn : Int)) (by omega) (by omega)) rfl hL (.head _) (by omega) (b := 17) (by rw [hq]; exact htb (i + 1)) ?_
      intro H4 w4 h4 n4 k4
      rw [hq] at h4 n4
      simp -implicitDefEqProofs (disch := omega) only [sN, ↓reduceIte, Nat.reduceEqDiff, Nat.reduceAdd, Nat.reduceMul, Nat.reduceSub, reduceCtorEq, e_none, e_some, e_bindS, t1, t2, t9, t11, t12, t13, t14, List.map_cons, List.map_nil]
      have hsum : ((sumT b g k (i + 1) : Nat) : Int) + ((tN b g k (i + 1) : Nat) : Int) = ((sumT b g k (i + 1 + 1) : Nat) : Int) := (Int.natCast_add _ _).symm
      refine hs_NV (in_add (x := ((sumT b g k (i + 1) : Nat) : Int)) (y := ((tN b g k (i + 1) : Nat) : Int))) h4 (.tail _ (.tail _ (.head _))) (.head _) (by omega) (by omega) (b := 17) (by rw [hsum]; exact sumT_bb (by omega) (by omega)) ?_
      intro H5 w5 h5 n5
      rw [hsum] at h5 n5
      simp -implicitDefEqProofs (disch := omega) only [sN, ↓reduceIte, Nat.reduceEqDiff, Nat.reduceAdd, Nat.reduceMul, Nat.reduceSub, reduceCtorEq, e_none, e_some, e_bindS, t1, t2, t9, t11, t12, t13, t14]
      refine loop_keep (m := m - (i + 1)) (by omega) ⟨i + 1, w4, w5, by omega, by omega, rfl, ?_, n5, ?_, ?_, ?_, ?_, ?_, ?_, ?_⟩
      · exact h5.sub fun p hp => by
          simp only [List.mem_cons, List.not_mem_nil, or_false] at hp
          rcases hp with rfl | rfl
          · exact .tail _ (.head _)
          · exact .head _
      · simp only [e_upd, e_putS, e_putN, e_t, e_c, Nat.reduceEqDiff, ↓reduceIte, reduceCtorEq, Nat.reduceAdd, t1]
      · simp only [e_upd, e_putS, e_putN, e_t, e_c, Nat.reduceEqDiff, ↓reduceIte, reduceCtorEq, Nat.reduceAdd, t2]
      · simp only [e_upd, e_putS, e_putN, e_t, e_c, Nat.reduceEqDiff, ↓reduceIte, reduceCtorEq, Nat.reduceAdd, t9]
      · simp only [e_upd, e_putS, e_putN, e_t, e_c, Nat.reduceEqDiff, ↓reduceIte, reduceCtorEq, Nat.reduceAdd, t11]
      · simp only [e_upd, e_putS, e_putN, e_t, e_c, Nat.reduceEqDiff, ↓reduceIte, reduceCtorEq, Nat.reduceAdd]
      · simp only [e_upd, e_putS, e_putN, e_t, e_c, Nat.reduceEqDiff, ↓reduceIte, reduceCtorEq, Nat.reduceAdd]
      · simp only [e_upd, e_putS, e_putN, e_t, e_c, Nat.reduceEqDiff, ↓reduceIte, reduceCtorEq, Nat.reduceAdd]; first | done | rfl
    · obtain rfl : i = m := by omega
      simp -implicitDefEqProofs (disch := omega) only [sN, ↓reduceIte, Nat.reduceEqDiff, Nat.reduceAdd, Nat.reduceMul, Nat.reduceSub, reduceCtorEq, e_none, e_some, e_bindS, t1, t2, t9, t11, t12, t13, t14]
      refine ret_keep (by simp) ⟨H, rfl, ?_⟩
      rw [hw]
      simp only [q_tmp, q_then, e_upd, e_putS, e_putN, e_t, e_c, Nat.reduceEqDiff, ↓reduceIte, reduceCtorEq, Nat.reduceAdd]
      exact hn
end Go.Proofs.Ythbhljolpnbdlaa.S1



/- Contracts: exact's Tail. -/
-- NEWSET
namespace Go.Proofs.Ythbhljolpnbdlaa.S1
open Go Go.Vh

/-- within, in any heap -/
theorem call_within {n m : Int} {b : Bool} {K : St → AHeap → Prop} {d : Option Nat} {s : St} {H : AHeap} (hb : decide (0 ≤ n ∧ n ≤ m) = b) (hK : K (putI d s (.bool b)) H) : thenC Try.prog K d s H [.int .i64 n, .int .i64 m] (.func 110 []) :=
  call_sc (within_calls n m) rfl rfl (fun _ => rfl) (by rw [hb]; exact hK)

/-- what Tail answers: the numbers, and the error's number -/
def tlOK (total bad sample : Int) : Prop := 0 ≤ total ∧ total ≤ 512 ∧ 0 ≤ bad ∧ bad ≤ total ∧ 0 ≤ sample ∧ sample ≤ total
instance (total bad sample : Int) : Decidable (tlOK total bad sample) := by unfold tlOK; infer_instance
section
variable {P : Program} {f : FuncId} {args0 : List AV} {K : St → AHeap → Prop} {d : Option Nat} {s : St} {H : AHeap} {Q : AHeap → AV → AHeap → Prop}
end
theorem choose_up {n j : Nat} (hn : n ≤ 512) (hj : j ≤ 512) : ACalls Try.prog 113 [.int .i64 (n : Int), .int .i64 (j : Int)] [] [] (UpN ((cnk n j : Nat) : Int) []) :=
  (choose_fresh n j (by omega) (by omega) (by omega)).mono fun v H h => by rw [cI_nat] at h; exact fresh_up h
theorem cnk_pos2 : ∀ n k, k ≤ n → 0 < cnk n k
  | n, 0, _ => by rw [cnk_zero]; omega
  | 0, k + 1, h => by omega
  | n + 1, k + 1, h => by
    have := cnk_pos2 n k (by omega)
    simp only [cnk]; omega
theorem In2.app {f : FuncId} {x y : Int} {k k' : Nat} {rest : List AV} {Q : AHeap → AV → AHeap → Prop} (h : In2 f x y k k' rest Q) : In2 f x y k k' rest Q := h

end Go.Proofs.Ythbhljolpnbdlaa.S1



/- Heaps on top of heaps. -/
-- NEWSET
namespace Go.Proofs.Ythbhljolpnbdlaa.S1
open Go Go.Vh

/-- The rows that were there are as they were. -/
def Base (H0 H : AHeap) : Prop := H0.length ≤ H.length ∧ ∀ i, i < H0.length → Vh.rowAt H i = Vh.rowAt H0 i
theorem Base.refl {H : AHeap} : Base H H := ⟨Nat.le_refl _, fun _ _ => rfl⟩
theorem Base.trans {H H' H'' : AHeap} (h : Base H H') (h' : Base H' H'') : Base H H'' := ⟨Nat.le_trans h.1 h'.1, fun i hi => by rw [h'.2 i (Nat.lt_of_lt_of_le hi h.1), h.2 i hi]⟩
theorem Base.app {H0 H R : AHeap} (h : Base H0 H) : Base H0 (H ++ R) := ⟨by have := h.1; simp; omega, fun i hi => by rw [rowAt_append_left (Nat.lt_of_lt_of_le hi h.1), h.2 i hi]⟩
theorem Base.set {H0 H : AHeap} {Q : Nat} {x : Option ARow} (h : Base H0 H) (hQ : H0.length ≤ Q) : Base H0 (H.set Q x) := ⟨by rw [List.length_set]; exact h.1, fun i hi => by rw [row_other0 (by omega), h.2 i hi]⟩
theorem Base.one {H R : AHeap} : Base H (H ++ R) := Base.refl.app
theorem Base.row {H H' : AHeap} {r : Nat} {row : ARow} (hb : Base H H') (h : Vh.rowAt H r = some row) : Vh.rowAt H' r = some row := by
  rw [hb.2 r (rowAt_lt h), h]
theorem NumV.set {H : AHeap} {w : AV} {x : Int} {m q : Nat} {row : Option ARow} (h : NumV H w x m) (hq : q < m) : NumV (H.set q row) w x m := by
  rcases h with h | ⟨κ, l, row, r, h1, h2, h3, h4⟩
  · exact .inl h
  · exact .inr ⟨κ, l, row, r, h1, h2, by rw [row_other0 (by omega)]; exact h3, h4⟩
theorem AtN.base {H H' : AHeap} {v : AV} {x : Int} (h : AtN H v x) (hb : Base H H') : AtN H' v x := by
  obtain ⟨κ, l, row, r, h1, h2, h3, h4⟩ := h
  exact ⟨κ, l, row, r, h1, h2, hb.row h3, h4⟩
theorem AtN.cell {H : AHeap} {v : AV} {x : Int} (h : AtN H v x) : v.cell = true := by
  obtain ⟨κ, l, row, r, h1, rfl, _⟩ := h
  exact c_mkS
theorem x_boxN {s : St} {H : AHeap} {x : Opd} {l : List AV} (hx : evo s x = .agg l) (hc : l.all AV.cell = true) : ieff (.box x) s H = some (.ptr H.length 0, H ++ [rw_ l]) := by
  simp [ieff, hx, aparts, anew, rw_]
  simpa using hc

theorem NumV.normAt {H : AHeap} {w : AV} {x : Int} {m r0 : Nat} {row0 : ARow} (h : NumV H w x m) (h0 : Vh.rowAt H r0 = some row0) : AtN H w x := by
  rcases h with ⟨rfl, rfl⟩ | ⟨κ, l, row, r, h1, h2, h3, h4⟩
  · exact ⟨.nil, [], row0, r0, rfl, rfl, h0, rfl, fun i => by simp, rfl, rfl⟩
  · exact ⟨κ, l, row, r, h4.ok, h2, h3, h4.cells, h4.limbs, h4.num, h4.norm⟩
theorem set_last {H : AHeap} {a b : Option ARow} : (H ++ [a]).set H.length b = H ++ [b] := by simp
end Go.Proofs.Ythbhljolpnbdlaa.S1



/- Contracts: checkFracs, FracCompare. -/
-- NEWSET
namespace Go.Proofs.Ythbhljolpnbdlaa.S1
open Go Go.Vh

/-- A number of just n limbs. -/
def AtX (H : AHeap) (w : AV) (x : Int) (n : Nat) : Prop := ∃ κ l row r, okS κ l.length ∧ w = mkS κ r 0 l.length ∧ Vh.rowAt H r = some row ∧ row.cells.take l.length = ints .u32 l ∧ Limbs l ∧ num l = x ∧ l.length = n
theorem AtX.base {H H' : AHeap} {v : AV} {x : Int} {n : Nat} (h : AtX H v x n) (hb : Base H H') : AtX H' v x n := by
  obtain ⟨κ, l, row, r, h1, h2, h3, h4⟩ := h
  exact ⟨κ, l, row, r, h1, h2, hb.row h3, h4⟩
theorem AtX.cell {H : AHeap} {v : AV} {x : Int} {n : Nat} (h : AtX H v x n) : v.cell = true := by
  obtain ⟨κ, l, row, r, h1, rfl, _⟩ := h
  exact c_mkS
theorem AtX.k {H : AHeap} {v : AV} {x : Int} {n : Nat} (h : AtX H v x n) {k : Nat} (hk : n ≤ k) : ∃ r, AtK H v x r k := by
  obtain ⟨κ, l, row, r, h1, h2, h3, h4, h5, h6, h7⟩ := h
  exact ⟨r, κ, l, row, h1, h2, h3, h4, h5, h6, by omega⟩
theorem AtN.x {H : AHeap} {v : AV} {x : Int} (h : AtN H v x) {k : Nat} (hx : x < BB ^ k) : ∃ n, n ≤ k ∧ AtX H v x n := by
  obtain ⟨κ, l, row, r, h1, h2, h3, h4, h5, h6, h7⟩ := h
  exact ⟨l.length, norm_len h5 h7 (by rw [h6]; exact hx), κ, l, row, r, h1, h2, h3, h4, h5, h6, rfl⟩

/-- A fraction's two numbers, and their limbs. -/
structure Fr where
  w : AV
  w2 : AV
  x : Int
  y : Int
  n : Nat
  m : Nat
def Fr.ok (H : AHeap) (q : Fr) : Prop := AtX H q.w q.x q.n ∧ AtX H q.w2 q.y q.m ∧ q.n ≤ 9223372036854775807 ∧ q.m ≤ 9223372036854775807
def Fr.short (q : Fr) : Bool := decide (q.n ≤ 64 ∧ q.m ≤ 64)
def Fr.den (q : Fr) : Bool := decide (q.y ≠ 0)
theorem Fr.ok.base {H H' : AHeap} {q : Fr} (h : q.ok H) (hb : Base H H') : q.ok H' := ⟨h.1.base hb, h.2.1.base hb, h.2.2⟩
def frCells : List Fr → List AV
  | [] => []
  | q :: L => q.w :: q.w2 :: frCells L
theorem frCells_at : ∀ {L : List Fr} {i : Nat} {q : Fr}, L[i]? = some q → ((frCells L).drop (2 * i)).take 2 = [q.w, q.w2] ∧ 2 * i + 2 ≤ (frCells L).length
  | [], i, q, h => by simp at h
  | p :: L, 0, q, h => by simp at h; subst h; simp [frCells]
  | p :: L, i + 1, q, h => by
    have ih := frCells_at (L := L) (i := i) (q := q) (by simpa using h)
    rw [show 2 * (i + 1) = 2 * i + 1 + 1 by omega]
    simp only [frCells, List.drop_succ_cons, List.length_cons]
    exact ⟨ih.1, by omega⟩
/-- what checkFracs answers -/
def cfE (L : List Fr) : Int := if L.all Fr.short then (if L.all Fr.den then 0 else 7) else 4

theorem x_loadNO {s : St} {H : AHeap} {x : Opd} {r off n : Nat} {row : ARow} {l : List AV} (hx : evo s x = .ptr r off) (hr : Vh.rowAt H r = some row) (hc : (row.cells.drop off).take n = l) (hn : off + n ≤ row.cells.length) : ieff (.loadN n x) s H = some (.agg l, H) := by
  simp only [ieff, hx, cellsAt, hr, Option.bind_some, hn, if_true, Option.map_some, hc]
/-- tooLong, of two numbers somewhere -/
theorem call_long2 {x y : Int} {n m a : Nat} {u v : AV} {K : St → AHeap → Prop} {d : Option Nat} {s : St} {H : AHeap} {row : ARow} (hu : AtX H u x n) (hv : AtX H v y m) (hn : n ≤ 9223372036854775807) (hm : m ≤ 9223372036854775807) (ha : Vh.rowAt H a = some row) (hc : row.cells = [u, v])
    (hK : K (putI d s (.int .i64 (if n ≤ 64 ∧ m ≤ 64 then 0 else 4))) H) : thenC Try.prog K d s H [.slice a 0 2 2] (.func 134 []) := by
  obtain ⟨κ, l, row1, r, h1, rfl, h3, h4, h5, h6, rfl⟩ := hu
  obtain ⟨κ', l', row2, r', k1, rfl, k3, k4, k5, k6, rfl⟩ := hv
  exact call_tooLong2 h1 k1 (by omega) (by omega) ha hc h3 k3 hK

set_option maxHeartbeats 1000000 in
theorem checkFracs_calls (H0 : AHeap) (L : List Fr) {n r : Nat} {row : ARow} (hn : L.length = n) (hn1 : n ≤ 100) (hr : Vh.rowAt H0 r = some row) (hc : row.cells = frCells L) (hok : ∀ q ∈ L, q.ok H0) :
    ACalls Try.prog 109 [.slice r 0 n n] H0 (List.range H0.length) fun v H => v = .int .i64 (cfE L) ∧ Base H0 H := by
  refine ACalls.body Try.func109 ent_checkFracs ir_checkFracs_ok rs_checkFracs_ok Try.ntmps109 (by simp) rfl ?_
  unfold ir_checkFracs
  have e0 : s0 [.slice r 0 n n] 0 = .slice r 0 n n := rfl
  have hz : [AV.nilslice, AV.nilslice].all AV.cell = true := rfl
  simp -implicitDefEqProofs (disch := omega) only [sN, ↓reduceIte, Nat.reduceEqDiff, Nat.reduceAdd, Nat.reduceMul, Nat.reduceSub, reduceCtorEq, e_none, e_some, e_bindS, e0]
  refine ⟨fun t s H => ∃ i : Nat, t = n - i ∧ i ≤ n ∧ (∀ j q, j < i → L[j]? = some q → q.short = true) ∧ Base H0 H ∧ s 0 = .slice r 0 n n ∧ s 8 = .slice r 0 n n ∧ s 9 = .int .i64 n ∧ s 10 = .int .i64 (i : Int), n, ⟨0, rfl, by omega, fun j q h => by omega, Base.refl, ?_, ?_, ?_, ?_⟩, ?_⟩
  · simp only [e_upd, e_putS, e_putN, e_t, e_c, Nat.reduceEqDiff, ↓reduceIte, reduceCtorEq, Nat.reduceAdd, e0]
  · simp only [e_upd, e_putS, e_putN, e_t, e_c, Nat.reduceEqDiff, ↓reduceIte, reduceCtorEq, Nat.reduceAdd]
  · simp only [e_upd, e_putS, e_putN, e_t, e_c, Nat.reduceEqDiff, ↓reduceIte, reduceCtorEq, Nat.reduceAdd]
  · simp only [e_upd, e_putS, e_putN, e_t, e_c, Nat.reduceEqDiff, ↓reduceIte, reduceCtorEq, Nat.reduceAdd]; rfl
  rintro t s H ⟨i, rfl, hi, hS, hB, h0, h8, h9, h10⟩
  by_cases hlt : i < n
  · obtain ⟨q, hq⟩ : ∃ q, L[i]? = some q := ⟨L[i], List.getElem?_eq_getElem (by omega)⟩
    obtain ⟨c1, c2⟩ := frCells_at hq
    have hqo := (hok q (List.mem_of_getElem? hq)).base hB
    have hrH := hB.row hr
    have ia : aindexAddr 2 (.slice r 0 n n) (.int .i64 (i : Int)) = some (.ptr r (2 * i)) := by
      have h1 : (0 : Int) ≤ (i : Int) ∧ (i : Int) < ((n : Nat) : Int) := by omega
      simp only [aindexAddr, if_pos h1, Int.toNat_natCast]
      congr 2; omega
    simp -implicitDefEqProofs (disch := omega) only [sN, ↓reduceIte, Nat.reduceEqDiff, Nat.reduceAdd, Nat.reduceMul, Nat.reduceSub, reduceCtorEq, e_none, e_some, e_bindS, h0, h8, h9, h10, ia]
    rw [x_loadNO (n := 2) (r := r) (off := 2 * i) (l := [q.w, q.w2]) (by simp only [e_upd, e_putS, e_putN, e_t, e_c, Nat.reduceEqDiff, ↓reduceIte, reduceCtorEq, Nat.reduceAdd]) hrH (by rw [hc]; exact c1) (by rw [hc]; exact c2)]
    simp -implicitDefEqProofs (disch := omega) only [sN, ↓reduceIte, Nat.reduceEqDiff, Nat.reduceAdd, Nat.reduceMul, Nat.reduceSub, reduceCtorEq, e_none, e_some, e_bindS, h0, h8, h9, h10]
    rw [x_allocA hz]
    simp -implicitDefEqProofs (disch := omega) only [sN, ↓reduceIte, Nat.reduceEqDiff, Nat.reduceAdd, Nat.reduceMul, Nat.reduceSub, reduceCtorEq, e_none, e_some, e_bindS, h0, h8, h9, h10]
    rw [x_storeNA (n := 2) (r := H.length) (l := [.nilslice, .nilslice]) (l' := [q.w, q.w2]) (by simp only [e_upd, e_putS, e_putN, e_t, e_c, Nat.reduceEqDiff, ↓reduceIte, reduceCtorEq, Nat.reduceAdd]) (by simp only [e_upd, e_putS, e_putN, e_t, e_c, Nat.reduceEqDiff, ↓reduceIte, reduceCtorEq, Nat.reduceAdd]) (by simp [hqo.1.cell, hqo.2.1.cell]) (by simp [Vh.rowAt, rw_]) rfl rfl]
    rw [show (H ++ [rw_ [AV.nilslice, AV.nilslice]]).set H.length (rw_ [q.w, q.w2]) = H ++ [rw_ [q.w, q.w2]] by simp]
    have hb : Vh.rowAt (H ++ [rw_ [q.w, q.w2]]) H.length = some ⟨true, false, [q.w, q.w2]⟩ := by simp [Vh.rowAt, rw_]
    simp -implicitDefEqProofs (disch := omega) only [sN, ↓reduceIte, Nat.reduceEqDiff, Nat.reduceAdd, Nat.reduceMul, Nat.reduceSub, reduceCtorEq, e_none, e_some, e_bindS, h0, h8, h9, h10, p_fieldAddr, Nat.zero_add, hb, Option.bind_some, Option.map_some, List.getElem?_cons_zero, List.getElem?_cons_succ]
    rw [x_bs2 (v := q.w) (u := q.w2) (by simp only [e_upd, e_putS, e_putN, e_t, e_c, Nat.reduceEqDiff, ↓reduceIte, reduceCtorEq, Nat.reduceAdd]) (by simp only [e_upd, e_putS, e_putN, e_t, e_c, Nat.reduceEqDiff, ↓reduceIte, reduceCtorEq, Nat.reduceAdd]) hqo.1.cell hqo.2.1.cell rfl]
    simp -implicitDefEqProofs (disch := omega) only [sN, ↓reduceIte, Nat.reduceEqDiff, Nat.reduceAdd, Nat.reduceMul, Nat.reduceSub, reduceCtorEq, e_none, e_some, e_bindS, List.map_cons, List.map_nil]
    refine call_long2 (a := (H ++ [rw_ [q.w, q.w2]]).length) (row := ⟨true, false, [q.w, q.w2]⟩) (hqo.1.base Base.one.app) (hqo.2.1.base Base.one.app) hqo.2.2.1 hqo.2.2.2 (by simp [Vh.rowAt, rw_]) rfl ?_
    by_cases hs : q.n ≤ 64 ∧ q.m ≤ 64
    · rw [if_pos hs]
      simp -implicitDefEqProofs (disch := omega) only [sN, ↓reduceIte, Nat.reduceEqDiff, Nat.reduceAdd, Nat.reduceMul, Nat.reduceSub, reduceCtorEq, e_none, e_some, e_bindS, h0, h8, h9, h10]
      refine loop_keep (m := n - (i + 1)) (by omega) ⟨i + 1, rfl, by omega, fun j p hj hp => ?_, hB.app.app, ?_, ?_, ?_, ?_⟩
      · rcases Nat.lt_or_ge j i with h | h
        · exact hS j p h hp
        · obtain rfl : j = i := by omega
          rw [hq] at hp; cases hp
          exact decide_eq_true hs
      · simp only [e_upd, e_putS, e_putN, e_t, e_c, Nat.reduceEqDiff, ↓reduceIte, reduceCtorEq, Nat.reduceAdd, h0]
      · simp only [e_upd, e_putS, e_putN, e_t, e_c, Nat.reduceEqDiff, ↓reduceIte, reduceCtorEq, Nat.reduceAdd, h8]
      · simp only [e_upd, e_putS, e_putN, e_t, e_c, Nat.reduceEqDiff, ↓reduceIte, reduceCtorEq, Nat.reduceAdd, h9]
      · simp only [e_upd, e_putS, e_putN, e_t, e_c, Nat.reduceEqDiff, ↓reduceIte, reduceCtorEq, Nat.reduceAdd]; first | done | rfl
    · rw [if_neg hs]
      simp -implicitDefEqProofs (disch := omega) only [sN, ↓reduceIte, Nat.reduceEqDiff, Nat.reduceAdd, Nat.reduceMul, Nat.reduceSub, reduceCtorEq, e_none, e_some, e_bindS, h0, h8, h9, h10]
      refine ret_keep hB.app.app.1 ⟨?_, hB.app.app⟩
      have : L.all Fr.short = false := by
        rw [List.all_eq_false]
        exact ⟨q, List.mem_of_getElem? hq, by simp [Fr.short, hs]⟩
      simp only [e_upd, e_putS, e_putN, e_t, e_c, Nat.reduceEqDiff, ↓reduceIte, reduceCtorEq, Nat.reduceAdd, cfE, this]; try rfl
  · obtain rfl : i = n := by omega
    have hall : L.all Fr.short = true := by
      rw [List.all_eq_true]
      intro q hq
      obtain ⟨j, hj⟩ := List.getElem?_of_mem hq
      exact hS j q (by have := (List.getElem?_eq_some_iff.1 hj).1; omega) hj
    have hcf : cfE L = if L.all Fr.den then 0 else 7 := by unfold cfE; rw [hall, if_pos rfl]
    rw [hcf]
    simp -implicitDefEqProofs (disch := omega) only [sN, ↓reduceIte, Nat.reduceEqDiff, Nat.reduceAdd, Nat.reduceMul, Nat.reduceSub, reduceCtorEq, e_none, e_some, e_bindS, h0, h8, h9, h10]
    refine ⟨fun t s H => ∃ k : Nat, t = i - k ∧ k ≤ i ∧ (∀ j q, j < k → L[j]? = some q → q.den = true) ∧ Base H0 H ∧ s 24 = .slice r 0 i i ∧ s 25 = .int .i64 i ∧ s 26 = .int .i64 (k : Int), i, ⟨0, rfl, by omega, fun j q h => by omega, hB, ?_, ?_, ?_⟩, ?_⟩
    · simp only [e_upd, e_putS, e_putN, e_t, e_c, Nat.reduceEqDiff, ↓reduceIte, reduceCtorEq, Nat.reduceAdd]
    · simp only [e_upd, e_putS, e_putN, e_t, e_c, Nat.reduceEqDiff, ↓reduceIte, reduceCtorEq, Nat.reduceAdd]
    · simp only [e_upd, e_putS, e_putN, e_t, e_c, Nat.reduceEqDiff, ↓reduceIte, reduceCtorEq, Nat.reduceAdd]; rfl
    clear hB h0 h8 h9 h10 hS
    rintro t s H ⟨k, rfl, hk, hS, hB, h24, h25, h26⟩
    by_cases hlt : k < i
    · obtain ⟨q, hq⟩ : ∃ q, L[k]? = some q := ⟨L[k], List.getElem?_eq_getElem (by omega)⟩
      obtain ⟨c1, c2⟩ := frCells_at hq
      have hqo := (hok q (List.mem_of_getElem? hq)).base hB
      have hrH := hB.row hr
      have ia : aindexAddr 2 (.slice r 0 i i) (.int .i64 (k : Int)) = some (.ptr r (2 * k)) := by
        have h1 : (0 : Int) ≤ (k : Int) ∧ (k : Int) < ((i : Nat) : Int) := by omega
        simp only [aindexAddr, if_pos h1, Int.toNat_natCast]
        congr 2; omega
      simp -implicitDefEqProofs (disch := omega) only [sN, ↓reduceIte, Nat.reduceEqDiff, Nat.reduceAdd, Nat.reduceMul, Nat.reduceSub, reduceCtorEq, e_none, e_some, e_bindS, h24, h25, h26, ia]
      rw [x_loadNO (n := 2) (r := r) (off := 2 * k) (l := [q.w, q.w2]) (by simp only [e_upd, e_putS, e_putN, e_t, e_c, Nat.reduceEqDiff, ↓reduceIte, reduceCtorEq, Nat.reduceAdd]) hrH (by rw [hc]; exact c1) (by rw [hc]; exact c2)]
      simp -implicitDefEqProofs (disch := omega) only [sN, ↓reduceIte, Nat.reduceEqDiff, Nat.reduceAdd, Nat.reduceMul, Nat.reduceSub, reduceCtorEq, e_none, e_some, e_bindS, h24, h25, h26]
      rw [x_allocA hz]
      simp -implicitDefEqProofs (disch := omega) only [sN, ↓reduceIte, Nat.reduceEqDiff, Nat.reduceAdd, Nat.reduceMul, Nat.reduceSub, reduceCtorEq, e_none, e_some, e_bindS, h24, h25, h26]
      rw [x_storeNA (n := 2) (r := H.length) (l := [.nilslice, .nilslice]) (l' := [q.w, q.w2]) (by simp only [e_upd, e_putS, e_putN, e_t, e_c, Nat.reduceEqDiff, ↓reduceIte, reduceCtorEq, Nat.reduceAdd]) (by simp only [e_upd, e_putS, e_putN, e_t, e_c, Nat.reduceEqDiff, ↓reduceIte, reduceCtorEq, Nat.reduceAdd]) (by simp [hqo.1.cell, hqo.2.1.cell]) (by simp [Vh.rowAt, rw_]) rfl rfl]
      rw [show (H ++ [rw_ [AV.nilslice, AV.nilslice]]).set H.length (rw_ [q.w, q.w2]) = H ++ [rw_ [q.w, q.w2]] by simp]
      have hb : Vh.rowAt (H ++ [rw_ [q.w, q.w2]]) H.length = some ⟨true, false, [q.w, q.w2]⟩ := by simp [Vh.rowAt, rw_]
      simp -implicitDefEqProofs (disch := omega) only [sN, ↓reduceIte, Nat.reduceEqDiff, Nat.reduceAdd, Nat.reduceMul, Nat.reduceSub, reduceCtorEq, e_none, e_some, e_bindS, h24, h25, h26, p_fieldAddr, Nat.zero_add, hb, Option.bind_some, Option.map_some, List.getElem?_cons_zero, List.getElem?_cons_succ, List.map_cons, List.map_nil]
      have hsq : q.n ≤ 64 ∧ q.m ≤ 64 := by
        have := List.all_eq_true.1 hall q (List.mem_of_getElem? hq)
        simpa [Fr.short] using this
      obtain ⟨rk, hrk⟩ := (hqo.2.1.base (Base.one (R := [rw_ [q.w, q.w2]]))).k (show q.m ≤ 100000 by omega)
      refine call_in1 in_isZero rfl hrk (hk_P (fun _ => rfl) fun R => ?_)
      by_cases hs : q.y = 0
      · simp -implicitDefEqProofs (disch := omega) only [sN, ↓reduceIte, Nat.reduceEqDiff, Nat.reduceAdd, Nat.reduceMul, Nat.reduceSub, reduceCtorEq, e_none, e_some, e_bindS, h24, h25, h26, hs, decide_true]
        refine ret_keep hB.app.app.1 ⟨?_, hB.app.app⟩
        have : L.all Fr.den = false := by
          rw [List.all_eq_false]
          exact ⟨q, List.mem_of_getElem? hq, by simp [Fr.den, hs]⟩
        simp only [e_upd, e_putS, e_putN, e_t, e_c, Nat.reduceEqDiff, ↓reduceIte, reduceCtorEq, Nat.reduceAdd, this]; try rfl
      · simp -implicitDefEqProofs (disch := omega) only [sN, ↓reduceIte, Nat.reduceEqDiff, Nat.reduceAdd, Nat.reduceMul, Nat.reduceSub, reduceCtorEq, e_none, e_some, e_bindS, h24, h25, h26, hs, decide_false]
        refine loop_keep (m := i - (k + 1)) (by omega) ⟨k + 1, rfl, by omega, fun j p hj hp => ?_, hB.app.app, ?_, ?_, ?_⟩
        · rcases Nat.lt_or_ge j k with h | h
          · exact hS j p h hp
          · obtain rfl : j = k := by omega
            rw [hq] at hp; cases hp
            exact decide_eq_true hs
        · simp only [e_upd, e_putS, e_putN, e_t, e_c, Nat.reduceEqDiff, ↓reduceIte, reduceCtorEq, Nat.reduceAdd, h24]
        · simp only [e_upd, e_putS, e_putN, e_t, e_c, Nat.reduceEqDiff, ↓reduceIte, reduceCtorEq, Nat.reduceAdd, h25]
        · simp only [e_upd, e_putS, e_putN, e_t, e_c, Nat.reduceEqDiff, ↓reduceIte, reduceCtorEq, Nat.reduceAdd]; first | done | rfl
    · obtain rfl : k = i := by omega
      have hall2 : L.all Fr.den = true := by
        rw [List.all_eq_true]
        intro q hq
        obtain ⟨j, hj⟩ := List.getElem?_of_mem hq
        exact hS j q (by have := (List.getElem?_eq_some_iff.1 hj).1; omega) hj
      simp -implicitDefEqProofs (disch := omega) only [sN, ↓reduceIte, Nat.reduceEqDiff, Nat.reduceAdd, Nat.reduceMul, Nat.reduceSub, reduceCtorEq, e_none, e_some, e_bindS, h24, h25, h26]
      refine ret_keep hB.1 ⟨?_, hB⟩
      simp only [e_upd, e_putS, e_putN, e_t, e_c, Nat.reduceEqDiff, ↓reduceIte, reduceCtorEq, Nat.reduceAdd, hall2]; try rfl
end Go.Proofs.Ythbhljolpnbdlaa.S1



/- Contracts: FracCompare. -/
-- NEWSET
namespace Go.Proofs.Ythbhljolpnbdlaa.S1
open Go Go.Vh

section
variable {f : FuncId} {x y z z' e : Int} {k k' a b : Nat} {u v c : AV} {rest : List AV} {K : St → AHeap → Prop} {d : Option Nat} {s : St} {H : AHeap}
theorem call_in2_0 {Q : AHeap → AV → AHeap → Prop} (h : In2 f x y k k' rest Q) (hr : rest.all AV.flat = true) (hu : AtK H u x a k) (hv : AtK H v y b k')
    (hK : ∀ (σ : List (Nat × Nat)) (H0 : AHeap) (v0 : AV) (H0' : AHeap), σ.length = H0.length → allRo H0 = true → Q H0 v0 H0' → K (putI d s (v0.ren (sig σ H.length))) (H ++ (H0'.drop H0.length).map (renRow (sig σ H.length)))) : thenC0 Try.prog K d s H (u :: v :: rest) (.func f []) := by
  obtain ⟨κ, l, row, h1, rfl, h3, h4, h5, h6, h7⟩ := hu
  obtain ⟨κ', l', row', k1, rfl, k3, k4, k5, k6, k7⟩ := hv
  obtain ⟨W, hc⟩ := h κ κ' l l' h1 k1 h7 k7 h5 k5 h6 k6
  refine call_do0 hc [(a, 0), (b, 0)] rfl ?_ (allRo_once rfl _) (allRo_img rfl _) ?_ ⟨seen_limbs h3 h4, seen_limbs k3 k4, trivial⟩ fun v0 H0' hq => ?_
  · simp [underL, mkS_under, flatL_under hr]
  · rw [n_lcons, n_lcons, flatL_ren hr, n_mkS0 (r' := a) rfl, n_mkS0 (r' := b) rfl, List.append_nil]
  · have := hK [(a, 0), (b, 0)] [ro (ints .u32 l), ro (ints .u32 l')] v0 H0' rfl rfl hq
    rw [m_merge, m_ro, m_ro, m_nil]
    exact this
theorem x_bsF2 {x y : Opd} {v1 v2 v3 v4 z1 z2 z3 z4 : AV} (h1 : evo s x = .agg [v1, v2]) (h2 : evo s y = .agg [v3, v4]) (c1 : v1.cell = true) (c2 : v2.cell = true) (c3 : v3.cell = true) (c4 : v4.cell = true) :
    ieff (.buildSlice 2 [z1, z2, z3, z4] [(0, (2, x)), (2, (2, y))]) s H = some (.slice H.length 0 2 2, H ++ [rw_ [v1, v2, v3, v4]]) := by
  simp [ieff, h1, h2, afill, aparts, c1, c2, c3, c4, anew, rw_]
end

/-- what FracCompare answers -/
def fcC (q p : Fr) : Int := if cfE [q, p] = 0 then cmpI (q.x * p.y) (p.x * q.y) else 0

theorem cfE_short {q p : Fr} (h : cfE [q, p] = 0) : (q.n ≤ 64 ∧ q.m ≤ 64) ∧ p.n ≤ 64 ∧ p.m ≤ 64 := by
  unfold cfE at h
  split at h
  · rename_i hs
    simpa [Fr.short] using hs
  · omega
set_option maxHeartbeats 1000000 in
theorem xFracCompare_calls (H0 : AHeap) {q p : Fr} (hq : q.ok H0) (hp : p.ok H0) :
    ACalls Try.prog 78 [.agg [q.w, q.w2], .agg [p.w, p.w2]] H0 (List.range H0.length) fun v H => v = .tuple [.int .i64 (fcC q p), .int .i64 (cfE [q, p])] ∧ Base H0 H := by
  refine ACalls.body Try.func78 ent_xFracCompare ir_xFracCompare_ok rs_xFracCompare_ok Try.ntmps78 (by simp) rfl ?_
  unfold ir_xFracCompare
  have e0 : s0 [.agg [q.w, q.w2], .agg [p.w, p.w2]] 0 = .agg [q.w, q.w2] := rfl
  have e1 : s0 [.agg [q.w, q.w2], .agg [p.w, p.w2]] 1 = .agg [p.w, p.w2] := rfl
  simp -implicitDefEqProofs (disch := omega) only [sN, ↓reduceIte, Nat.reduceEqDiff, Nat.reduceAdd, Nat.reduceMul, Nat.reduceSub, reduceCtorEq, e_none, e_some, e_bindS, e0, e1]
  rw [x_boxN (l := [q.w, q.w2]) (by simp only [e_upd, e_putS, e_putN, e_t, e_c, Nat.reduceEqDiff, ↓reduceIte, reduceCtorEq, Nat.reduceAdd, e0]) (by simp [hq.1.cell, hq.2.1.cell])]
  simp -implicitDefEqProofs (disch := omega) only [sN, ↓reduceIte, Nat.reduceEqDiff, Nat.reduceAdd, Nat.reduceMul, Nat.reduceSub, reduceCtorEq, e_none, e_some, e_bindS, e0, e1]
  rw [x_boxN (l := [p.w, p.w2]) (by simp only [e_upd, e_putS, e_putN, e_t, e_c, Nat.reduceEqDiff, ↓reduceIte, reduceCtorEq, Nat.reduceAdd, e1]) (by simp [hp.1.cell, hp.2.1.cell])]
  obtain ⟨H1, hH1⟩ : ∃ h, h = H0 ++ [rw_ [q.w, q.w2]] ++ [rw_ [p.w, p.w2]] := ⟨_, rfl⟩
  have hB : Base H0 H1 := by rw [hH1]; exact Base.one.app
  have r2 : Vh.rowAt H1 H0.length = some ⟨true, false, [q.w, q.w2]⟩ := by rw [hH1, rowAt_append_left (by simp)]; simp [Vh.rowAt, rw_]
  have r3 : Vh.rowAt H1 (H0 ++ [rw_ [q.w, q.w2]]).length = some ⟨true, false, [p.w, p.w2]⟩ := by rw [hH1]; simp [Vh.rowAt, rw_]
  rw [← hH1]
  simp -implicitDefEqProofs (disch := omega) only [sN, ↓reduceIte, Nat.reduceEqDiff, Nat.reduceAdd, Nat.reduceMul, Nat.reduceSub, reduceCtorEq, e_none, e_some, e_bindS]
  rw [x_loadNA (n := 2) (r := H0.length) (l := [q.w, q.w2]) (by simp only [e_upd, e_putS, e_putN, e_t, e_c, Nat.reduceEqDiff, ↓reduceIte, reduceCtorEq, Nat.reduceAdd]) r2 rfl rfl]
  simp -implicitDefEqProofs (disch := omega) only [sN, ↓reduceIte, Nat.reduceEqDiff, Nat.reduceAdd, Nat.reduceMul, Nat.reduceSub, reduceCtorEq, e_none, e_some, e_bindS]
  rw [x_loadNA (n := 2) (r := (H0 ++ [rw_ [q.w, q.w2]]).length) (l := [p.w, p.w2]) (by simp only [e_upd, e_putS, e_putN, e_t, e_c, Nat.reduceEqDiff, ↓reduceIte, reduceCtorEq, Nat.reduceAdd]) r3 rfl rfl]
  simp -implicitDefEqProofs (disch := omega) only [sN, ↓reduceIte, Nat.reduceEqDiff, Nat.reduceAdd, Nat.reduceMul, Nat.reduceSub, reduceCtorEq, e_none, e_some, e_bindS]
  rw [x_bsF2 (v1 := q.w) (v2 := q.w2) (v3 := p.w) (v4 := p.w2) (by simp only [e_upd, e_putS, e_putN, e_t, e_c, Nat.reduceEqDiff, ↓reduceIte, reduceCtorEq, Nat.reduceAdd]) (by simp only [e_upd, e_putS, e_putN, e_t, e_c, Nat.reduceEqDiff, ↓reduceIte, reduceCtorEq, Nat.reduceAdd]) hq.1.cell hq.2.1.cell hp.1.cell hp.2.1.cell]
  simp -implicitDefEqProofs (disch := omega) only [sN, ↓reduceIte, Nat.reduceEqDiff, Nat.reduceAdd, Nat.reduceMul, Nat.reduceSub, reduceCtorEq, e_none, e_some, e_bindS, List.map_cons, List.map_nil]
  have hB2 : Base H0 (H1 ++ [rw_ [q.w, q.w2, p.w, p.w2]]) := hB.app
  refine ⟨_, (checkFracs_calls (H1 ++ [rw_ [q.w, q.w2, p.w, p.w2]]) [q, p] (n := 2) (r := H1.length) (row := ⟨true, false, [q.w, q.w2, p.w, p.w2]⟩) rfl (by omega) (by simp [Vh.rowAt, rw_]) rfl ?_).g.mono ?_⟩
  · intro f hf
    simp only [List.mem_cons, List.not_mem_nil, or_false] at hf
    rcases hf with rfl | rfl
    · exact hq.base hB2
    · exact hp.base hB2
  rintro v H ⟨rfl, hB3⟩
  have hBH := hB2.trans hB3
  have hB1H : Base H1 H := Base.one.trans hB3
  have q2 := hB1H.row r2
  have q3 := hB1H.row r3
  by_cases he : cfE [q, p] = 0
  · have hfc : fcC q p = cmpI (q.x * p.y) (p.x * q.y) := by unfold fcC; rw [if_pos he]
    rw [he, hfc]
    obtain ⟨⟨s1, s2⟩, s3, s4⟩ := cfE_short he
    obtain ⟨b1, a1⟩ := (hq.1.base hBH).k s1
    obtain ⟨b2, a2⟩ := (hq.2.1.base hBH).k s2
    obtain ⟨b3, a3⟩ := (hp.1.base hBH).k s3
    obtain ⟨b4, a4⟩ := (hp.2.1.base hBH).k s4
    have p1 := mul_pow a1.nonneg a4.nonneg a1.lt_pow a4.lt_pow
    have p2 := mul_pow a3.nonneg a2.nonneg a3.lt_pow a2.lt_pow
    simp -implicitDefEqProofs (disch := omega) only [sN, ↓reduceIte, Nat.reduceEqDiff, Nat.reduceAdd, Nat.reduceMul, Nat.reduceSub, reduceCtorEq, e_none, e_some, e_bindS, p_fieldAddr, Nat.zero_add, q2, q3, Option.bind_some, Option.map_some, List.getElem?_cons_zero, List.getElem?_cons_succ, List.map_cons, List.map_nil]
    refine call_in2_0 in_mul rfl (a1.mono (by omega)) (a4.mono (by omega)) (hk_N fun R1 w1 n1 => ?_)
    simp -implicitDefEqProofs (disch := omega) only [sN, ↓reduceIte, Nat.reduceEqDiff, Nat.reduceAdd, Nat.reduceMul, Nat.reduceSub, reduceCtorEq, e_none, e_some, e_bindS, List.map_cons, List.map_nil]
    refine call_in2 in_mul rfl (a3.mono (show 64 ≤ 100000 by omega)).app (a2.mono (show 64 ≤ 100000 by omega)).app (hk_N fun R2 w2 n2 => ?_)
    simp -implicitDefEqProofs (disch := omega) only [sN, ↓reduceIte, Nat.reduceEqDiff, Nat.reduceAdd, Nat.reduceMul, Nat.reduceSub, reduceCtorEq, e_none, e_some, e_bindS, List.map_cons, List.map_nil]
    have hrow0 : Vh.rowAt (H ++ R1 ++ R2) H0.length = some ⟨true, false, [q.w, q.w2]⟩ := ((Base.one (R := R1)).app (R := R2)).row q2
    obtain ⟨c1, m1⟩ := (n1.app.normAt hrow0).at p1
    obtain ⟨c2, m2⟩ := (n2.normAt hrow0).at p2
    refine call_in2 in_compare rfl (m1.mono (by omega)) (m2.mono (by omega)) (hk_P (fun _ => rfl) fun R3 => ?_)
    simp -implicitDefEqProofs (disch := omega) only [sN, ↓reduceIte, Nat.reduceEqDiff, Nat.reduceAdd, Nat.reduceMul, Nat.reduceSub, reduceCtorEq, e_none, e_some, e_bindS]
    refine ret_keep hBH.app.app.app.1 ?_
    rw [show rs_xFracCompare = [.tmp 4, .tmp 5] from rfl, q_tmp2, q_then]
    refine ⟨?_, hBH.app.app.app⟩
    simp only [e_upd, e_putS, e_putN, e_t, e_c, Nat.reduceEqDiff, ↓reduceIte, reduceCtorEq, Nat.reduceAdd]
  · have hfc : fcC q p = 0 := by unfold fcC; rw [if_neg he]
    rw [hfc]
    simp -implicitDefEqProofs (disch := omega) only [sN, ↓reduceIte, Nat.reduceEqDiff, Nat.reduceAdd, Nat.reduceMul, Nat.reduceSub, reduceCtorEq, e_none, e_some, e_bindS]
    refine ret_keep hBH.1 ?_
    rw [show rs_xFracCompare = [.tmp 4, .tmp 5] from rfl, q_tmp2, q_then]
    refine ⟨?_, hBH⟩
    simp only [e_upd, e_putS, e_putN, e_t, e_c, Nat.reduceEqDiff, ↓reduceIte, reduceCtorEq, Nat.reduceAdd]
end Go.Proofs.Ythbhljolpnbdlaa.S1


