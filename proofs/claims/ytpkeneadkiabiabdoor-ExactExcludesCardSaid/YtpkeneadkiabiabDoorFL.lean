/- Contracts: the bound's closure, its region. -/
import Derived.Test.YtpkeneadkiabiabDoorVX
import Derived.Test.YtpkeneadkiabiabDoorFK
set_option linter.unusedSimpArgs false
set_option linter.unusedVariables false
-- NEWSET
namespace Go.Proofs.YtpkeneadkiabiabDoor
open Go Go.Vh

/-- is so many excluded? -/
def exclP (n k : Nat) (seen : Int) (x y : Int) (b : Nat) : Bool := decide (((wT n b k seen : Nat) : Int) * y ≤ x * ((cnk n k : Nat) : Int))
theorem exclP_mono {n k : Nat} {seen x y : Int} (hy : 0 ≤ y) : ∀ i j, i ≤ j → j < n + 1 → exclP n k seen x y i = true → exclP n k seen x y j = true := fun i j hij hj h => by
  unfold exclP at h ⊢
  rw [decide_eq_true_eq] at h ⊢
  have h1 : wT n j k seen ≤ wT n i k seen := wT_anti hij (by omega)
  have h2 : ((wT n j k seen : Nat) : Int) * y ≤ ((wT n i k seen : Nat) : Int) * y := Int.mul_le_mul_of_nonneg_right (by omega) hy
  omega
theorem wN_bb {b g k : Nat} {seen : Int} (h : b + g ≤ 512) (hk : k ≤ 512) : ((wN b g k seen : Nat) : Int) < BB ^ 17 := by
  unfold wN
  rcases Nat.lt_or_ge (seen + 1).toNat 1000 with h1 | h1
  · exact sumT_bb h (by omega)
  · rw [sumT_high (n := 1000) (by omega) h1]
    exact sumT_bb h (by omega)

section
variable {P : Program} {f : FuncId} {args0 : List AV} {K : St → AHeap → Prop} {d : Option Nat} {s : St} {H : AHeap} {Q : AHeap → AV → AHeap → Prop}
theorem call_in0_0 {W : List Nat} (h : ACalls P f args0 [] W (Q [])) (hf : args0.all AV.flat = true)
    (hK : ∀ (σ : List (Nat × Nat)) (H0 : AHeap) (v0 : AV) (H0' : AHeap), σ.length = H0.length → allRo H0 = true → Q H0 v0 H0' → K (putI d s (v0.ren (sig σ H.length))) (H ++ (H0'.drop H0.length).map (renRow (sig σ H.length)))) : thenC0 P K d s H args0 (.func f []) := by
  refine call_do0 h [] rfl (flatL_under hf) rfl rfl (by rw [List.append_nil, flatL_ren hf]) trivial fun v0 H0' hq => ?_
  have := hK [] [] v0 H0' rfl rfl hq
  rw [m_merge, m_nil]
  exact this
end

/-- What the closure finds in its boxes. -/
structure Boxes (H : AHeap) (t4 t5 t6 t7 t11 n k : Nat) (seen : Int) (w1 w2 wl : AV) (x y : Int) : Prop where
  r4 : Vh.rowAt H t4 = some ⟨true, false, [.int .i64 (n : Int)]⟩
  r5 : Vh.rowAt H t5 = some ⟨true, false, [.int .i64 (k : Int)]⟩
  r6 : Vh.rowAt H t6 = some ⟨true, false, [.int .i64 seen]⟩
  r7 : Vh.rowAt H t7 = some ⟨true, false, [w1, w2]⟩
  r11 : Vh.rowAt H t11 = some ⟨true, false, [wl]⟩
  den : ∃ r, AtK H w2 y r 64
  lim : ∃ r, AtK H wl (x * ((cnk n k : Nat) : Int)) r 81
theorem Boxes.base {H H' : AHeap} {t4 t5 t6 t7 t11 n k : Nat} {seen : Int} {w1 w2 wl : AV} {x y : Int} (h : Boxes H t4 t5 t6 t7 t11 n k seen w1 w2 wl x y) (hb : Base H H') : Boxes H' t4 t5 t6 t7 t11 n k seen w1 w2 wl x y := by
  obtain ⟨a, ha⟩ := h.den
  obtain ⟨b, hb'⟩ := h.lim
  exact ⟨hb.row h.r4, hb.row h.r5, hb.row h.r6, hb.row h.r7, hb.row h.r11, ⟨a, ha.keep (hb.2 a ha.lt)⟩, ⟨b, hb'.keep (hb.2 b hb'.lt)⟩⟩

set_option maxHeartbeats 1000000 in
theorem boundF_calls {H : AHeap} {t4 t5 t6 t7 t11 n k : Nat} {seen : Int} {w1 w2 wl : AV} {x y : Int} (h : Boxes H t4 t5 t6 t7 t11 n k seen w1 w2 wl x y) (hn : n ≤ 512) (hk : k ≤ n) (hs : -9223372036854775808 ≤ seen ∧ seen ≤ 9223372036854775807) {b : Nat} (hb : b ≤ n) :
    ACalls Tryd.prog 23 [.int .i64 (b : Int), .ptr t4 0, .ptr t5 0, .ptr t6 0, .ptr t7 0, .ptr t11 0] H (List.range H.length) fun v H' => v = .bool (exclP n k seen x y b) ∧ Base H H' := by
  refine ACalls.body Tryd.func23 ent_boundF ir_boundF_ok rs_boundF_ok Tryd.ntmps23 (by simp) rfl ?_
  unfold ir_boundF
  have e0 : s0 [.int .i64 (b : Int), .ptr t4 0, .ptr t5 0, .ptr t6 0, .ptr t7 0, .ptr t11 0] 0 = .int .i64 (b : Int) := rfl
  have e1 : s0 [.int .i64 (b : Int), .ptr t4 0, .ptr t5 0, .ptr t6 0, .ptr t7 0, .ptr t11 0] 1 = .ptr t4 0 := rfl
  have e2 : s0 [.int .i64 (b : Int), .ptr t4 0, .ptr t5 0, .ptr t6 0, .ptr t7 0, .ptr t11 0] 2 = .ptr t5 0 := rfl
  have e3 : s0 [.int .i64 (b : Int), .ptr t4 0, .ptr t5 0, .ptr t6 0, .ptr t7 0, .ptr t11 0] 3 = .ptr t6 0 := rfl
  have e4 : s0 [.int .i64 (b : Int), .ptr t4 0, .ptr t5 0, .ptr t6 0, .ptr t7 0, .ptr t11 0] 4 = .ptr t7 0 := rfl
  have e5 : s0 [.int .i64 (b : Int), .ptr t4 0, .ptr t5 0, .ptr t6 0, .ptr t7 0, .ptr t11 0] 5 = .ptr t11 0 := rfl
  obtain ⟨ra, hA⟩ := h.den
  obtain ⟨rb, hL⟩ := h.lim
  obtain ⟨g, hg⟩ : ∃ g, n = b + g := ⟨n - b, by omega⟩
  have hwT : wT n b k seen = wN b g k seen := by unfold wT; rw [show n - b = g by omega]
  have hsw := samplesWith_calls b g k seen (by omega) (by omega) hs.1 hs.2
  have hbb := wN_bb (b := b) (g := g) (k := k) (seen := seen) (by omega) (by omega)
  have r4 := h.r4
  rw [hg] at r4
  simp -implicitDefEqProofs (disch := omega) only [sN, ↓reduceIte, Nat.reduceEqDiff, Nat.reduceAdd, Nat.reduceMul, Nat.reduceSub, reduceCtorEq, e_none, e_some, e_bindS, e0, e1, e2, e3, e4, e5, r4, h.r5, h.r6, h.r7, h.r11, p_fieldAddr, Nat.zero_add, Option.bind_some, Option.map_some, List.getElem?_cons_zero, List.getElem?_cons_succ, List.map_cons, List.map_nil]
  refine call_in0_0 (Q := UpN ((wN b g k seen : Nat) : Int)) hsw rfl (hk_N fun R1 v1 n1 => ?_)
  simp -implicitDefEqProofs (disch := omega) only [sN, ↓reduceIte, Nat.reduceEqDiff, Nat.reduceAdd, Nat.reduceMul, Nat.reduceSub, reduceCtorEq, e_none, e_some, e_bindS, List.map_cons, List.map_nil]
  have hr : Vh.rowAt (H ++ R1) t7 = some ⟨true, false, [w1, w2]⟩ := Base.one.row h.r7
  obtain ⟨c1, m1⟩ := (n1.normAt hr).at hbb
  refine call_in2_0 in_mul rfl (m1.mono (by omega)) (hA.mono (show 64 ≤ 100000 by omega)).app (hk_N fun R2 v2 n2 => ?_)
  simp -implicitDefEqProofs (disch := omega) only [sN, ↓reduceIte, Nat.reduceEqDiff, Nat.reduceAdd, Nat.reduceMul, Nat.reduceSub, reduceCtorEq, e_none, e_some, e_bindS, List.map_cons, List.map_nil]
  have hr2 : Vh.rowAt (H ++ R1 ++ R2) t7 = some ⟨true, false, [w1, w2]⟩ := Base.one.row hr
  obtain ⟨c2, m2⟩ := (n2.normAt hr2).at (mul_pow (by omega) hA.nonneg hbb hA.lt_pow)
  refine call_in2 in_compare rfl (m2.mono (by omega)) (hL.mono (show 81 ≤ 100000 by omega)).app.app (hk_P (fun _ => rfl) fun R3 => ?_)
  have hfin : exclP n k seen x y b = decide (cmpI (((wN b g k seen : Nat) : Int) * y) (x * ((cnk n k : Nat) : Int)) ≤ 0) := by
    unfold exclP; rw [hwT]
    refine decide_eq_decide.2 ?_
    unfold cmpI
    constructor
    · intro h1; split
      · omega
      · split <;> omega
    · intro h1
      split at h1
      · omega
      · split at h1 <;> omega
  rw [hfin]
  generalize cmpI (((wN b g k seen : Nat) : Int) * y) (x * ((cnk n k : Nat) : Int)) = c
  simp -implicitDefEqProofs (disch := omega) only [sN, ↓reduceIte, Nat.reduceEqDiff, Nat.reduceAdd, Nat.reduceMul, Nat.reduceSub, reduceCtorEq, e_none, e_some, e_bindS]
  refine ret_keep (by simp) ⟨?_, Base.one.app.app⟩
  simp only [e_upd, e_putS, e_putN, e_t, e_c, Nat.reduceEqDiff, ↓reduceIte, reduceCtorEq, Nat.reduceAdd]
end Go.Proofs.YtpkeneadkiabiabDoor



/- Contracts: exact's Bound. -/
-- NEWSET
namespace Go.Proofs.YtpkeneadkiabiabDoor
open Go Go.Vh

def bdOK (total sample seen : Int) : Prop := 0 ≤ total ∧ total ≤ 512 ∧ 0 ≤ sample ∧ sample ≤ total ∧ 0 ≤ seen ∧ seen ≤ sample
instance (total sample seen : Int) : Decidable (bdOK total sample seen) := by unfold bdOK; infer_instance
def bdE (q : Fr) (total sample seen : Int) : Int := if cfE [q] = 0 then (if bdOK total sample seen then (if q.x < q.y then 0 else 2) else 3) else cfE [q]
def bdV (q : Fr) (total sample seen : Int) : Int := if bdE q total sample seen = 0 then ((lastF (exclP total.toNat sample.toNat seen q.x q.y) total.toNat : Nat) : Int) else 0
theorem x_bsF1 {s : St} {H : AHeap} {x : Opd} {v1 v2 z1 z2 : AV} (h1 : evo s x = .agg [v1, v2]) (c1 : v1.cell = true) (c2 : v2.cell = true) :
    ieff (.buildSlice 1 [z1, z2] [(0, (2, x))]) s H = some (.slice H.length 0 1 1, H ++ [rw_ [v1, v2]]) := by
  simp [ieff, h1, afill, aparts, c1, c2, anew, rw_]
theorem cfE1_short {q : Fr} (h : cfE [q] = 0) : q.n ≤ 64 ∧ q.m ≤ 64 ∧ q.y ≠ 0 := by
  unfold cfE at h
  split at h
  · rename_i hs
    split at h
    · rename_i hd
      simp [Fr.short] at hs
      simp [Fr.den] at hd
      exact ⟨hs.1, hs.2, hd⟩
    · omega
  · omega
theorem excl_zero {n k : Nat} {seen x y : Int} (hk : k ≤ n) (hs : 0 ≤ seen) (hxy : x < y) {b : Nat} (hb : b ≤ n) (hbs : (b : Int) ≤ seen) : exclP n k seen x y b = false := by
  unfold exclP
  rw [decide_eq_false_iff_not, wT_full hb hbs]
  have hc := cnk_pos2 n k hk
  intro h
  rw [Int.mul_comm x] at h
  have := Int.le_of_mul_le_mul_left h (show (0 : Int) < ((cnk n k : Nat) : Int) by omega)
  omega

def tr_bound : DTree := (.soft ⟨⟨(some 40), none, (.pure (.fieldAddr 0 (.t 7)))⟩, 0, 0⟩ (.soft ⟨⟨(some 41), none, (.eff (.load1 (.t 40)))⟩, 1, 1⟩ (.soft ⟨⟨(some 42), none, (.eff (.load1 (.t 4)))⟩, 2, 1⟩ (.soft ⟨⟨(some 43), none, (.eff (.load1 (.t 5)))⟩, 3, 1⟩ (.alt ⟨⟨(some 44), none, (.call (.c (.func 14 [])) [(.t 42), (.t 43)])⟩, 4, 2⟩ (.alt ⟨⟨(some 45), none, (.call (.c (.func 18 [])) [(.t 41), (.t 44)])⟩, 5, 3⟩ (.alt ⟨⟨(some 11), none, (.eff (.alloc [.nilslice]))⟩, 6, 2⟩ (.alt ⟨⟨none, none, (.eff (.store 1 (.t 11) (.t 45)))⟩, 7, 3⟩ .done .none) .none) (.alt ⟨⟨(some 11), none, (.eff (.alloc [.nilslice]))⟩, 6, 2⟩ (.alt ⟨⟨(some 45), none, (.call (.c (.func 18 [])) [(.t 41), (.t 44)])⟩, 5, 3⟩ (.alt ⟨⟨none, none, (.eff (.store 1 (.t 11) (.t 45)))⟩, 7, 3⟩ .done .none) .none) .none)) (.alt ⟨⟨(some 11), none, (.eff (.alloc [.nilslice]))⟩, 6, 2⟩ (.alt ⟨⟨(some 44), none, (.call (.c (.func 14 [])) [(.t 42), (.t 43)])⟩, 4, 2⟩ (.alt ⟨⟨(some 45), none, (.call (.c (.func 18 [])) [(.t 41), (.t 44)])⟩, 5, 3⟩ (.alt ⟨⟨none, none, (.eff (.store 1 (.t 11) (.t 45)))⟩, 7, 3⟩ .done .none) .none) .none) .none))))))

theorem bound_region {H : AHeap} {s : St} {r4 r5 r7 n k : Nat} {w1 w2 : AV} {x : Int} {a : Nat} (t4 : s 4 = .ptr r4 0) (t5 : s 5 = .ptr r5 0) (t7 : s 7 = .ptr r7 0)
    (h4 : Vh.rowAt H r4 = some ⟨true, false, [.int .i64 (n : Int)]⟩) (h5 : Vh.rowAt H r5 = some ⟨true, false, [.int .i64 (k : Int)]⟩) (h7 : Vh.rowAt H r7 = some ⟨true, false, [w1, w2]⟩) (hx : AtK H w1 x a 64) (hn : n ≤ 512) (hk : k ≤ 512) :
    iopsT Tryd.prog H tr_bound (fun s' H' => Base H H' ∧ (∃ r wl rl, s' 11 = .ptr r 0 ∧ Vh.rowAt H' r = some ⟨true, false, [wl]⟩ ∧ AtK H' wl (x * ((cnk n k : Nat) : Int)) rl 81) ∧ s' 4 = s 4 ∧ s' 5 = s 5 ∧ s' 6 = s 6 ∧ s' 7 = s 7) s H := by
  have hz : [AV.nilslice].all AV.cell = true := rfl
  have hcb : ((cnk n k : Nat) : Int) < BB ^ 17 := pow_bb (cnk_le n k) (by omega)
  have hpb := mul_pow hx.nonneg (show (0 : Int) ≤ ((cnk n k : Nat) : Int) by omega) hx.lt_pow hcb
  unfold tr_bound
  simp only [e_tsoft, e_stepN, e_pureD, e_effD1, e_thenL, p_fieldAddr, x_load1, e_thenP, e_putS, e_upd, e_t, e_c, Nat.reduceEqDiff, ↓reduceIte, t4, t5, t7, h4, h5, h7, Nat.zero_add, Option.bind_some, Option.map_some, List.getElem?_cons_zero, e_talt, e_talt1, e_callD2, List.map_cons, List.map_nil]
  refine ⟨?_, ?_⟩
  · refine call_in0_0 (Q := UpN ((cnk n k : Nat) : Int)) (choose_up (n := n) (j := k) (by omega) (by omega)) rfl (hk_N fun R1 v1 n1 => ?_)
    have hr1 : Vh.rowAt (H ++ R1) r7 = some ⟨true, false, [w1, w2]⟩ := Base.one.row h7
    obtain ⟨c1, m1⟩ := (n1.normAt hr1).at hcb
    simp only [e_talt, e_talt1, e_stepN, e_callD3, e_effD2, e_putS, e_upd, e_t, e_c, Nat.reduceEqDiff, ↓reduceIte, List.map_cons, List.map_nil]
    refine ⟨?_, ?_⟩
    · refine call_in2 in_mul rfl (hx.mono (show 64 ≤ 100000 by omega)).app (m1.mono (by omega)) (hk_N fun R2 v2 n2 => ?_)
      have hr2 : Vh.rowAt (H ++ R1 ++ R2) r7 = some ⟨true, false, [w1, w2]⟩ := Base.one.row hr1
      obtain ⟨c2, m2⟩ := (n2.normAt hr2).at hpb
      simp only [e_talt1, e_stepN, e_effD2, e_effD3, e_putS, e_upd, e_t, e_c, Nat.reduceEqDiff, ↓reduceIte]
      rw [x_allocA hz]
      simp only [e_thenE, e_talt1, e_stepN, e_effD2, e_effD3, e_putS, e_upd, e_t, e_c, Nat.reduceEqDiff, ↓reduceIte]
      rw [x_store1A (r := (H ++ R1 ++ R2).length) (off := 0) (v := v2) (l := [.nilslice]) (by simp only [e_upd, e_putS, e_putN, e_t, e_c, Nat.reduceEqDiff, ↓reduceIte, reduceCtorEq, Nat.reduceAdd]) (by simp only [e_upd, e_putS, e_putN, e_t, e_c, Nat.reduceEqDiff, ↓reduceIte, reduceCtorEq, Nat.reduceAdd]) n2.cell (by simp [Vh.rowAt, rw_]) (by simp), List.set_cons_zero, set_last]
      simp only [e_thenE, e_tdone, e_putN, e_upd, e_t, e_c, Nat.reduceEqDiff, ↓reduceIte]
      exact ⟨Base.one.app.app, ⟨_, v2, c2, rfl, by simp [Vh.rowAt, rw_], m2.app⟩, t4, t5, trivial, t7⟩
    · rw [x_allocA hz]
      simp only [e_thenE, e_talt1, e_stepN, e_callD3, e_effD2, e_effD3, e_putS, e_upd, e_t, e_c, Nat.reduceEqDiff, ↓reduceIte, List.map_cons, List.map_nil]
      refine call_in2 in_mul rfl (hx.mono (show 64 ≤ 100000 by omega)).app.app (m1.mono (by omega)).app (hk_N fun R2 v2 n2 => ?_)
      have hr2 : Vh.rowAt (H ++ R1 ++ [rw_ [.nilslice]] ++ R2) r7 = some ⟨true, false, [w1, w2]⟩ := Base.one.row (Base.one.row hr1)
      simp only [e_talt1, e_stepN, e_effD2, e_effD3, e_putS, e_upd, e_t, e_c, Nat.reduceEqDiff, ↓reduceIte]
      have hlen : (H ++ R1).length < (H ++ R1 ++ [rw_ [.nilslice]] ++ R2).length := by simp
      have hrow : Vh.rowAt (H ++ R1 ++ [rw_ [.nilslice]] ++ R2) (H ++ R1).length = some ⟨true, false, [.nilslice]⟩ := by rw [rowAt_append_left (by simp)]; simp [Vh.rowAt, rw_]
      rw [x_store1A (r := (H ++ R1).length) (off := 0) (v := v2) (l := [.nilslice]) (by simp only [e_upd, e_putS, e_putN, e_t, e_c, Nat.reduceEqDiff, ↓reduceIte, reduceCtorEq, Nat.reduceAdd]) (by simp only [e_upd, e_putS, e_putN, e_t, e_c, Nat.reduceEqDiff, ↓reduceIte, reduceCtorEq, Nat.reduceAdd]) n2.cell hrow (by simp), List.set_cons_zero]
      simp only [e_thenE, e_tdone, e_putN, e_upd, e_t, e_c, Nat.reduceEqDiff, ↓reduceIte]
      have hB : Base H ((H ++ R1 ++ [rw_ [.nilslice]] ++ R2).set (H ++ R1).length (rw_ [v2])) := (Base.one.app.app).set (by simp)
      obtain ⟨c2, m2⟩ := ((n2.set (q := (H ++ R1).length) (row := rw_ [v2]) (by simp)).normAt (hB.row h7)).at hpb
      exact ⟨hB, ⟨_, v2, c2, rfl, by rw [rowAt_set hlen, if_pos rfl]; rfl, m2⟩, t4, t5, trivial, t7⟩
  · simp only [e_talt1, e_stepN, e_effD2]
    rw [x_allocA hz]
    simp only [e_thenE, e_talt1, e_stepN, e_callD2, e_effD2, e_effD3, e_putS, e_upd, e_t, e_c, Nat.reduceEqDiff, ↓reduceIte, List.map_cons, List.map_nil]
    refine call_in0_0 (Q := UpN ((cnk n k : Nat) : Int)) (choose_up (n := n) (j := k) (by omega) (by omega)) rfl (hk_N fun R1 v1 n1 => ?_)
    have hr1 : Vh.rowAt (H ++ [rw_ [.nilslice]] ++ R1) r7 = some ⟨true, false, [w1, w2]⟩ := Base.one.row (Base.one.row h7)
    obtain ⟨c1, m1⟩ := (n1.normAt hr1).at hcb
    simp only [e_talt1, e_stepN, e_callD3, e_effD2, e_effD3, e_putS, e_upd, e_t, e_c, Nat.reduceEqDiff, ↓reduceIte, List.map_cons, List.map_nil]
    refine call_in2 in_mul rfl (hx.mono (show 64 ≤ 100000 by omega)).app.app (m1.mono (by omega)) (hk_N fun R2 v2 n2 => ?_)
    simp only [e_talt1, e_stepN, e_effD2, e_effD3, e_putS, e_upd, e_t, e_c, Nat.reduceEqDiff, ↓reduceIte]
    have hlen : H.length < (H ++ [rw_ [.nilslice]] ++ R1 ++ R2).length := by simp
    have hrow : Vh.rowAt (H ++ [rw_ [.nilslice]] ++ R1 ++ R2) H.length = some ⟨true, false, [.nilslice]⟩ := by rw [rowAt_append_left (by simp), rowAt_append_left (by simp)]; simp [Vh.rowAt, rw_]
    rw [x_store1A (r := H.length) (off := 0) (v := v2) (l := [.nilslice]) (by simp only [e_upd, e_putS, e_putN, e_t, e_c, Nat.reduceEqDiff, ↓reduceIte, reduceCtorEq, Nat.reduceAdd]) (by simp only [e_upd, e_putS, e_putN, e_t, e_c, Nat.reduceEqDiff, ↓reduceIte, reduceCtorEq, Nat.reduceAdd]) n2.cell hrow (by simp), List.set_cons_zero]
    simp only [e_thenE, e_tdone, e_putN, e_upd, e_t, e_c, Nat.reduceEqDiff, ↓reduceIte]
    have hB : Base H ((H ++ [rw_ [.nilslice]] ++ R1 ++ R2).set H.length (rw_ [v2])) := (Base.one.app.app).set (Nat.le_refl _)
    obtain ⟨c2, m2⟩ := ((n2.set (q := H.length) (row := rw_ [v2]) (by simp)).normAt (hB.row h7)).at hpb
    exact ⟨hB, ⟨_, v2, c2, rfl, by rw [rowAt_set hlen, if_pos rfl]; rfl, m2⟩, t4, t5, trivial, t7⟩
end Go.Proofs.YtpkeneadkiabiabDoor



/- Contracts: exact's Bound, as a whole. -/
-- NEWSET
namespace Go.Proofs.YtpkeneadkiabiabDoor
open Go Go.Vh

set_option maxHeartbeats 2000000 in
theorem xBound_calls (H0 : AHeap) {q : Fr} (hq : q.ok H0) (total sample seen : Int) (h0 : -9223372036854775808 ≤ total ∧ total ≤ 9223372036854775807) (h1 : -9223372036854775808 ≤ sample ∧ sample ≤ 9223372036854775807) (h2 : -9223372036854775808 ≤ seen ∧ seen ≤ 9223372036854775807) :
    ACalls Tryd.prog 10 [.int .i64 total, .int .i64 sample, .int .i64 seen, .agg [q.w, q.w2]] H0 (List.range H0.length) fun v H => v = .tuple [.int .i64 (bdV q total sample seen), .int .i64 (bdE q total sample seen)] ∧ Base H0 H := by
  refine ACalls.body Tryd.func10 ent_xBound ir_xBound_ok rs_xBound_ok Tryd.ntmps10 (by simp) rfl ?_
  unfold ir_xBound
  have e0 : s0 [.int .i64 total, .int .i64 sample, .int .i64 seen, .agg [q.w, q.w2]] 0 = .int .i64 total := rfl
  have e1 : s0 [.int .i64 total, .int .i64 sample, .int .i64 seen, .agg [q.w, q.w2]] 1 = .int .i64 sample := rfl
  have e2 : s0 [.int .i64 total, .int .i64 sample, .int .i64 seen, .agg [q.w, q.w2]] 2 = .int .i64 seen := rfl
  have e3 : s0 [.int .i64 total, .int .i64 sample, .int .i64 seen, .agg [q.w, q.w2]] 3 = .agg [q.w, q.w2] := rfl
  have hrs : rs_xBound = [.tmp 8, .tmp 9] := rfl
  rw [hrs]
  simp -implicitDefEqProofs (disch := omega) only [sN, ↓reduceIte, Nat.reduceEqDiff, Nat.reduceAdd, Nat.reduceMul, Nat.reduceSub, reduceCtorEq, e_none, e_some, e_bindS, e0, e1, e2, e3]
  rw [x_boxA (v := .int .i64 total) (by simp only [e_upd, e_putS, e_putN, e_t, e_c, Nat.reduceEqDiff, ↓reduceIte, reduceCtorEq, Nat.reduceAdd, e0]) rfl]
  simp -implicitDefEqProofs (disch := omega) only [sN, ↓reduceIte, Nat.reduceEqDiff, Nat.reduceAdd, Nat.reduceMul, Nat.reduceSub, reduceCtorEq, e_none, e_some, e_bindS, e0, e1, e2, e3]
  rw [x_boxA (v := .int .i64 sample) (by simp only [e_upd, e_putS, e_putN, e_t, e_c, Nat.reduceEqDiff, ↓reduceIte, reduceCtorEq, Nat.reduceAdd, e1]) rfl]
  simp -implicitDefEqProofs (disch := omega) only [sN, ↓reduceIte, Nat.reduceEqDiff, Nat.reduceAdd, Nat.reduceMul, Nat.reduceSub, reduceCtorEq, e_none, e_some, e_bindS, e0, e1, e2, e3]
  rw [x_boxA (v := .int .i64 seen) (by simp only [e_upd, e_putS, e_putN, e_t, e_c, Nat.reduceEqDiff, ↓reduceIte, reduceCtorEq, Nat.reduceAdd, e2]) rfl]
  simp -implicitDefEqProofs (disch := omega) only [sN, ↓reduceIte, Nat.reduceEqDiff, Nat.reduceAdd, Nat.reduceMul, Nat.reduceSub, reduceCtorEq, e_none, e_some, e_bindS, e0, e1, e2, e3]
  rw [x_boxN (l := [q.w, q.w2]) (by simp only [e_upd, e_putS, e_putN, e_t, e_c, Nat.reduceEqDiff, ↓reduceIte, reduceCtorEq, Nat.reduceAdd, e3]) (by simp [hq.1.cell, hq.2.1.cell])]
  obtain ⟨a4, ha4⟩ : ∃ a, a = H0.length := ⟨_, rfl⟩
  obtain ⟨a5, ha5⟩ : ∃ a, a = (H0 ++ [rw_ [.int .i64 total]]).length := ⟨_, rfl⟩
  obtain ⟨a6, ha6⟩ : ∃ a, a = (H0 ++ [rw_ [.int .i64 total]] ++ [rw_ [.int .i64 sample]]).length := ⟨_, rfl⟩
  obtain ⟨a7, ha7⟩ : ∃ a, a = (H0 ++ [rw_ [.int .i64 total]] ++ [rw_ [.int .i64 sample]] ++ [rw_ [.int .i64 seen]]).length := ⟨_, rfl⟩
  obtain ⟨H1, hH1⟩ : ∃ h, h = H0 ++ [rw_ [.int .i64 total]] ++ [rw_ [.int .i64 sample]] ++ [rw_ [.int .i64 seen]] ++ [rw_ [q.w, q.w2]] := ⟨_, rfl⟩
  have hB1 : Base H0 H1 := by rw [hH1]; exact Base.one.app.app.app
  have r4 : Vh.rowAt H1 a4 = some ⟨true, false, [.int .i64 total]⟩ := by rw [hH1, ha4, rowAt_append_left (by simp), rowAt_append_left (by simp), rowAt_append_left (by simp)]; simp [Vh.rowAt, rw_]
  have r5 : Vh.rowAt H1 a5 = some ⟨true, false, [.int .i64 sample]⟩ := by rw [hH1, ha5, rowAt_append_left (by simp), rowAt_append_left (by simp)]; simp [Vh.rowAt, rw_]
  have r6 : Vh.rowAt H1 a6 = some ⟨true, false, [.int .i64 seen]⟩ := by rw [hH1, ha6, rowAt_append_left (by simp)]; simp [Vh.rowAt, rw_]
  have r7 : Vh.rowAt H1 a7 = some ⟨true, false, [q.w, q.w2]⟩ := by rw [hH1, ha7]; simp [Vh.rowAt, rw_]
  rw [← ha4, ← ha5, ← ha6, ← ha7, ← hH1]
  simp -implicitDefEqProofs (disch := omega) only [sN, ↓reduceIte, Nat.reduceEqDiff, Nat.reduceAdd, Nat.reduceMul, Nat.reduceSub, reduceCtorEq, e_none, e_some, e_bindS]
  rw [x_loadNA (n := 2) (r := a7) (l := [q.w, q.w2]) (by simp only [e_upd, e_putS, e_putN, e_t, e_c, Nat.reduceEqDiff, ↓reduceIte, reduceCtorEq, Nat.reduceAdd]) r7 rfl rfl]
  simp -implicitDefEqProofs (disch := omega) only [sN, ↓reduceIte, Nat.reduceEqDiff, Nat.reduceAdd, Nat.reduceMul, Nat.reduceSub, reduceCtorEq, e_none, e_some, e_bindS]
  rw [x_bsF1 (v1 := q.w) (v2 := q.w2) (by simp only [e_upd, e_putS, e_putN, e_t, e_c, Nat.reduceEqDiff, ↓reduceIte, reduceCtorEq, Nat.reduceAdd]) hq.1.cell hq.2.1.cell]
  simp -implicitDefEqProofs (disch := omega) only [sN, ↓reduceIte, Nat.reduceEqDiff, Nat.reduceAdd, Nat.reduceMul, Nat.reduceSub, reduceCtorEq, e_none, e_some, e_bindS, List.map_cons, List.map_nil]
  have hB2 : Base H0 (H1 ++ [rw_ [q.w, q.w2]]) := hB1.app
  refine ⟨_, (checkFracs_calls (H1 ++ [rw_ [q.w, q.w2]]) [q] (n := 1) (r := H1.length) (row := ⟨true, false, [q.w, q.w2]⟩) rfl (by omega) (by simp [Vh.rowAt, rw_]) rfl ?_).g.mono ?_⟩
  · intro f hf
    simp only [List.mem_cons, List.not_mem_nil, or_false] at hf
    subst hf
    exact hq.base hB2
  rintro v H ⟨rfl, hB3⟩
  have hBH := hB2.trans hB3
  have hB1H : Base H1 H := Base.one.trans hB3
  have q4 := hB1H.row r4
  have q5 := hB1H.row r5
  have q6 := hB1H.row r6
  have q7 := hB1H.row r7
  clear r4 r5 r6 r7 hB3 hB2 hH1 ha5 ha6 ha7
  by_cases he : cfE [q] = 0
  · obtain ⟨l1, l2, l3⟩ := cfE1_short he
    rw [he]
    simp -implicitDefEqProofs (disch := omega) only [sN, ↓reduceIte, Nat.reduceEqDiff, Nat.reduceAdd, Nat.reduceMul, Nat.reduceSub, reduceCtorEq, e_none, e_some, e_bindS, q4, Option.bind_some, Option.map_some, List.getElem?_cons_zero, List.map_cons, List.map_nil]
    refine call_within rfl ?_
    by_cases hok : bdOK total sample seen
    · obtain ⟨o1, o2, o3, o4, o5, o6⟩ := id hok
      have g1 : decide (0 ≤ total ∧ total ≤ 512) = true := decide_eq_true ⟨o1, o2⟩
      have g2 : decide (0 ≤ sample ∧ sample ≤ total) = true := decide_eq_true ⟨o3, o4⟩
      have g3 : decide (0 ≤ seen ∧ seen ≤ sample) = true := decide_eq_true ⟨o5, o6⟩
      simp -implicitDefEqProofs (disch := omega) only [sN, ↓reduceIte, Nat.reduceEqDiff, Nat.reduceAdd, Nat.reduceMul, Nat.reduceSub, reduceCtorEq, e_none, e_some, e_bindS, g1, q4, q5, Option.bind_some, Option.map_some, List.getElem?_cons_zero, List.map_cons, List.map_nil]
      refine call_within g2 ?_
      simp -implicitDefEqProofs (disch := omega) only [sN, ↓reduceIte, Nat.reduceEqDiff, Nat.reduceAdd, Nat.reduceMul, Nat.reduceSub, reduceCtorEq, e_none, e_some, e_bindS, q5, q6, Option.bind_some, Option.map_some, List.getElem?_cons_zero, List.map_cons, List.map_nil]
      refine call_within g3 ?_
      simp -implicitDefEqProofs (disch := omega) only [sN, ↓reduceIte, Nat.reduceEqDiff, Nat.reduceAdd, Nat.reduceMul, Nat.reduceSub, reduceCtorEq, e_none, e_some, e_bindS, q7, p_fieldAddr, Nat.zero_add, Option.bind_some, Option.map_some, List.getElem?_cons_zero, List.getElem?_cons_succ, List.map_cons, List.map_nil]
      obtain ⟨b1, k1⟩ := (hq.1.base hBH).k l1
      obtain ⟨b2, k2⟩ := (hq.2.1.base hBH).k l2
      refine call_in2 in_compare rfl (k1.mono (by omega)) (k2.mono (by omega)) (hk_P (fun _ => rfl) fun R => ?_)
      by_cases hxy : q.x < q.y
      · have hc : cmpI q.x q.y = -1 := by unfold cmpI; rw [if_pos hxy]
        have hE : bdE q total sample seen = 0 := by unfold bdE; rw [if_pos he, if_pos hok, if_pos hxy]
        have hV : bdV q total sample seen = ((lastF (exclP total.toNat sample.toNat seen q.x q.y) total.toNat : Nat) : Int) := by unfold bdV; rw [if_pos hE]
        rw [hE, hV, hc]
        obtain ⟨n, rfl⟩ := Int.eq_ofNat_of_zero_le o1
        obtain ⟨k, rfl⟩ := Int.eq_ofNat_of_zero_le o3
        rw [Int.toNat_natCast, Int.toNat_natCast]
        have hBR : Base H (H ++ R) := Base.one
        simp -implicitDefEqProofs (disch := omega) only [sN, ↓reduceIte, Nat.reduceEqDiff, Nat.reduceAdd, Nat.reduceMul, Nat.reduceSub, reduceCtorEq, e_none, e_some, e_bindS]
        refine tops_gen _ (bound_region (r4 := a4) (r5 := a5) (r7 := a7) (n := n) (k := k) (w1 := q.w) (w2 := q.w2) (x := q.x) (a := b1) (by simp only [e_upd, e_putS, e_putN, e_t, e_c, Nat.reduceEqDiff, ↓reduceIte, reduceCtorEq, Nat.reduceAdd]) (by simp only [e_upd, e_putS, e_putN, e_t, e_c, Nat.reduceEqDiff, ↓reduceIte, reduceCtorEq, Nat.reduceAdd]) (by simp only [e_upd, e_putS, e_putN, e_t, e_c, Nat.reduceEqDiff, ↓reduceIte, reduceCtorEq, Nat.reduceAdd]) (hBR.row q4) (hBR.row q5) (hBR.row q7) k1.app (by omega) (by omega)) ?_
        rintro s' H' ⟨hB', ⟨r11, wl, rl, t11, hr11, hwl⟩, t4, t5, t6, t7⟩
        have hBH' : Base H H' := hBR.trans hB'
        have t4' : s' 4 = .ptr a4 0 := by rw [t4]; simp only [e_upd, e_putS, e_putN, e_t, e_c, Nat.reduceEqDiff, ↓reduceIte, reduceCtorEq, Nat.reduceAdd]
        have t5' : s' 5 = .ptr a5 0 := by rw [t5]; simp only [e_upd, e_putS, e_putN, e_t, e_c, Nat.reduceEqDiff, ↓reduceIte, reduceCtorEq, Nat.reduceAdd]
        have t6' : s' 6 = .ptr a6 0 := by rw [t6]; simp only [e_upd, e_putS, e_putN, e_t, e_c, Nat.reduceEqDiff, ↓reduceIte, reduceCtorEq, Nat.reduceAdd]
        have t7' : s' 7 = .ptr a7 0 := by rw [t7]; simp only [e_upd, e_putS, e_putN, e_t, e_c, Nat.reduceEqDiff, ↓reduceIte, reduceCtorEq, Nat.reduceAdd]
        clear t4 t5 t6 t7
        have hbox : Boxes H' a4 a5 a6 a7 r11 n k seen q.w q.w2 wl q.x q.y := ⟨hBH'.row q4, hBH'.row q5, hBH'.row q6, hBH'.row q7, hr11, ⟨b2, k2.keep (hBH'.2 b2 k2.lt)⟩, ⟨rl, hwl⟩⟩
        have hn1 : (n : Int) + 1 = ((n + 1 : Nat) : Int) := by omega
        simp -implicitDefEqProofs (disch := omega) only [sN, ↓reduceIte, Nat.reduceEqDiff, Nat.reduceAdd, Nat.reduceMul, Nat.reduceSub, reduceCtorEq, e_none, e_some, e_bindS, t4', t5', t6', t7', t11, hbox.r4, hn1, p_makeFunc, Option.bind_some, Option.map_some, List.getElem?_cons_zero, List.map_cons, List.map_nil]
        refine ⟨_, (search_calls H' (f := 23) (caps := [.ptr a4 0, .ptr a5 0, .ptr a6 0, .ptr a7 0, .ptr r11 0]) (n := n + 1) (by omega) (exclP n k seen q.x q.y) (exclP_mono (by have := k2.nonneg; omega)) fun H2 j hb hj => ⟨_, boundF_calls (hbox.base hb) (by omega) (by omega) h2 (by omega)⟩).g.mono ?_⟩
        rintro v H2 ⟨hB2, r, rfl, hr1, hr2, hr3⟩
        have hz := excl_zero (n := n) (k := k) (seen := seen) (x := q.x) (y := q.y) (by omega) o5 hxy (b := 0) (by omega) (by omega)
        have hr0 : r ≠ 0 := by
          intro h; subst h
          have := hr3 0 (by omega) (by omega)
          rw [hz] at this; cases this
        have hlast : lastF (exclP n k seen q.x q.y) n = r - 1 := lastF_eq (by omega) (fun _ => hr2 _ (by omega)) fun i h3 h4 => hr3 i (by omega) (by omega)
        have hri : (r : Int) - 1 = ((r - 1 : Nat) : Int) := by omega
        rw [hlast]
        simp -implicitDefEqProofs (disch := omega) only [sN, ↓reduceIte, Nat.reduceEqDiff, Nat.reduceAdd, Nat.reduceMul, Nat.reduceSub, reduceCtorEq, e_none, e_some, e_bindS, hri]
        refine ret_keep (by rw [ha4]; exact (hBH.trans (hBH'.trans hB2)).1) ?_
        rw [q_tmp2, q_then]
        refine ⟨?_, hBH.trans (hBH'.trans hB2)⟩
        simp only [e_upd, e_putS, e_putN, e_t, e_c, Nat.reduceEqDiff, ↓reduceIte, reduceCtorEq, Nat.reduceAdd]
      · have hc : 0 ≤ cmpI q.x q.y := by unfold cmpI; rw [if_neg hxy]; split <;> omega
        have hE : bdE q total sample seen = 2 := by unfold bdE; rw [if_pos he, if_pos hok, if_neg hxy]
        have hV : bdV q total sample seen = 0 := by unfold bdV; rw [if_neg (by rw [hE]; decide)]
        rw [hE, hV]
        simp -implicitDefEqProofs (disch := omega) only [sN, ↓reduceIte, Nat.reduceEqDiff, Nat.reduceAdd, Nat.reduceMul, Nat.reduceSub, reduceCtorEq, e_none, e_some, e_bindS]
        refine ret_keep (by rw [ha4]; exact hBH.app.1) ?_
        rw [q_tmp2, q_then]
        refine ⟨?_, hBH.app⟩
        simp only [e_upd, e_putS, e_putN, e_t, e_c, Nat.reduceEqDiff, ↓reduceIte, reduceCtorEq, Nat.reduceAdd]
    · have hE : bdE q total sample seen = 3 := by unfold bdE; rw [if_pos he, if_neg hok]
      have hV : bdV q total sample seen = 0 := by unfold bdV; rw [if_neg (by rw [hE]; decide)]
      rw [hE, hV]
      by_cases c1 : 0 ≤ total ∧ total ≤ 512
      · have g1 : decide (0 ≤ total ∧ total ≤ 512) = true := decide_eq_true c1
        simp -implicitDefEqProofs (disch := omega) only [sN, ↓reduceIte, Nat.reduceEqDiff, Nat.reduceAdd, Nat.reduceMul, Nat.reduceSub, reduceCtorEq, e_none, e_some, e_bindS, g1, q4, q5, Option.bind_some, Option.map_some, List.getElem?_cons_zero, List.map_cons, List.map_nil]
        refine call_within rfl ?_
        by_cases c2 : 0 ≤ sample ∧ sample ≤ total
        · have g2 : decide (0 ≤ sample ∧ sample ≤ total) = true := decide_eq_true c2
          have g3 : decide (0 ≤ seen ∧ seen ≤ sample) = false := decide_eq_false fun c3 => hok ⟨c1.1, c1.2, c2.1, c2.2, c3.1, c3.2⟩
          simp -implicitDefEqProofs (disch := omega) only [sN, ↓reduceIte, Nat.reduceEqDiff, Nat.reduceAdd, Nat.reduceMul, Nat.reduceSub, reduceCtorEq, e_none, e_some, e_bindS, g2, q5, q6, Option.bind_some, Option.map_some, List.getElem?_cons_zero, List.map_cons, List.map_nil]
          refine call_within g3 ?_
          simp -implicitDefEqProofs (disch := omega) only [sN, ↓reduceIte, Nat.reduceEqDiff, Nat.reduceAdd, Nat.reduceMul, Nat.reduceSub, reduceCtorEq, e_none, e_some, e_bindS]
          refine ret_keep (by rw [ha4]; exact hBH.1) ?_
          rw [q_tmp2, q_then]
          refine ⟨?_, hBH⟩
          simp only [e_upd, e_putS, e_putN, e_t, e_c, Nat.reduceEqDiff, ↓reduceIte, reduceCtorEq, Nat.reduceAdd]
        · have g2 : decide (0 ≤ sample ∧ sample ≤ total) = false := decide_eq_false c2
          simp -implicitDefEqProofs (disch := omega) only [sN, ↓reduceIte, Nat.reduceEqDiff, Nat.reduceAdd, Nat.reduceMul, Nat.reduceSub, reduceCtorEq, e_none, e_some, e_bindS, g2]
          refine ret_keep (by rw [ha4]; exact hBH.1) ?_
          rw [q_tmp2, q_then]
          refine ⟨?_, hBH⟩
          simp only [e_upd, e_putS, e_putN, e_t, e_c, Nat.reduceEqDiff, ↓reduceIte, reduceCtorEq, Nat.reduceAdd]
      · have g1 : decide (0 ≤ total ∧ total ≤ 512) = false := decide_eq_false c1
        simp -implicitDefEqProofs (disch := omega) only [sN, ↓reduceIte, Nat.reduceEqDiff, Nat.reduceAdd, Nat.reduceMul, Nat.reduceSub, reduceCtorEq, e_none, e_some, e_bindS, g1]
        refine ret_keep (by rw [ha4]; exact hBH.1) ?_
        rw [q_tmp2, q_then]
        refine ⟨?_, hBH⟩
        simp only [e_upd, e_putS, e_putN, e_t, e_c, Nat.reduceEqDiff, ↓reduceIte, reduceCtorEq, Nat.reduceAdd]
  · have hE : bdE q total sample seen = cfE [q] := by unfold bdE; rw [if_neg he]
    have hV : bdV q total sample seen = 0 := by unfold bdV; rw [if_neg (by rw [hE]; exact he)]
    rw [hE, hV]
    simp -implicitDefEqProofs (disch := omega) only [sN, ↓reduceIte, Nat.reduceEqDiff, Nat.reduceAdd, Nat.reduceMul, Nat.reduceSub, reduceCtorEq, e_none, e_some, e_bindS]
    refine ret_keep (by rw [ha4]; exact hBH.1) ?_
    rw [q_tmp2, q_then]
    refine ⟨?_, hBH⟩
    simp only [e_upd, e_putS, e_putN, e_t, e_c, Nat.reduceEqDiff, ↓reduceIte, reduceCtorEq, Nat.reduceAdd]
end Go.Proofs.YtpkeneadkiabiabDoor


