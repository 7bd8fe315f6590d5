/- Contracts of stage 4: all shifts are visited. -/
import Derived.Test.YthbhljolpnbdlaaVX
import Derived.Test.YthbhljolpnbdlaaTN
import Derived.Test.YthbhljolpnbdlaaRC
import Derived.Test.YthbhljolpnbdlaaTJ
set_option linter.unusedSimpArgs false
set_option linter.unusedVariables false
-- NEWSET
namespace Go.Vh
open Go
section
variable {P : Program} {y : YEnv} {n0 : Nat} {Q : AExit → St → AHeap → Prop} {K : St → AHeap → Prop} {s : St} {H H0 : AHeap} {d : Option Nat} {v : AV}
theorem y_skip : iwpY P y n0 .skip Q s H = Q .normal s H := rfl
theorem y_ops {l} : iwpY P y n0 (.ops l) Q s H = iopsY P y l (Q .normal) s H := rfl
theorem y_seq {a b} : iwpY P y n0 (.seq a b) Q s H = iwpY P y n0 a (seqPost (iwpY P y n0 b Q) Q) s H := rfl
theorem y_cond {c a b} : iwpY P y n0 (.cond c a b) Q s H = condPost (iwpY P y n0 a Q s H) (iwpY P y n0 b Q s H) (evo s c) := rfl
theorem y_block {id a} : iwpY P y n0 (.block id a) Q s H = iwpY P y n0 a (blockPost id Q) s H := rfl
theorem y_exit {id} : iwpY P y n0 (.exit id) Q s H = Q (.exit id) s H := rfl
theorem y_ret : iwpY P y n0 .ret Q s H = Q .ret s H := rfl
theorem y_loop {a} : iwpY P y n0 (.loop a) Q s H = ∃ (I : Nat → St → AHeap → Prop) (n : Nat), I n s H ∧ ∀ n s H, I n s H → iwpY P y n0 a (seqPost (loopPost n0 I n) Q) s H := rfl
theorem y_nil : iopsY P y [] K s H = K s H := rfl
theorem y_consN {o l} : iopsY P y (⟨d, none, o⟩ :: l) K s H = iopY P y d o (iopsY P y l K) s H := rfl
theorem y_consG {t b o l} : iopsY P y (⟨d, some (t, b), o⟩ :: l) K s H = guardP (iopY P y d o (iopsY P y l K) s H) (iopsY P y l K (putI d s unv) H) b (s t) := rfl
theorem y_pure {p} : iopY P y d (.pure p) K s H = thenP K d s H (ipure p s) := rfl
theorem y_call {f args} : iopY P y d (.call f args) K s H = yieldC P y K d s H (args.map (evo s)) (evo s f) := rfl
theorem y_yld {args} : yieldC P y K d s H args (.yld y.ry) = y.Y args H fun H' => K (putI d s (.bool true)) H' := by
  unfold yieldC
  simp
end
end Go.Vh
namespace Go.Proofs.Ythbhljolpnbdlaa
open Go Go.Vh

theorem shifts_calls {γ : Nat → AV} {y : YEnv} (H0 : AHeap) (J : Nat → AHeap → Prop) (hlen : ∀ k H, J k H → H0.length ≤ H.length) (hJ : J 0 H0)
    (hstep : ∀ k H (K : AHeap → Prop), k ≤ 32 → J k H → (∀ H', J (k + 1) H' → K H') → y.Y [.int .i64 (shf k)] H K) (R : AHeap → Prop) (hR : ∀ H', J 33 H' → R H') :
    ACallsY Try.prog γ 52 [.yld y.ry] H0 y fun _ H' => R H' := by
  refine ACallsY.body Try.func52 ent_shifts ir_shifts_ok rs_shifts_ok Try.ntmps52 (by simp) rfl ?_
  unfold ir_shifts
  have e0 : s0G γ [.yld y.ry] 0 = .yld y.ry := rfl
  simp (disch := omega) only [sN, ↓reduceIte, Nat.reduceEqDiff, Nat.reduceAdd, Nat.reduceMul, Nat.reduceSub, reduceCtorEq, e_none, e_some, e_bindS, y_seq, y_ops, y_nil, y_consN, y_consG, y_pure, y_call, y_yld, e0, List.map_cons, List.map_nil]
  refine hstep 0 H0 _ (by omega) hJ fun H1 hJ1 => ?_
  simp (disch := omega) only [sN, ↓reduceIte, Nat.reduceEqDiff, Nat.reduceAdd, Nat.reduceMul, Nat.reduceSub, reduceCtorEq, e_none, e_some, e_bindS, y_seq, y_ops, y_nil, y_consN, y_consG, y_pure, y_call, y_yld, y_skip, y_cond, y_block, y_ret, y_loop, y_exit, e0, List.map_cons, List.map_nil]
  refine ⟨fun t s H => ∃ i : Nat, t = 16 - i ∧ i ≤ 16 ∧ J (2 * i + 1) H ∧ s 0 = .yld y.ry ∧ s 2 = .int .i64 ((i : Int) + 1), 16, ⟨0, rfl, by omega, hJ1, ?_, ?_⟩, ?_⟩
  · simp only [e_upd, e_putS, e_putN, e_t, e_c, Nat.reduceEqDiff, ↓reduceIte, reduceCtorEq, Nat.reduceAdd, e0]
  · simp only [e_upd, e_putS, e_putN, e_t, e_c, Nat.reduceEqDiff, ↓reduceIte, reduceCtorEq, Nat.reduceAdd]; rfl
  rintro t s H ⟨i, rfl, hi, hJi, h0, h2⟩
  by_cases hlt : i < 16
  · simp (disch := omega) only [sN, ↓reduceIte, Nat.reduceEqDiff, Nat.reduceAdd, Nat.reduceMul, Nat.reduceSub, reduceCtorEq, e_none, e_some, e_bindS, y_seq, y_ops, y_nil, y_consN, y_consG, y_pure, y_call, y_yld, y_skip, y_cond, y_block, y_ret, y_exit, h0, h2, List.map_cons, List.map_nil]
    rw [p_negv4 (a := (i : Int) + 1) (by simp only [e_upd, e_putS, e_putN, e_t, e_c, Nat.reduceEqDiff, ↓reduceIte, reduceCtorEq, Nat.reduceAdd]) (by omega)]
    simp (disch := omega) only [sN, ↓reduceIte, Nat.reduceEqDiff, Nat.reduceAdd, Nat.reduceMul, Nat.reduceSub, reduceCtorEq, e_none, e_some, e_bindS, y_seq, y_ops, y_nil, y_consN, y_consG, y_pure, y_call, y_yld, y_skip, y_cond, y_block, y_ret, y_exit, h0, h2, List.map_cons, List.map_nil]
    have hs1 : shf (2 * i + 1) = -((i : Int) + 1) := by unfold shf; rw [if_pos (by omega)]; omega
    have hs2 : shf (2 * i + 2) = (i : Int) + 1 := by unfold shf; rw [if_neg (by omega)]; omega
    rw [← hs1]
    refine hstep (2 * i + 1) H _ (by omega) hJi fun H2 hJ2 => ?_
    simp only [e_guardFF, e_guardTF, e_guardFT, e_guardTT, e_guardU, e_condT, e_condF]
    have h3 := fun K => hstep (2 * i + 2) H2 K (by omega) hJ2
    simp only [hs2] at h3
    refine h3 _ fun H3 hJ3 => ?_
    try simp only [e_guardFF, e_guardTF, e_guardFT, e_guardTT, e_guardU, e_condT, e_condF]
    refine loop_keep (m := 16 - (i + 1)) (by omega) ⟨i + 1, rfl, by omega, hJ3, ?_, ?_⟩
    · simp only [e_upd, e_putS, e_putN, e_t, e_c, Nat.reduceEqDiff, ↓reduceIte, reduceCtorEq, Nat.reduceAdd, h0]
    · simp only [e_upd, e_putS, e_putN, e_t, e_c, Nat.reduceEqDiff, ↓reduceIte, reduceCtorEq, Nat.reduceAdd]; first | done | rfl
  · obtain rfl : i = 16 := by omega
    simp (disch := omega) only [sN, ↓reduceIte, Nat.reduceEqDiff, Nat.reduceAdd, Nat.reduceMul, Nat.reduceSub, reduceCtorEq, e_none, e_some, e_bindS, y_seq, y_ops, y_nil, y_consN, y_consG, y_pure, y_call, y_yld, y_skip, y_cond, y_block, y_ret, y_exit, h0, h2, List.map_cons, List.map_nil]
    exact ⟨_, _, Weak.refl, hlen _ _ hJi, hR _ hJi⟩
end Go.Proofs.Ythbhljolpnbdlaa


/- Contracts of stage 4: Align, a range over a function. -/
-- NEWSET
namespace Go.Vh
open Go
section
variable {P : Program} {n0 : Nat} {Q : AExit → St → AHeap → Prop} {s : St} {H : AHeap}
theorem X_seq {a b : IRX} (h : ∀ K1 : St → AHeap → Prop, (∀ s1 H1, iwpX P n0 b Q s1 H1 → K1 s1 H1) → iwpX P n0 a (seqPost K1 Q) s H) : iwpX P n0 (.seq a b) Q s H := h _ fun s1 H1 h => ⟨_, _, Weak.refl, h⟩
theorem X_ir {i : IR} : iwpX P n0 (.ir i) Q s H = iwp P n0 i Q s H := rfl
theorem X_cond {c a b} : iwpX P n0 (.cond c a b) Q s H = condPost (iwpX P n0 a Q s H) (iwpX P n0 b Q s H) (evo s c) := rfl
theorem X_block {id a} : iwpX P n0 (.block id a) Q s H = iwpX P n0 a (blockPost id Q) s H := rfl
theorem X_range {g ps A B} : iwpX P n0 (.rangeF g ps A B) Q s H = rangeC P ps A B (fun H' => Q .normal s H') s H (evo s g) := rfl
theorem X_gen {b : IRX} (F : St → AHeap → Prop) (hF : F s H) (h : ∀ s1 H1, F s1 H1 → iwpX P n0 b Q s1 H1) : iwpX P n0 b Q s H := h s H hF
theorem x_st1 {x y : Opd} {r : Nat} {v v' : AV} (hx : evo s x = .ptr r 0) (hy : evo s y = v') (hv : v'.cell = true) (ha : aparts v' = [v']) (hr : Vh.rowAt H r = some ⟨true, false, [v]⟩) : ieff (.store 1 x y) s H = some (.any, H.set r (rw_ [v'])) := by
  simp [ieff, hx, hy, ha, aput, hr, hv, splice, rw_]
theorem x_al1 {v : AV} (hv : v.cell = true) : ieff (.alloc [v]) s H = some (.ptr H.length 0, H ++ [rw_ [v]]) := by
  simp [ieff, anew, hv, rw_]
theorem e_store {n : Nat} {x v : Opd} : ieff (.store n x v) s H = (match evo s x with | .ptr r off => if (aparts (evo s v)).length = n then (aput H r off (aparts (evo s v))).map (fun H' => (AV.any, H')) else none | _ => none) := rfl
theorem e_load1 {x : Opd} : ieff (.load1 x) s H = (match evo s x with | .ptr r off => ((Vh.rowAt H r).bind fun row => row.cells[off]?).map (fun v => (v, H)) | _ => none) := rfl
theorem e_neg {x : Opd} : ipure (.neg x) s = (match evo s x with | .int k n => some (.int k (k.wrap (0 - n))) | _ => none) := rfl
theorem aparts_i {k : IntKind} {a : Int} : aparts (.int k a) = [.int k a] := rfl
theorem put_last2 {v v' : AV} {z : Option ARow} (hv : v'.cell = true) : aput (H ++ [rw_ [v], z]) H.length 0 [v'] = some (H ++ [rw_ [v'], z]) := by
  unfold rw_
  have h : Vh.rowAt (H ++ [some ⟨true, false, [v]⟩, z]) H.length = some ⟨true, false, [v]⟩ := by simp [Vh.rowAt]
  simp [aput, h, hv, splice]
theorem put_last1 {v v' : AV} {z : Option ARow} (hv : v'.cell = true) : aput (H ++ [z, rw_ [v]]) (H.length + 1) 0 [v'] = some (H ++ [z, rw_ [v']]) := by
  unfold rw_
  have h : Vh.rowAt (H ++ [z, some ⟨true, false, [v]⟩]) (H.length + 1) = some ⟨true, false, [v]⟩ := by simp [Vh.rowAt]
  simp [aput, h, hv, splice]
theorem q_cells2 {a b ra rb : Nat} {va vb : AV} (ha : s a = .ptr ra 0) (hb : s b = .ptr rb 0) (hra : Vh.rowAt H ra = some ⟨true, false, [va]⟩) (hrb : Vh.rowAt H rb = some ⟨true, false, [vb]⟩) : ares s H [.cell a 1 false, .cell b 1 false] = some (.tuple [va, vb]) := by
  simp [ares, aresL, ares1, ha, hb, hra, hrb]
end
theorem x_bs3v {s : St} {H : AHeap} {x1 x2 x3 : Opd} {z1 z2 z3 v1 v2 v3 : AV} (h1 : evo s x1 = v1) (h2 : evo s x2 = v2) (h3 : evo s x3 = v3) (c1 : v1.cell = true) (c2 : v2.cell = true) (c3 : v3.cell = true) (d2 : z2.cell = true) (d3 : z3.cell = true) :
    ieff (.buildSlice 3 [z1, z2, z3] [(0, (1, x1)), (1, (1, x2)), (2, (1, x3))]) s H = some (.slice H.length 0 3 3, H ++ [rw_ [v1, v2, v3]]) := by
  simp [ieff, h1, h2, h3, afill, aparts_cell c1, aparts_cell c2, aparts_cell c3, c1, c2, c3, d2, d3, anew, rw_]
theorem mkS_cell {κ : SK} {r off n : Nat} : (mkS κ r off n).cell = true := by cases κ <;> rfl
end Go.Vh
namespace Go.Proofs.Ythbhljolpnbdlaa
open Go Go.Vh

theorem pcells_flat : ∀ {L : List Pul}, (pcells L).all AV.flat = true
  | [] => rfl
  | p :: L => by
    have := pcells_flat (L := L)
    simp only [pcells, List.flatMap_cons, List.all_append, Bool.and_eq_true] at this ⊢
    exact ⟨rfl, this⟩
theorem call45_0 {K : St → AHeap → Prop} {d : Option Nat} {s : St} {H : AHeap} {κ : SK} {n r : Nat} {L : List Pul} {row : ARow} (hk : okS κ n) (hl : L.length = n) (hn : n ≤ maxLen) (hr : Vh.rowAt H r = some row) (hc : row.cells = pcells L)
    (hK : ∀ H', K (putI d s (.int .i64 (pE L))) (H ++ H')) : thenC0 Try.prog K d s H [mkS κ r 0 n] (.func 45 []) := by
  refine call_do0 (checkPulses_calls [ro (pcells L)] (r := 0) (row := ⟨false, false, pcells L⟩) hk hl hn (by simp [Vh.rowAt, ro]) rfl) [(r, 0)] rfl ?_ rfl rfl ?_ ?_ ?_
  · cases κ <;> rfl
  · cases κ <;> simp [renL, AV.ren, sig, mkS]
  · exact ⟨seen_ro_whole hr (by rw [hc, flatL_ren pcells_flat]) (flatL_under pcells_flat), trivial⟩
  · rintro v0 H0' ⟨rfl, hB⟩
    rw [m_merge, m_ro, m_nil]
    exact hK _

def bB (sc : Int → Int) : Nat → Int
  | 0 => 0
  | k + 1 => bst sc k
def gB (sc : Int → Int) (n : Nat) : Nat → Int
  | 0 => -(n : Int)
  | k + 1 => sc (bst sc k)
theorem gB_step {sc : Int → Int} {n k : Nat} (h : -(n : Int) ≤ sc (shf k)) : if sc (shf k) > gB sc n k then bB sc (k + 1) = shf k ∧ gB sc n (k + 1) = sc (shf k) else bB sc (k + 1) = bB sc k ∧ gB sc n (k + 1) = gB sc n k := by
  cases k with
  | zero =>
    have h0 : shf 0 = 0 := rfl
    rw [h0] at h ⊢
    split
    · exact ⟨rfl, rfl⟩
    · rename_i hn
      refine ⟨rfl, ?_⟩
      simp only [gB, bst] at hn ⊢
      omega
  | succ j =>
    simp only [gB, bB, bst]
    split
    · exact ⟨rfl, rfl⟩
    · exact ⟨rfl, rfl⟩
def alA (need : Int) : Int := if 0 ≤ need ∧ need ≤ 4096 then 0 else 3
theorem alE_eq {L : List Pul} {l : List Int} {m : Nat} {need : Int} : alE L l m need = if fst0 [pE L, cE l m, alA need] = 0 then (if scI L l m (bst (fun sh => scI L l m sh L.length) 32) L.length < need then 17 else 0) else fst0 [pE L, cE l m, alA need] := by
  unfold alE boE alA
  by_cases h1 : pE L = 0
  · by_cases h2 : cE l m = 0
    · by_cases h3 : 0 ≤ need ∧ need ≤ 4096
      · simp [fst0, h1, h2, h3]
      · simp [fst0, h1, h2, h3]
    · simp [fst0, h1, h2]
  · simp [fst0, h1]

set_option maxHeartbeats 4000000 in
theorem align_calls (H0 : AHeap) {κ κ' : SK} {n m r r' : Nat} {L : List Pul} {l : List Int} {row row' : ARow} {need : Int} (hk : okS κ n) (hl : L.length = n) (hn : n ≤ maxLen) (hr : Vh.rowAt H0 r = some row) (hc : row.cells = pcells L)
    (hk' : okS κ' m) (hl' : l.length = m * 2) (hm : m ≤ maxLen) (hr' : Vh.rowAt H0 r' = some row') (hc' : row'.cells = ints .i64 l) :
    ACalls Try.prog 14 [mkS κ r 0 n, mkS κ' r' 0 m, .int .i64 need] H0 (List.range H0.length) fun v H => v = .tuple [.int .i64 (alN L l m need), .int .i64 (alE L l m need)] ∧ Base H0 H := by
  refine ACallsG.bodyX Try.func14 ent_align ir_align_ok rs_align_ok Try.ntmps14 (by simp) rfl ?_
  unfold ir_align
  have e0 : s0 [mkS κ r 0 n, mkS κ' r' 0 m, .int .i64 need] 0 = mkS κ r 0 n := rfl
  have e1 : s0 [mkS κ r 0 n, mkS κ' r' 0 m, .int .i64 need] 1 = mkS κ' r' 0 m := rfl
  have e2 : s0 [mkS κ r 0 n, mkS κ' r' 0 m, .int .i64 need] 2 = .int .i64 need := rfl
  have halE := alE_eq (L := L) (l := l) (m := m) (need := need)
  have halN : alE L l m need ≠ 0 → alN L l m need = 0 := fun h => by unfold alN; rw [if_neg h]
  have halZ : alE L l m need = 0 → alN L l m need = bst (fun sh => scI L l m sh n) 32 := fun h => by unfold alN; rw [if_pos h, hl]
  rw [hl] at halE
  obtain ⟨N, hN⟩ : ∃ N, N = H0.length := ⟨_, rfl⟩
  refine X_seq fun K1 hK1 => ?_
  rw [X_ir]
  simp (disch := omega) only [sN, ↓reduceIte, Nat.reduceEqDiff, Nat.reduceAdd, Nat.reduceMul, Nat.reduceSub, reduceCtorEq, e_none, e_some, e_bindS, e0, e1, e2]
  rw [x_boxF (v := mkS κ r 0 n) (by simp only [e_upd, e_putS, e_putN, e_t, e_c, Nat.reduceEqDiff, ↓reduceIte, reduceCtorEq, Nat.reduceAdd, e0]) mkS_cell]
  simp (disch := omega) only [sN, ↓reduceIte, Nat.reduceEqDiff, Nat.reduceAdd, Nat.reduceMul, Nat.reduceSub, reduceCtorEq, e_none, e_some, e_bindS, e0, e1, e2]
  rw [x_boxF (v := mkS κ' r' 0 m) (by simp only [e_upd, e_putS, e_putN, e_t, e_c, Nat.reduceEqDiff, ↓reduceIte, reduceCtorEq, Nat.reduceAdd, e1]) mkS_cell]
  simp (disch := omega) only [sN, ↓reduceIte, Nat.reduceEqDiff, Nat.reduceAdd, Nat.reduceMul, Nat.reduceSub, reduceCtorEq, e_none, e_some, e_bindS, e0, e1, e2]
  rw [x_al1 rfl]
  simp (disch := omega) only [sN, ↓reduceIte, Nat.reduceEqDiff, Nat.reduceAdd, Nat.reduceMul, Nat.reduceSub, reduceCtorEq, e_none, e_some, e_bindS, e0, e1, e2]
  rw [x_al1 rfl]
  simp (disch := omega) only [sN, ↓reduceIte, Nat.reduceEqDiff, Nat.reduceAdd, Nat.reduceMul, Nat.reduceSub, reduceCtorEq, e_none, e_some, e_bindS, e0, e1, e2]
  refine hK1 _ _ ?_
  clear hK1 K1
  refine X_gen (fun s H => Base H0 H ∧ (Vh.rowAt H N = some ⟨true, false, [mkS κ r 0 n]⟩ ∧ Vh.rowAt H (N + 1) = some ⟨true, false, [mkS κ' r' 0 m]⟩ ∧ Vh.rowAt H (N + 2) = some ⟨true, false, [.int .i64 0]⟩ ∧ Vh.rowAt H (N + 3) = some ⟨true, false, [.int .i64 0]⟩) ∧ s 2 = .int .i64 need ∧ s 3 = .ptr N 0 ∧ s 4 = .ptr (N + 1) 0 ∧ s 6 = .ptr (N + 2) 0 ∧ s 7 = .ptr (N + 3) 0) ?_ ?_
  · refine ⟨Base.one.app.app.app, ⟨?_, ?_, ?_, ?_⟩, ?_, ?_, ?_, ?_, ?_⟩
    · rw [hN]; simp [Vh.rowAt, rw_]
    · rw [hN]; simp [Vh.rowAt, rw_]
    · rw [hN]; simp [Vh.rowAt, rw_]
    · rw [hN]; simp [Vh.rowAt, rw_]
    · simp only [e_upd, e_putS, e_putN, e_t, e_c, Nat.reduceEqDiff, ↓reduceIte, reduceCtorEq, Nat.reduceAdd, e2]
    · simp only [e_upd, e_putS, e_putN, e_t, e_c, Nat.reduceEqDiff, ↓reduceIte, reduceCtorEq, Nat.reduceAdd, hN]
    · simp only [e_upd, e_putS, e_putN, e_t, e_c, Nat.reduceEqDiff, ↓reduceIte, reduceCtorEq, Nat.reduceAdd, hN]; simp
    · simp only [e_upd, e_putS, e_putN, e_t, e_c, Nat.reduceEqDiff, ↓reduceIte, reduceCtorEq, Nat.reduceAdd, hN]; simp
    · simp only [e_upd, e_putS, e_putN, e_t, e_c, Nat.reduceEqDiff, ↓reduceIte, reduceCtorEq, Nat.reduceAdd, hN]; simp
  rintro s1 H1 ⟨hB1, ⟨r0, r1, r2, r3⟩, h2, h3, h4, h6, h7⟩
  refine X_seq fun K2 hK2 => ?_
  refine X_seq fun K3 hK3 => ?_
  rw [X_ir]
  simp (disch := omega) only [sN, ↓reduceIte, Nat.reduceEqDiff, Nat.reduceAdd, Nat.reduceMul, Nat.reduceSub, reduceCtorEq, e_none, e_some, e_bindS, h2, h3, h4, h6, h7, r0, r1, r2, r3, Option.bind_some, List.getElem?_cons_zero, List.map_cons, List.map_nil]
  refine call45_0 hk hl hn (hB1.row hr) hc fun H' => ?_
  obtain ⟨H2, hH2⟩ : ∃ h, h = H1 ++ H' := ⟨_, rfl⟩
  have hB2 : Base H1 H2 := by rw [hH2]; exact Base.one
  rw [← hH2]
  clear hH2
  simp (disch := omega) only [sN, ↓reduceIte, Nat.reduceEqDiff, Nat.reduceAdd, Nat.reduceMul, Nat.reduceSub, reduceCtorEq, e_none, e_some, e_bindS, h2, h3, h4, h6, h7, List.map_cons, List.map_nil]
  refine ⟨_, (checkClicks_calls H2 hk' hl' hm ((hB1.trans hB2).row hr') hc').g.mono ?_⟩
  rintro v H3 ⟨rfl, hB3⟩
  simp (disch := omega) only [sN, ↓reduceIte, Nat.reduceEqDiff, Nat.reduceAdd, Nat.reduceMul, Nat.reduceSub, reduceCtorEq, e_none, e_some, e_bindS, h2, h3, h4, h6, h7, List.map_cons, List.map_nil]
  refine ⟨_, (checkCount_calls H3 need 4096).g.mono ?_⟩
  rintro v H4 ⟨rfl, hH4⟩
  rw [hH4]
  rw [show (if 0 ≤ need ∧ need ≤ 4096 then (0 : Int) else 3) = alA need from rfl]
  obtain ⟨E1, hE1⟩ : ∃ e, e = pE L := ⟨_, rfl⟩
  obtain ⟨E2, hE2⟩ : ∃ e, e = cE l m := ⟨_, rfl⟩
  obtain ⟨E3, hE3⟩ : ∃ e, e = alA need := ⟨_, rfl⟩
  rw [← hE1, ← hE2, ← hE3]
  simp (disch := omega) only [sN, ↓reduceIte, Nat.reduceEqDiff, Nat.reduceAdd, Nat.reduceMul, Nat.reduceSub, reduceCtorEq, e_none, e_some, e_bindS, h2, h3, h4, h6, h7]
  rw [x_bs3v (v1 := .int .i64 E1) (v2 := .int .i64 E2) (v3 := .int .i64 E3) (by simp only [e_upd, e_putS, e_putN, e_t, e_c, Nat.reduceEqDiff, ↓reduceIte, reduceCtorEq, Nat.reduceAdd]) (by simp only [e_upd, e_putS, e_putN, e_t, e_c, Nat.reduceEqDiff, ↓reduceIte, reduceCtorEq, Nat.reduceAdd]) (by simp only [e_upd, e_putS, e_putN, e_t, e_c, Nat.reduceEqDiff, ↓reduceIte, reduceCtorEq, Nat.reduceAdd]) rfl rfl rfl rfl rfl]
  simp (disch := omega) only [sN, ↓reduceIte, Nat.reduceEqDiff, Nat.reduceAdd, Nat.reduceMul, Nat.reduceSub, reduceCtorEq, e_none, e_some, e_bindS, h2, h3, h4, h6, h7, List.map_cons, List.map_nil]
  refine ⟨_, (firstError_calls (H3 ++ [rw_ [.int .i64 E1, .int .i64 E2, .int .i64 E3]]) (n := 3) (r := H3.length) (l := [E1, E2, E3]) (row := ⟨true, false, [.int .i64 E1, .int .i64 E2, .int .i64 E3]⟩) rfl (by omega) (by simp [Vh.rowAt, rw_]) rfl).g.mono ?_⟩
  rintro v H5 ⟨rfl, hB5⟩
  have hB15 := (hB2.trans hB3).app.trans hB5
  clear hB2 hB3 hB5 hH4
  obtain ⟨E, hE⟩ : ∃ e, e = fst0 [E1, E2, E3] := ⟨_, rfl⟩
  have hEe : E = fst0 [pE L, cE l m, alA need] := by rw [hE, hE1, hE2, hE3]
  rw [← hEe] at halE
  rw [← hE]
  clear hE hE1 hE2 hE3
  simp (disch := omega) only [sN, ↓reduceIte, Nat.reduceEqDiff, Nat.reduceAdd, Nat.reduceMul, Nat.reduceSub, reduceCtorEq, e_none, e_some, e_bindS, h2, h3, h4, h6, h7]
  refine hK3 _ _ ?_
  clear hK3 K3
  refine X_gen (fun s H => Base H1 H ∧ s 2 = .int .i64 need ∧ s 3 = .ptr N 0 ∧ s 4 = .ptr (N + 1) 0 ∧ s 6 = .ptr (N + 2) 0 ∧ s 7 = .ptr (N + 3) 0 ∧ s 8 = .int .i64 E) ?_ ?_
  · refine ⟨hB15, ?_, ?_, ?_, ?_, ?_, ?_⟩
    · simp only [e_upd, e_putS, e_putN, e_t, e_c, Nat.reduceEqDiff, ↓reduceIte, reduceCtorEq, Nat.reduceAdd, h2]
    · simp only [e_upd, e_putS, e_putN, e_t, e_c, Nat.reduceEqDiff, ↓reduceIte, reduceCtorEq, Nat.reduceAdd, h3]
    · simp only [e_upd, e_putS, e_putN, e_t, e_c, Nat.reduceEqDiff, ↓reduceIte, reduceCtorEq, Nat.reduceAdd, h4]
    · simp only [e_upd, e_putS, e_putN, e_t, e_c, Nat.reduceEqDiff, ↓reduceIte, reduceCtorEq, Nat.reduceAdd, h6]
    · simp only [e_upd, e_putS, e_putN, e_t, e_c, Nat.reduceEqDiff, ↓reduceIte, reduceCtorEq, Nat.reduceAdd, h7]
    · simp only [e_upd, e_putS, e_putN, e_t, e_c, Nat.reduceEqDiff, ↓reduceIte, reduceCtorEq, Nat.reduceAdd]
  clear h2 h3 h4 h6 h7 hB15 s1 H5
  rintro s1 H5 ⟨hB5, h2, h3, h4, h6, h7, h8⟩
  have r0 := hB5.row r0
  have r1 := hB5.row r1
  have r2 := hB5.row r2
  have r3 := hB5.row r3
  have hB0 := hB1.trans hB5
  clear hB1 hB5
  have fin2 : ∀ (s : St) (H : AHeap) (va vb : Int), Base H0 H → s 6 = .ptr (N + 2) 0 → s 7 = .ptr (N + 3) 0 → Vh.rowAt H (N + 2) = some ⟨true, false, [.int .i64 va]⟩ → Vh.rowAt H (N + 3) = some ⟨true, false, [.int .i64 vb]⟩ → alN L l m need = va → alE L l m need = vb →
      retPost H0.length rs_align (fun v H => v = .tuple [.int .i64 (alN L l m need), .int .i64 (alE L l m need)] ∧ Base H0 H) .ret s H := fun s H va vb hB h6 h7 q6 q7 ea eb => by
    refine ret_keep hB.1 ?_
    rw [show rs_align = [.cell 6 1 false, .cell 7 1 false] from rfl, q_cells2 h6 h7 q6 q7, q_then, ea, eb]
    exact ⟨rfl, hB⟩
  refine X_seq fun K4 hK4 => ?_
  rw [X_ir]
  simp (disch := omega) only [sN, ↓reduceIte, Nat.reduceEqDiff, Nat.reduceAdd, Nat.reduceMul, Nat.reduceSub, reduceCtorEq, e_none, e_some, e_bindS, h2, h3, h4, h6, h7, h8]
  by_cases hz : E = 0
  case neg =>
    rw [if_neg hz] at halE
    simp (disch := omega) only [sN, ↓reduceIte, Nat.reduceEqDiff, Nat.reduceAdd, Nat.reduceMul, Nat.reduceSub, reduceCtorEq, e_none, e_some, e_bindS, h2, h3, h4, h6, h7, h8]
    refine hK4 _ _ ?_
    rw [X_cond]
    simp (disch := omega) only [sN, ↓reduceIte, Nat.reduceEqDiff, Nat.reduceAdd, Nat.reduceMul, Nat.reduceSub, reduceCtorEq, e_none, e_some, e_bindS, h2, h3, h4, h6, h7, h8]
    refine X_seq fun K5 hK5 => ?_
    rw [X_ir]
    simp (disch := omega) only [sN, ↓reduceIte, Nat.reduceEqDiff, Nat.reduceAdd, Nat.reduceMul, Nat.reduceSub, reduceCtorEq, e_none, e_some, e_bindS, h2, h3, h4, h6, h7, h8]
    rw [x_st1 (r := N + 2) (v := .int .i64 0) (v' := .int .i64 0) (by simp only [e_upd, e_putS, e_putN, e_t, e_c, Nat.reduceEqDiff, ↓reduceIte, reduceCtorEq, Nat.reduceAdd, h6]) (by simp only [e_upd, e_putS, e_putN, e_t, e_c, Nat.reduceEqDiff, ↓reduceIte, reduceCtorEq, Nat.reduceAdd]) rfl rfl r2]
    simp (disch := omega) only [sN, ↓reduceIte, Nat.reduceEqDiff, Nat.reduceAdd, Nat.reduceMul, Nat.reduceSub, reduceCtorEq, e_none, e_some, e_bindS, h2, h3, h4, h6, h7, h8]
    rw [x_st1 (r := N + 3) (v := .int .i64 0) (v' := .int .i64 E) (by simp only [e_upd, e_putS, e_putN, e_t, e_c, Nat.reduceEqDiff, ↓reduceIte, reduceCtorEq, Nat.reduceAdd, h7]) (by simp only [e_upd, e_putS, e_putN, e_t, e_c, Nat.reduceEqDiff, ↓reduceIte, reduceCtorEq, Nat.reduceAdd]) rfl rfl (by rw [row_other0 (by omega)]; exact r3)]
    simp (disch := omega) only [sN, ↓reduceIte, Nat.reduceEqDiff, Nat.reduceAdd, Nat.reduceMul, Nat.reduceSub, reduceCtorEq, e_none, e_some, e_bindS, h2, h3, h4, h6, h7, h8]
    refine hK5 _ _ ?_
    rw [X_ir]
    simp (disch := omega) only [sN, ↓reduceIte, Nat.reduceEqDiff, Nat.reduceAdd, Nat.reduceMul, Nat.reduceSub, reduceCtorEq, e_none, e_some, e_bindS]
    have hl2 := rowAt_lt r2
    have hl3 := rowAt_lt r3
    refine fin2 _ _ 0 E ((hB0.set (by omega)).set (by omega)) ?_ ?_ ?_ ?_ ?_ ?_
    · simp only [e_upd, e_putS, e_putN, e_t, e_c, Nat.reduceEqDiff, ↓reduceIte, reduceCtorEq, Nat.reduceAdd, h6]
    · simp only [e_upd, e_putS, e_putN, e_t, e_c, Nat.reduceEqDiff, ↓reduceIte, reduceCtorEq, Nat.reduceAdd, h7]
    · rw [row_other0 (by omega), row_set0 hl2]; rfl
    · rw [row_set0 (by simpa using hl3)]; rfl
    · rw [halN (by rw [halE]; exact hz)]
    · exact halE
  rw [if_pos hz] at halE
  subst hz
  simp (disch := omega) only [sN, ↓reduceIte, Nat.reduceEqDiff, Nat.reduceAdd, Nat.reduceMul, Nat.reduceSub, reduceCtorEq, e_none, e_some, e_bindS, h2, h3, h4, h6, h7, h8]
  refine hK4 _ _ ?_
  rw [X_cond]
  simp (disch := omega) only [sN, ↓reduceIte, Nat.reduceEqDiff, Nat.reduceAdd, Nat.reduceMul, Nat.reduceSub, reduceCtorEq, e_none, e_some, e_bindS, h2, h3, h4, h6, h7, h8]
  rw [X_ir]
  simp (disch := omega) only [sN, ↓reduceIte, Nat.reduceEqDiff, Nat.reduceAdd, Nat.reduceMul, Nat.reduceSub, reduceCtorEq, e_none, e_some, e_bindS]
  refine hK2 _ _ ?_
  clear hK2 hK4 K2 K4 h8
  have hf0 : pE L = 0 ∧ cE l m = 0 := by
    have h := hEe
    by_cases h1 : pE L = 0
    · by_cases h2 : cE l m = 0
      · exact ⟨h1, h2⟩
      · simp only [fst0, h1, h2, if_true, if_false] at h; omega
    · simp only [fst0, h1, if_false] at h; omega
  have hn4 : n ≤ 4096 := by rw [← hl]; exact pE_zero hf0.1
  have hm4 : m ≤ 4096 := cE_zero hf0.2
  refine X_gen (fun s H => H = H5 ∧ s 2 = .int .i64 need ∧ s 3 = .ptr N 0 ∧ s 4 = .ptr (N + 1) 0 ∧ s 6 = .ptr (N + 2) 0 ∧ s 7 = .ptr (N + 3) 0) ?_ ?_
  · refine ⟨rfl, ?_, ?_, ?_, ?_, ?_⟩
    · simp only [e_upd, e_putS, e_putN, e_t, e_c, Nat.reduceEqDiff, ↓reduceIte, reduceCtorEq, Nat.reduceAdd, h2]
    · simp only [e_upd, e_putS, e_putN, e_t, e_c, Nat.reduceEqDiff, ↓reduceIte, reduceCtorEq, Nat.reduceAdd, h3]
    · simp only [e_upd, e_putS, e_putN, e_t, e_c, Nat.reduceEqDiff, ↓reduceIte, reduceCtorEq, Nat.reduceAdd, h4]
    · simp only [e_upd, e_putS, e_putN, e_t, e_c, Nat.reduceEqDiff, ↓reduceIte, reduceCtorEq, Nat.reduceAdd, h6]
    · simp only [e_upd, e_putS, e_putN, e_t, e_c, Nat.reduceEqDiff, ↓reduceIte, reduceCtorEq, Nat.reduceAdd, h7]
  clear h2 h3 h4 h6 h7 s1
  rintro s1 H6 ⟨hH6, h2, h3, h4, h6, h7⟩
  rw [hH6]
  refine X_seq fun K2 hK2 => ?_
  rw [X_ir, e_tops]
  refine tops_gen (fun s H => Base H5 H ∧ (∃ a b, H5.length ≤ a ∧ H5.length ≤ b ∧ a ≠ b ∧ s 9 = .ptr a 0 ∧ s 10 = .ptr b 0 ∧ Vh.rowAt H a = some ⟨true, false, [.int .i64 0]⟩ ∧ Vh.rowAt H b = some ⟨true, false, [.int .i64 (-(n : Int))]⟩) ∧ s 2 = .int .i64 need ∧ s 3 = .ptr N 0 ∧ s 4 = .ptr (N + 1) 0 ∧ s 6 = .ptr (N + 2) 0 ∧ s 7 = .ptr (N + 3) 0) ?_ ?_
  · have hng : ∀ (s : St) (x : Opd), evo s x = .int .i64 (n : Int) → ipure (.neg x) s = some (.int .i64 (-(n : Int))) := fun s x h => p_negv4 h (by omega)
    have hal : ∀ (s : St) (H : AHeap), ieff (.alloc [.int .i64 0]) s H = some (.ptr H.length 0, H ++ [rw_ [.int .i64 0]]) := fun s H => x_al1 rfl
    have hl0 := rowAt_lt r0
    have hrow : ∀ R : AHeap, Vh.rowAt (H5 ++ R) N = some ⟨true, false, [mkS κ r 0 n]⟩ := fun R => by rw [rowAt_append_left hl0]; exact r0
    have hp1 : ∀ (x y : Int) (z : Option ARow), aput (H5 ++ [rw_ [.int .i64 x], z]) H5.length 0 [.int .i64 y] = some (H5 ++ [rw_ [.int .i64 y], z]) := fun x y z => put_last2 rfl
    have hp2 : ∀ (x y : Int) (z : Option ARow), aput (H5 ++ [z, rw_ [.int .i64 x]]) (H5.length + 1) 0 [.int .i64 y] = some (H5 ++ [z, rw_ [.int .i64 y]]) := fun x y z => put_last1 rfl
    have hal2 : alen (mkS κ r 0 n) = some n := by
      cases κ with
      | nil => simp only [okS] at hk; subst hk; rfl
      | cap c => rfl
      | u => rfl
    have hneg : (IntKind.i64).wrap (0 - (n : Int)) = -(n : Int) := by rw [Int.zero_sub]; exact wrapI (by omega) (by omega)
    have hb1 : Base H5 (H5 ++ [rw_ [.int .i64 0], rw_ [.int .i64 (-(n : Int))]]) := Base.one
    have hb2 : Base H5 (H5 ++ [rw_ [.int .i64 (-(n : Int))], rw_ [.int .i64 0]]) := Base.one
    have hx1 : ∃ a b, H5.length ≤ a ∧ H5.length ≤ b ∧ a ≠ b ∧ AV.ptr H5.length 0 = AV.ptr a 0 ∧ AV.ptr (H5.length + 1) 0 = AV.ptr b 0 ∧ Vh.rowAt (H5 ++ [rw_ [.int .i64 0], rw_ [.int .i64 (-(n : Int))]]) a = some ⟨true, false, [.int .i64 0]⟩ ∧ Vh.rowAt (H5 ++ [rw_ [.int .i64 0], rw_ [.int .i64 (-(n : Int))]]) b = some ⟨true, false, [.int .i64 (-(n : Int))]⟩ :=
      ⟨_, _, Nat.le_refl _, Nat.le_succ _, by omega, rfl, rfl, by simp [Vh.rowAt, rw_], by simp [Vh.rowAt, rw_]⟩
    have hx2 : ∃ a b, H5.length ≤ a ∧ H5.length ≤ b ∧ a ≠ b ∧ AV.ptr (H5.length + 1) 0 = AV.ptr a 0 ∧ AV.ptr H5.length 0 = AV.ptr b 0 ∧ Vh.rowAt (H5 ++ [rw_ [.int .i64 (-(n : Int))], rw_ [.int .i64 0]]) a = some ⟨true, false, [.int .i64 0]⟩ ∧ Vh.rowAt (H5 ++ [rw_ [.int .i64 (-(n : Int))], rw_ [.int .i64 0]]) b = some ⟨true, false, [.int .i64 (-(n : Int))]⟩ :=
      ⟨_, _, Nat.le_succ _, Nat.le_refl _, by omega, rfl, rfl, by simp [Vh.rowAt, rw_], by simp [Vh.rowAt, rw_]⟩
    simp only [e_tdone, e_tsoft, e_talt1, e_talt, e_stepN, e_effD1, e_effD2, e_effD3, e_pureD, e_thenE, e_thenP, e_thenL, e_load1, e_store, hal, e_putS, e_putN, e_upd, e_t, e_c, Nat.reduceEqDiff, ↓reduceIte, h3, h2, h4, h6, h7, r0, hrow, Option.bind_some, Option.map_some, List.getElem?_cons_zero, List.append_assoc, List.cons_append, List.nil_append, List.length_append, List.length_cons, List.length_nil, Nat.zero_add, aparts_i, hp1, hp2, p_len, hal2, e_neg, hneg]
    simp only [hb1, hb2, hx1, hx2, and_self]
  clear h2 h3 h4 h6 h7 hH6 H6 s1
  rintro s1 H6 ⟨hB6, ⟨a, b, ha, hb, hab, h9, h10, ra, rb⟩, h2, h3, h4, h6, h7⟩
  show K2 s1 H6
  refine hK2 _ _ ?_
  clear hK2 K2
  obtain ⟨sc, hsc⟩ : ∃ f, f = fun sh => scI L l m sh n := ⟨_, rfl⟩
  have hrng : ∀ sh, -(n : Int) ≤ sc sh ∧ sc sh ≤ n := fun sh => by
    have := scI_rng (L := L) (l := l) (m := m) (sh := sh) n
    rw [hsc]; exact this
  have hagr : ∀ sh, -16 ≤ sh ∧ sh ≤ 16 → agE L l m sh = 0 ∧ scA L l m sh = sc sh := fun sh h => by
    have h1 : agE L l m sh = 0 := by unfold agE; rw [hf0.1, hf0.2, if_pos h]; rfl
    refine ⟨h1, ?_⟩
    unfold scA; rw [if_pos h1, hsc, hl]; rfl
  rw [← hsc] at halZ halE
  have halE : alE L l m need = if sc (bst sc 32) < need then 17 else 0 := by rw [halE, hsc]
  clear hsc hf0 hEe
  refine X_seq fun K3 hK3 => ?_
  rw [X_block, X_range]
  show ACallsY Try.prog (gl s1) 52 [.yld H6.length] (H6 ++ [loopRow]) ⟨H6.length, _⟩ _
  refine shifts_calls (y := ⟨H6.length, _⟩) (H6 ++ [loopRow]) (fun k H => Base H5 H ∧ (H6 ++ [loopRow]).length ≤ H.length ∧ Vh.rowAt H a = some ⟨true, false, [.int .i64 (bB sc k)]⟩ ∧ Vh.rowAt H b = some ⟨true, false, [.int .i64 (gB sc n k)]⟩) (fun k H h => h.2.1) ⟨hB6.app, Nat.le_refl _, ?_, ?_⟩ ?_ _ ?_
  · exact (Base.one (R := [loopRow])).row ra
  · exact (Base.one (R := [loopRow])).row rb
  · rintro k H K hk32 ⟨hBk, hLk, rak, rbk⟩ hK
    have hsr := shf_rng hk32
    obtain ⟨q1, q2⟩ := hagr _ hsr
    have hst := gB_step (sc := sc) (n := n) (k := k) (hrng _).1
    have hr1 := hrng (shf k)
    obtain ⟨x, hx⟩ : ∃ x, x = shf k := ⟨_, rfl⟩
    rw [← hx] at hsr q1 q2 hst hr1 ⊢
    obtain ⟨B0, hB0'⟩ : ∃ x, x = bB sc k := ⟨_, rfl⟩
    obtain ⟨G0, hG0'⟩ : ∃ x, x = gB sc n k := ⟨_, rfl⟩
    rw [← hB0'] at rak hst
    rw [← hG0'] at rbk hst
    have r0k := hBk.row r0
    have r1k := hBk.row r1
    have hBH := hB0.trans hBk
    refine ⟨rfl, ?_⟩
    rw [setPs_cons, setPs_nil]
    simp (disch := omega) only [sN, ↓reduceIte, Nat.reduceEqDiff, Nat.reduceAdd, Nat.reduceMul, Nat.reduceSub, reduceCtorEq, e_none, e_some, e_bindS, h2, h3, h4, h6, h7, h9, h10, r0k, r1k, Option.bind_some, List.getElem?_cons_zero, List.map_cons, List.map_nil]
    refine ⟨_, (agreement_calls H (sh := x) hk hl hn (hBH.row hr) hc hk' hl' hm (hBH.row hr') hc').g.mono ?_⟩
    rintro v H7 ⟨rfl, hB7⟩
    rw [q1, q2]
    have ra7 := hB7.row rak
    have rb7 := hB7.row rbk
    simp (disch := omega) only [sN, ↓reduceIte, Nat.reduceEqDiff, Nat.reduceAdd, Nat.reduceMul, Nat.reduceSub, reduceCtorEq, e_none, e_some, e_bindS, h2, h3, h4, h6, h7, h9, h10, rb7, Option.bind_some, List.getElem?_cons_zero, List.getElem?_cons_succ]
    have hlen7 := hB7.1
    by_cases hgt : sc x > G0
    · rw [if_pos hgt] at hst
      simp (disch := omega) only [sN, ↓reduceIte, Nat.reduceEqDiff, Nat.reduceAdd, Nat.reduceMul, Nat.reduceSub, reduceCtorEq, e_none, e_some, e_bindS, h2, h3, h4, h6, h7, h9, h10]
      rw [x_st1 (r := a) (v := .int .i64 B0) (v' := .int .i64 x) (by simp only [e_upd, e_putS, e_putN, e_t, e_c, Nat.reduceEqDiff, ↓reduceIte, reduceCtorEq, Nat.reduceAdd, h9]) (by simp only [e_upd, e_putS, e_putN, e_t, e_c, Nat.reduceEqDiff, ↓reduceIte, reduceCtorEq, Nat.reduceAdd]) rfl rfl ra7]
      simp (disch := omega) only [sN, ↓reduceIte, Nat.reduceEqDiff, Nat.reduceAdd, Nat.reduceMul, Nat.reduceSub, reduceCtorEq, e_none, e_some, e_bindS, h2, h3, h4, h6, h7, h9, h10]
      rw [x_st1 (r := b) (v := .int .i64 G0) (v' := .int .i64 (sc x)) (by simp only [e_upd, e_putS, e_putN, e_t, e_c, Nat.reduceEqDiff, ↓reduceIte, reduceCtorEq, Nat.reduceAdd, h10]) (by simp only [e_upd, e_putS, e_putN, e_t, e_c, Nat.reduceEqDiff, ↓reduceIte, reduceCtorEq, Nat.reduceAdd]) rfl rfl (by rw [row_other0 hab]; exact rb7)]
      simp (disch := omega) only [sN, ↓reduceIte, Nat.reduceEqDiff, Nat.reduceAdd, Nat.reduceMul, Nat.reduceSub, reduceCtorEq, e_none, e_some, e_bindS]
      refine hK _ ⟨((hBk.trans hB7).set ha).set hb, ?_, ?_, ?_⟩
      · simp only [List.length_set]; omega
      · rw [row_other0 (Ne.symm hab), row_set0 (rowAt_lt ra7), hst.1]; rfl
      · rw [row_set0 (by simpa using rowAt_lt rb7), hst.2]; rfl
    · rw [if_neg hgt] at hst
      simp (disch := omega) only [sN, ↓reduceIte, Nat.reduceEqDiff, Nat.reduceAdd, Nat.reduceMul, Nat.reduceSub, reduceCtorEq, e_none, e_some, e_bindS, h2, h3, h4, h6, h7, h9, h10]
      refine hK _ ⟨hBk.trans hB7, by omega, ?_, ?_⟩
      · rw [ra7, hst.1]
      · rw [rb7, hst.2]
  rintro H ⟨hBk, hLk, rak, rbk⟩
  show K3 s1 H
  refine hK3 _ _ ?_
  clear hK3 K3 ra rb
  rw [show bB sc 33 = bst sc 32 from rfl] at rak
  rw [show gB sc n 33 = sc (bst sc 32) from rfl] at rbk
  have hBH := hB0.trans hBk
  have q6 := hBk.row r2
  have q7 := hBk.row r3
  have hl2 := rowAt_lt q6
  have hl3 := rowAt_lt q7
  obtain ⟨z, hz⟩ : ∃ x, x = bst sc 32 := ⟨_, rfl⟩
  rw [← hz] at rak rbk halE halZ
  have hr1 := hrng z
  refine X_seq fun K2 hK2 => ?_
  refine X_seq fun K4 hK4 => ?_
  rw [X_ir]
  by_cases hlt : sc z < need
  · rw [if_pos hlt] at halE
    simp (disch := omega) only [sN, ↓reduceIte, Nat.reduceEqDiff, Nat.reduceAdd, Nat.reduceMul, Nat.reduceSub, reduceCtorEq, e_none, e_some, e_bindS, h2, h3, h4, h6, h7, h9, h10, rbk, Option.bind_some, List.getElem?_cons_zero]
    refine hK4 _ _ ?_
    rw [X_cond]
    simp (disch := omega) only [sN, ↓reduceIte, Nat.reduceEqDiff, Nat.reduceAdd, Nat.reduceMul, Nat.reduceSub, reduceCtorEq, e_none, e_some, e_bindS, h2, h6, h7, h9, h10]
    refine X_seq fun K5 hK5 => ?_
    rw [X_ir]
    simp (disch := omega) only [sN, ↓reduceIte, Nat.reduceEqDiff, Nat.reduceAdd, Nat.reduceMul, Nat.reduceSub, reduceCtorEq, e_none, e_some, e_bindS, h2, h3, h4, h6, h7]
    rw [x_st1 (r := N + 2) (v := .int .i64 0) (v' := .int .i64 0) (by simp only [e_upd, e_putS, e_putN, e_t, e_c, Nat.reduceEqDiff, ↓reduceIte, reduceCtorEq, Nat.reduceAdd, h6]) (by simp only [e_upd, e_putS, e_putN, e_t, e_c, Nat.reduceEqDiff, ↓reduceIte, reduceCtorEq, Nat.reduceAdd]) rfl rfl q6]
    simp (disch := omega) only [sN, ↓reduceIte, Nat.reduceEqDiff, Nat.reduceAdd, Nat.reduceMul, Nat.reduceSub, reduceCtorEq, e_none, e_some, e_bindS, h2, h3, h4, h6, h7]
    rw [x_st1 (r := N + 3) (v := .int .i64 0) (v' := .int .i64 17) (by simp only [e_upd, e_putS, e_putN, e_t, e_c, Nat.reduceEqDiff, ↓reduceIte, reduceCtorEq, Nat.reduceAdd, h7]) (by simp only [e_upd, e_putS, e_putN, e_t, e_c, Nat.reduceEqDiff, ↓reduceIte, reduceCtorEq, Nat.reduceAdd]) rfl rfl (by rw [row_other0 (by omega)]; exact q7)]
    simp (disch := omega) only [sN, ↓reduceIte, Nat.reduceEqDiff, Nat.reduceAdd, Nat.reduceMul, Nat.reduceSub, reduceCtorEq, e_none, e_some, e_bindS, h2, h3, h4, h6, h7]
    refine hK5 _ _ ?_
    rw [X_ir]
    simp (disch := omega) only [sN, ↓reduceIte, Nat.reduceEqDiff, Nat.reduceAdd, Nat.reduceMul, Nat.reduceSub, reduceCtorEq, e_none, e_some, e_bindS]
    refine fin2 _ _ 0 17 ((hBH.set (by omega)).set (by omega)) ?_ ?_ ?_ ?_ ?_ ?_
    · simp only [e_upd, e_putS, e_putN, e_t, e_c, Nat.reduceEqDiff, ↓reduceIte, reduceCtorEq, Nat.reduceAdd, h6]
    · simp only [e_upd, e_putS, e_putN, e_t, e_c, Nat.reduceEqDiff, ↓reduceIte, reduceCtorEq, Nat.reduceAdd, h7]
    · rw [row_other0 (by omega), row_set0 hl2]; rfl
    · rw [row_set0 (by simpa using hl3)]; rfl
    · rw [halN (by rw [halE]; decide)]
    · exact halE
  · rw [if_neg hlt] at halE
    simp (disch := omega) only [sN, ↓reduceIte, Nat.reduceEqDiff, Nat.reduceAdd, Nat.reduceMul, Nat.reduceSub, reduceCtorEq, e_none, e_some, e_bindS, h2, h3, h4, h6, h7, h9, h10, rbk, Option.bind_some, List.getElem?_cons_zero]
    refine hK4 _ _ ?_
    rw [X_cond]
    simp (disch := omega) only [sN, ↓reduceIte, Nat.reduceEqDiff, Nat.reduceAdd, Nat.reduceMul, Nat.reduceSub, reduceCtorEq, e_none, e_some, e_bindS, h2, h6, h7, h9, h10]
    rw [X_ir]
    simp (disch := omega) only [sN, ↓reduceIte, Nat.reduceEqDiff, Nat.reduceAdd, Nat.reduceMul, Nat.reduceSub, reduceCtorEq, e_none, e_some, e_bindS]
    refine hK2 _ _ ?_
    refine X_seq fun K5 hK5 => ?_
    rw [X_ir]
    simp (disch := omega) only [sN, ↓reduceIte, Nat.reduceEqDiff, Nat.reduceAdd, Nat.reduceMul, Nat.reduceSub, reduceCtorEq, e_none, e_some, e_bindS, h2, h3, h4, h6, h7, h9, h10, rak, Option.bind_some, List.getElem?_cons_zero]
    rw [x_st1 (r := N + 2) (v := .int .i64 0) (v' := .int .i64 z) (by simp only [e_upd, e_putS, e_putN, e_t, e_c, Nat.reduceEqDiff, ↓reduceIte, reduceCtorEq, Nat.reduceAdd, h6]) (by simp only [e_upd, e_putS, e_putN, e_t, e_c, Nat.reduceEqDiff, ↓reduceIte, reduceCtorEq, Nat.reduceAdd]) rfl rfl q6]
    simp (disch := omega) only [sN, ↓reduceIte, Nat.reduceEqDiff, Nat.reduceAdd, Nat.reduceMul, Nat.reduceSub, reduceCtorEq, e_none, e_some, e_bindS, h2, h3, h4, h6, h7]
    rw [x_st1 (r := N + 3) (v := .int .i64 0) (v' := .int .i64 0) (by simp only [e_upd, e_putS, e_putN, e_t, e_c, Nat.reduceEqDiff, ↓reduceIte, reduceCtorEq, Nat.reduceAdd, h7]) (by simp only [e_upd, e_putS, e_putN, e_t, e_c, Nat.reduceEqDiff, ↓reduceIte, reduceCtorEq, Nat.reduceAdd]) rfl rfl (by rw [row_other0 (by omega)]; exact q7)]
    simp (disch := omega) only [sN, ↓reduceIte, Nat.reduceEqDiff, Nat.reduceAdd, Nat.reduceMul, Nat.reduceSub, reduceCtorEq, e_none, e_some, e_bindS, h2, h3, h4, h6, h7]
    refine hK5 _ _ ?_
    rw [X_ir]
    simp (disch := omega) only [sN, ↓reduceIte, Nat.reduceEqDiff, Nat.reduceAdd, Nat.reduceMul, Nat.reduceSub, reduceCtorEq, e_none, e_some, e_bindS]
    refine fin2 _ _ z 0 ((hBH.set (by omega)).set (by omega)) ?_ ?_ ?_ ?_ ?_ ?_
    · simp only [e_upd, e_putS, e_putN, e_t, e_c, Nat.reduceEqDiff, ↓reduceIte, reduceCtorEq, Nat.reduceAdd, h6]
    · simp only [e_upd, e_putS, e_putN, e_t, e_c, Nat.reduceEqDiff, ↓reduceIte, reduceCtorEq, Nat.reduceAdd, h7]
    · rw [row_other0 (by omega), row_set0 hl2]; rfl
    · rw [row_set0 (by simpa using hl3)]; rfl
    · rw [halZ halE]
    · exact halE
end Go.Proofs.Ythbhljolpnbdlaa


/- Contracts of stage 4: copies compared; the law SiftAligns. -/
-- NEWSET
namespace Go.Vh
open Go
section
variable {P : Program} {γ : Nat → AV} {f : FuncId} {H : AHeap} {W : List Nat} {R : AV → AHeap → Prop}
theorem VRel.toCap {ρ : RMap} {r n sz : Nat} {v : Value} (h : VRel ρ (.sliceU r 0 n sz) v) : ∃ cap, n ≤ cap ∧ VRel ρ (.slice r 0 n cap) v := by
  rcases h.sliceU_inv with ⟨x, cap, h1, h2, _, rfl⟩ | ⟨rfl, a, rfl⟩
  · exact ⟨cap, h2, .slice _ _ _ _ x h1 h2⟩
  · exact ⟨0, Nat.le_refl _, .slice0 _ _ _⟩
/-- A contract for slices of whatever capacity serves where it is not known. -/
theorem ACallsG.ofU1 {r n sz : Nat} {post : List AV} (h : ∀ cap, n ≤ cap → ACallsG P γ f (.slice r 0 n cap :: post) H W R) : ACallsG P γ f (.sliceU r 0 n sz :: post) H W R := by
  refine ⟨(h n (Nat.le_refl n)).ent, fun ρ w vs hs hv hg => ?_⟩
  cases hv with
  | cons _ v _ vs h1 h2 =>
    obtain ⟨cap, hc, hv'⟩ := h1.toCap
    exact (h cap hc).calls ρ w (v :: vs) hs (.cons _ _ _ _ hv' h2) hg
theorem ACallsG.ofU2 {r n sz : Nat} {a : AV} {post : List AV} (h : ∀ cap, n ≤ cap → ACallsG P γ f (a :: .slice r 0 n cap :: post) H W R) : ACallsG P γ f (a :: .sliceU r 0 n sz :: post) H W R := by
  refine ⟨(h n (Nat.le_refl n)).ent, fun ρ w vs hs hv hg => ?_⟩
  cases hv with
  | cons _ v _ vs h1 h2 =>
    cases h2 with
    | cons _ v2 _ vs h2 h3 =>
      obtain ⟨cap, hc, hv'⟩ := h2.toCap
      exact (h cap hc).calls ρ w (v :: v2 :: vs) hs (.cons _ _ _ _ h1 (.cons _ _ _ _ hv' h3)) hg
end
section
variable {s : St} {H : AHeap}
theorem x_bs0 : ieff (.buildSlice 0 [] []) s H = some (.slice H.length 0 0 0, H ++ [rw_ []]) := by
  simp [ieff, afill, anew, rw_]
theorem x_app0 {x y : Opd} {κ : SK} {n r q sz bytes : Nat} {row : ARow} {cs : List AV} (hx : evo s x = .slice q 0 0 0) (hy : evo s y = mkS κ r 0 n) (hk : okS κ n) (hu : κ ≠ .u) (hr : Vh.rowAt H r = some row) (hc : row.cells = cs) (hl : cs.length = n * sz) (hcell : cs.all AV.cell = true) (hb : n * bytes ≤ 70368744177664) :
    ieff (.append sz bytes x y) s H = some (.sliceU H.length 0 n sz, H ++ [some ⟨true, true, cs⟩]) := by
  have ha : alen (mkS κ r 0 n) = some n := k_len hk (Nat.le_refl n)
  have hs : asrc sz (mkS κ r 0 n) H = some cs := by
    cases κ with
    | nil =>
      simp only [okS] at hk; subst hk
      have : cs = [] := List.length_eq_zero_iff.1 (by omega)
      subst this; rfl
    | cap c =>
      simp only [mkS, asrc]
      by_cases h0 : n * sz = 0
      · have : cs = [] := List.length_eq_zero_iff.1 (by omega)
        subst this; rw [if_pos h0]
      · rw [if_neg h0]
        unfold cellsAt
        rw [hr]
        simp only [Option.bind_some]
        rw [hc, if_pos (by omega), List.drop_zero, List.take_of_length_le (by omega)]
    | u => exact (hu rfl).elim
  simp only [ieff, hx, hy, ha, hs, Option.bind_some, aappend, Nat.zero_add, if_pos hb, if_true, anew, hcell, Option.map_some]
end
end Go.Vh
namespace Go.Proofs.Ythbhljolpnbdlaa
open Go Go.Vh

theorem pcells_cell : ∀ {L : List Pul}, (pcells L).all AV.cell = true
  | [] => rfl
  | p :: L => by
    have := pcells_cell (L := L)
    simp only [pcells, List.flatMap_cons, List.all_append, Bool.and_eq_true] at this ⊢
    exact ⟨rfl, this⟩
theorem intsc {l : List Int} : (ints .i64 l).all AV.cell = true := by
  simp [ints, AV.cell]
theorem p_eqPul {s : St} {x y : Opd} {p : Pul} (h1 : evo s x = .agg (pcell p)) (h2 : evo s y = .agg (pcell p)) : ipure (.eqAgg true [(0, 0), (1, 1), (2, 0), (3, 0), (4, 1)] x y) s = some (.bool false) := by
  simp [ipure, h1, h2, aggEq, cellEq, pcell]

set_option maxHeartbeats 1000000 in
theorem samePul_calls (H0 : AHeap) {κ κ' : SK} {n r r' : Nat} {L : List Pul} {row row' : ARow} (hk : okS κ n) (hl : L.length = n) (hn : n ≤ maxLen) (hr : Vh.rowAt H0 r = some row) (hc : row.cells = pcells L)
    (hk' : okS κ' n) (hr' : Vh.rowAt H0 r' = some row') (hc' : row'.cells = pcells L) :
    ACalls Try.prog 16 [mkS κ r 0 n, mkS κ' r' 0 n] H0 (List.range H0.length) fun w H => w = .bool true ∧ H = H0 := by
  refine ACalls.body Try.func16 ent_samePul ir_samePul_ok rs_samePul_ok Try.ntmps16 (by simp) rfl ?_
  unfold ir_samePul
  have e0 : s0 [mkS κ r 0 n, mkS κ' r' 0 n] 0 = mkS κ r 0 n := rfl
  have e1 : s0 [mkS κ r 0 n, mkS κ' r' 0 n] 1 = mkS κ' r' 0 n := rfl
  have hn' : (n : Int) ≤ 9223372036854775807 := by unfold maxLen at hn; omega
  simp (disch := omega) only [sN, ↓reduceIte, Nat.reduceEqDiff, Nat.reduceAdd, Nat.reduceMul, Nat.reduceSub, reduceCtorEq, e_none, e_some, e_bindS, e0, e1, k_len hk, k_len hk']
  refine ⟨fun t s H => ∃ i : Nat, t = n - i ∧ i ≤ n ∧ H = H0 ∧ s 0 = mkS κ r 0 n ∧ s 1 = mkS κ' r' 0 n ∧ s 5 = .int .i64 (i : Int), n, ⟨0, rfl, by omega, rfl, ?_, ?_, ?_⟩, ?_⟩
  · simp only [e_upd, e_putS, e_putN, e_t, e_c, Nat.reduceEqDiff, ↓reduceIte, reduceCtorEq, Nat.reduceAdd, e0]
  · simp only [e_upd, e_putS, e_putN, e_t, e_c, Nat.reduceEqDiff, ↓reduceIte, reduceCtorEq, Nat.reduceAdd, e1]
  · simp only [e_upd, e_putS, e_putN, e_t, e_c, Nat.reduceEqDiff, ↓reduceIte, reduceCtorEq, Nat.reduceAdd]; rfl
  rintro t s H ⟨i, rfl, hi, hH, h0, h1, h5⟩
  rw [hH]
  by_cases hlt : i < n
  · obtain ⟨c1, c2⟩ := pulse_at (L := L) (i := i) (by omega)
    obtain ⟨p, hp⟩ : ∃ p, p = L.getD i default := ⟨_, rfl⟩
    rw [← hp] at c1
    have ia : aindexAddr 5 (mkS κ r 0 n) (.int .i64 (i : Int)) = some (.ptr r (i * 5)) := by
      rw [k_idx5 hk (Nat.le_refl n) (by omega) (by omega)]; simp
    have ib : aindexAddr 5 (mkS κ' r' 0 n) (.int .i64 (i : Int)) = some (.ptr r' (i * 5)) := by
      rw [k_idx5 hk' (Nat.le_refl n) (by omega) (by omega)]; simp
    simp (disch := omega) only [sN, ↓reduceIte, Nat.reduceEqDiff, Nat.reduceAdd, Nat.reduceMul, Nat.reduceSub, reduceCtorEq, e_none, e_some, e_bindS, h0, h1, h5, k_len hk, ia, ib]
    rw [x_loadNO (n := 5) (r := r) (off := i * 5) (l := pcell p) (by simp only [e_upd, e_putS, e_putN, e_t, e_c, Nat.reduceEqDiff, ↓reduceIte, reduceCtorEq, Nat.reduceAdd]) hr (by rw [hc]; exact c1) (by rw [hc]; exact c2)]
    simp (disch := omega) only [sN, ↓reduceIte, Nat.reduceEqDiff, Nat.reduceAdd, Nat.reduceMul, Nat.reduceSub, reduceCtorEq, e_none, e_some, e_bindS, h0, h1, h5, ia, ib]
    rw [x_loadNO (n := 5) (r := r') (off := i * 5) (l := pcell p) (by simp only [e_upd, e_putS, e_putN, e_t, e_c, Nat.reduceEqDiff, ↓reduceIte, reduceCtorEq, Nat.reduceAdd]) hr' (by rw [hc']; exact c1) (by rw [hc']; exact c2)]
    simp (disch := omega) only [sN, ↓reduceIte, Nat.reduceEqDiff, Nat.reduceAdd, Nat.reduceMul, Nat.reduceSub, reduceCtorEq, e_none, e_some, e_bindS, h0, h1, h5]
    rw [p_eqPul (p := p) (by simp only [e_upd, e_putS, e_putN, e_t, e_c, Nat.reduceEqDiff, ↓reduceIte, reduceCtorEq, Nat.reduceAdd]) (by simp only [e_upd, e_putS, e_putN, e_t, e_c, Nat.reduceEqDiff, ↓reduceIte, reduceCtorEq, Nat.reduceAdd])]
    simp (disch := omega) only [sN, ↓reduceIte, Nat.reduceEqDiff, Nat.reduceAdd, Nat.reduceMul, Nat.reduceSub, reduceCtorEq, e_none, e_some, e_bindS, h0, h1, h5]
    refine loop_keep (m := n - (i + 1)) (by omega) ⟨i + 1, rfl, by omega, rfl, ?_, ?_, ?_⟩
    · simp only [e_upd, e_putS, e_putN, e_t, e_c, Nat.reduceEqDiff, ↓reduceIte, reduceCtorEq, Nat.reduceAdd, h0]
    · simp only [e_upd, e_putS, e_putN, e_t, e_c, Nat.reduceEqDiff, ↓reduceIte, reduceCtorEq, Nat.reduceAdd, h1]
    · simp only [e_upd, e_putS, e_putN, e_t, e_c, Nat.reduceEqDiff, ↓reduceIte, reduceCtorEq, Nat.reduceAdd]; first | done | rfl
  · obtain rfl : i = n := by omega
    simp (disch := omega) only [sN, ↓reduceIte, Nat.reduceEqDiff, Nat.reduceAdd, Nat.reduceMul, Nat.reduceSub, reduceCtorEq, e_none, e_some, e_bindS, h0, h1, h5, k_len hk]
    refine ret_keep (by simp) ⟨?_, rfl⟩
    simp only [e_upd, e_putS, e_putN, e_t, e_c, Nat.reduceEqDiff, ↓reduceIte, reduceCtorEq, Nat.reduceAdd]

set_option maxHeartbeats 1000000 in
theorem sameCli_calls (H0 : AHeap) {κ κ' : SK} {n r r' : Nat} {l : List Int} {row row' : ARow} (hk : okS κ n) (hl : l.length = n * 2) (hn : n ≤ maxLen) (hr : Vh.rowAt H0 r = some row) (hc : row.cells = ints .i64 l)
    (hk' : okS κ' n) (hr' : Vh.rowAt H0 r' = some row') (hc' : row'.cells = ints .i64 l) :
    ACalls Try.prog 17 [mkS κ r 0 n, mkS κ' r' 0 n] H0 (List.range H0.length) fun w H => w = .bool true ∧ H = H0 := by
  refine ACalls.body Try.func17 ent_sameCli ir_sameCli_ok rs_sameCli_ok Try.ntmps17 (by simp) rfl ?_
  unfold ir_sameCli
  have e0 : s0 [mkS κ r 0 n, mkS κ' r' 0 n] 0 = mkS κ r 0 n := rfl
  have e1 : s0 [mkS κ r 0 n, mkS κ' r' 0 n] 1 = mkS κ' r' 0 n := rfl
  have hn' : (n : Int) ≤ 9223372036854775807 := by unfold maxLen at hn; omega
  simp (disch := omega) only [sN, ↓reduceIte, Nat.reduceEqDiff, Nat.reduceAdd, Nat.reduceMul, Nat.reduceSub, reduceCtorEq, e_none, e_some, e_bindS, e0, e1, k_len hk, k_len hk']
  refine ⟨fun t s H => ∃ i : Nat, t = n - i ∧ i ≤ n ∧ H = H0 ∧ s 0 = mkS κ r 0 n ∧ s 1 = mkS κ' r' 0 n ∧ s 5 = .int .i64 (i : Int), n, ⟨0, rfl, by omega, rfl, ?_, ?_, ?_⟩, ?_⟩
  · simp only [e_upd, e_putS, e_putN, e_t, e_c, Nat.reduceEqDiff, ↓reduceIte, reduceCtorEq, Nat.reduceAdd, e0]
  · simp only [e_upd, e_putS, e_putN, e_t, e_c, Nat.reduceEqDiff, ↓reduceIte, reduceCtorEq, Nat.reduceAdd, e1]
  · simp only [e_upd, e_putS, e_putN, e_t, e_c, Nat.reduceEqDiff, ↓reduceIte, reduceCtorEq, Nat.reduceAdd]; rfl
  rintro t s H ⟨i, rfl, hi, hH, h0, h1, h5⟩
  rw [hH]
  by_cases hlt : i < n
  · obtain ⟨c1, c2⟩ := pair_at hl hlt
    have ia : aindexAddr 2 (mkS κ r 0 n) (.int .i64 (i : Int)) = some (.ptr r (i * 2)) := by
      rw [k_idx2 hk (Nat.le_refl n) (by omega) (by omega)]; simp
    have ib : aindexAddr 2 (mkS κ' r' 0 n) (.int .i64 (i : Int)) = some (.ptr r' (i * 2)) := by
      rw [k_idx2 hk' (Nat.le_refl n) (by omega) (by omega)]; simp
    simp (disch := omega) only [sN, ↓reduceIte, Nat.reduceEqDiff, Nat.reduceAdd, Nat.reduceMul, Nat.reduceSub, reduceCtorEq, e_none, e_some, e_bindS, h0, h1, h5, k_len hk, ia, ib]
    rw [x_loadNO (n := 2) (r := r) (off := i * 2) (l := [.int .i64 (cb l i), .int .i64 (ck l i)]) (by simp only [e_upd, e_putS, e_putN, e_t, e_c, Nat.reduceEqDiff, ↓reduceIte, reduceCtorEq, Nat.reduceAdd]) hr (by rw [hc]; exact c1) (by rw [hc]; exact c2)]
    simp (disch := omega) only [sN, ↓reduceIte, Nat.reduceEqDiff, Nat.reduceAdd, Nat.reduceMul, Nat.reduceSub, reduceCtorEq, e_none, e_some, e_bindS, h0, h1, h5, ia, ib]
    rw [x_loadNO (n := 2) (r := r') (off := i * 2) (l := [.int .i64 (cb l i), .int .i64 (ck l i)]) (by simp only [e_upd, e_putS, e_putN, e_t, e_c, Nat.reduceEqDiff, ↓reduceIte, reduceCtorEq, Nat.reduceAdd]) hr' (by rw [hc']; exact c1) (by rw [hc']; exact c2)]
    simp (disch := omega) only [sN, ↓reduceIte, Nat.reduceEqDiff, Nat.reduceAdd, Nat.reduceMul, Nat.reduceSub, reduceCtorEq, e_none, e_some, e_bindS, h0, h1, h5]
    rw [p_eqPair (a := cb l i) (b := ck l i) (by simp only [e_upd, e_putS, e_putN, e_t, e_c, Nat.reduceEqDiff, ↓reduceIte, reduceCtorEq, Nat.reduceAdd]) (by simp only [e_upd, e_putS, e_putN, e_t, e_c, Nat.reduceEqDiff, ↓reduceIte, reduceCtorEq, Nat.reduceAdd])]
    simp (disch := omega) only [sN, ↓reduceIte, Nat.reduceEqDiff, Nat.reduceAdd, Nat.reduceMul, Nat.reduceSub, reduceCtorEq, e_none, e_some, e_bindS, h0, h1, h5]
    refine loop_keep (m := n - (i + 1)) (by omega) ⟨i + 1, rfl, by omega, rfl, ?_, ?_, ?_⟩
    · simp only [e_upd, e_putS, e_putN, e_t, e_c, Nat.reduceEqDiff, ↓reduceIte, reduceCtorEq, Nat.reduceAdd, h0]
    · simp only [e_upd, e_putS, e_putN, e_t, e_c, Nat.reduceEqDiff, ↓reduceIte, reduceCtorEq, Nat.reduceAdd, h1]
    · simp only [e_upd, e_putS, e_putN, e_t, e_c, Nat.reduceEqDiff, ↓reduceIte, reduceCtorEq, Nat.reduceAdd]; first | done | rfl
  · obtain rfl : i = n := by omega
    simp (disch := omega) only [sN, ↓reduceIte, Nat.reduceEqDiff, Nat.reduceAdd, Nat.reduceMul, Nat.reduceSub, reduceCtorEq, e_none, e_some, e_bindS, h0, h1, h5, k_len hk]
    refine ret_keep (by simp) ⟨?_, rfl⟩
    simp only [e_upd, e_putS, e_putN, e_t, e_c, Nat.reduceEqDiff, ↓reduceIte, reduceCtorEq, Nat.reduceAdd]

set_option maxHeartbeats 4000000 in
theorem lawAli_calls {Ww : List Nat} (hw : ACalls Try.prog 11 [] [] Ww fun v _ => v = .bool true) (κ κ' : SK) (n m : Nat) (L : List Pul) (l : List Int) (sh need : Int) (hk : okS κ n) (hu : κ ≠ .u) (hl : L.length = n) (hn : n ≤ maxLen) (hk' : okS κ' m) (hu' : κ' ≠ .u) (hl' : l.length = m * 2) (hm : m ≤ maxLen) :
    ACalls Try.prog 3 [mkS κ 0 0 n, mkS κ' 1 0 m, .int .i64 sh, .int .i64 need] [ro (pcells L), ro (ints .i64 l)] (List.range 2) fun v _ => v = .bool true := by
  refine ACalls.body Try.func3 ent_lawAli ir_lawAli_ok rs_lawAli_ok Try.ntmps3 (by simp) rfl ?_
  unfold ir_lawAli
  have e0 : s0 [mkS κ 0 0 n, mkS κ' 1 0 m, .int .i64 sh, .int .i64 need] 0 = mkS κ 0 0 n := rfl
  have e1 : s0 [mkS κ 0 0 n, mkS κ' 1 0 m, .int .i64 sh, .int .i64 need] 1 = mkS κ' 1 0 m := rfl
  have e2 : s0 [mkS κ 0 0 n, mkS κ' 1 0 m, .int .i64 sh, .int .i64 need] 2 = .int .i64 sh := rfl
  have e3 : s0 [mkS κ 0 0 n, mkS κ' 1 0 m, .int .i64 sh, .int .i64 need] 3 = .int .i64 need := rfl
  have hm' : (m : Int) ≤ 9223372036854775807 := by unfold maxLen at hm; omega
  have hn' : (n : Int) ≤ 9223372036854775807 := by unfold maxLen at hn; omega
  obtain ⟨H1, hH1⟩ : ∃ h, h = [ro (pcells L), ro (ints .i64 l)] := ⟨_, rfl⟩
  have r0 : Vh.rowAt H1 0 = some ⟨false, false, pcells L⟩ := by rw [hH1]; simp [Vh.rowAt, ro]
  have r1 : Vh.rowAt H1 1 = some ⟨false, false, ints .i64 l⟩ := by rw [hH1]; simp [Vh.rowAt, ro]
  have hlen : 2 ≤ H1.length := by rw [hH1]; simp
  rw [← hH1]
  by_cases hb : n ≤ 400
  case neg =>
    simp (disch := omega) only [sN, ↓reduceIte, Nat.reduceEqDiff, Nat.reduceAdd, Nat.reduceMul, Nat.reduceSub, reduceCtorEq, e_none, e_some, e_bindS, e0, e1, e2, k_len hk, k_len hk', List.map_nil]
    refine call_true6 hw fun H' => ?_
    simp (disch := omega) only [sN, ↓reduceIte, Nat.reduceEqDiff, Nat.reduceAdd, Nat.reduceMul, Nat.reduceSub, reduceCtorEq, e_none, e_some, e_bindS]
    refine ret_keep (by rw [List.length_append]; omega) ?_
    simp only [q_tmp, q_then, rs_lawAli, e_upd, e_putS, e_putN, e_t, e_c, Nat.reduceEqDiff, ↓reduceIte, reduceCtorEq, Nat.reduceAdd]
  by_cases hb' : m ≤ 400
  case neg =>
    simp (disch := omega) only [sN, ↓reduceIte, Nat.reduceEqDiff, Nat.reduceAdd, Nat.reduceMul, Nat.reduceSub, reduceCtorEq, e_none, e_some, e_bindS, e0, e1, e2, k_len hk, k_len hk', List.map_nil]
    refine call_true6 hw fun H' => ?_
    simp (disch := omega) only [sN, ↓reduceIte, Nat.reduceEqDiff, Nat.reduceAdd, Nat.reduceMul, Nat.reduceSub, reduceCtorEq, e_none, e_some, e_bindS]
    refine ret_keep (by rw [List.length_append]; omega) ?_
    simp only [q_tmp, q_then, rs_lawAli, e_upd, e_putS, e_putN, e_t, e_c, Nat.reduceEqDiff, ↓reduceIte, reduceCtorEq, Nat.reduceAdd]
  simp (disch := omega) only [sN, ↓reduceIte, Nat.reduceEqDiff, Nat.reduceAdd, Nat.reduceMul, Nat.reduceSub, reduceCtorEq, e_none, e_some, e_bindS, e0, e1, e2, k_len hk, k_len hk', List.map_nil]
  rw [x_bs0]
  simp (disch := omega) only [sN, ↓reduceIte, Nat.reduceEqDiff, Nat.reduceAdd, Nat.reduceMul, Nat.reduceSub, reduceCtorEq, e_none, e_some, e_bindS, e0, e1, e2]
  rw [x_app0 (q := H1.length) (κ := κ) (n := n) (r := 0) (row := ⟨false, false, pcells L⟩) (cs := pcells L) (by simp only [e_upd, e_putS, e_putN, e_t, e_c, Nat.reduceEqDiff, ↓reduceIte, reduceCtorEq, Nat.reduceAdd]) (by simp only [e_upd, e_putS, e_putN, e_t, e_c, Nat.reduceEqDiff, ↓reduceIte, reduceCtorEq, Nat.reduceAdd, e0]) hk hu (Base.one.row r0) rfl (by rw [pcells_len, hl]) pcells_cell (by omega)]
  simp (disch := omega) only [sN, ↓reduceIte, Nat.reduceEqDiff, Nat.reduceAdd, Nat.reduceMul, Nat.reduceSub, reduceCtorEq, e_none, e_some, e_bindS, e0, e1, e2]
  rw [x_bs0]
  simp (disch := omega) only [sN, ↓reduceIte, Nat.reduceEqDiff, Nat.reduceAdd, Nat.reduceMul, Nat.reduceSub, reduceCtorEq, e_none, e_some, e_bindS, e0, e1, e2]
  rw [x_app0 (q := (H1 ++ [rw_ []] ++ [some (⟨true, true, pcells L⟩ : ARow)]).length) (κ := κ') (n := m) (r := 1) (row := ⟨false, false, ints .i64 l⟩) (cs := ints .i64 l) (by simp only [e_upd, e_putS, e_putN, e_t, e_c, Nat.reduceEqDiff, ↓reduceIte, reduceCtorEq, Nat.reduceAdd]) (by simp only [e_upd, e_putS, e_putN, e_t, e_c, Nat.reduceEqDiff, ↓reduceIte, reduceCtorEq, Nat.reduceAdd, e1]) hk' hu' (((Base.one.app).app).row r1) rfl (by rw [ints_length, hl']) intsc (by omega)]
  obtain ⟨H2, hH2⟩ : ∃ h, h = H1 ++ [rw_ []] ++ [some (⟨true, true, pcells L⟩ : ARow)] ++ [rw_ []] ++ [some (⟨true, true, ints .i64 l⟩ : ARow)] := ⟨_, rfl⟩
  obtain ⟨q, hq⟩ : ∃ q, q = (H1 ++ [rw_ []]).length := ⟨_, rfl⟩
  obtain ⟨q', hq'⟩ : ∃ q, q = (H1 ++ [rw_ []] ++ [some (⟨true, true, pcells L⟩ : ARow)] ++ [rw_ []]).length := ⟨_, rfl⟩
  have hB2 : Base H1 H2 := by rw [hH2]; exact Base.one.app.app.app
  have rq : Vh.rowAt H2 q = some ⟨true, true, pcells L⟩ := by rw [hH2, hq]; simp [Vh.rowAt, rw_]
  have rq' : Vh.rowAt H2 q' = some ⟨true, true, ints .i64 l⟩ := by rw [hH2, hq']; simp [Vh.rowAt, rw_]
  rw [← hH2, ← hq, ← hq']
  clear hH2 hq hq'
  have c1 : ∀ H, Base H2 H → ACalls Try.prog 12 [.sliceU q 0 n 5, .sliceU q' 0 m 2, .int .i64 sh] H (List.range H.length) fun v H' => v = .tuple [.int .i64 (scA L l m sh), .int .i64 (agE L l m sh)] ∧ Base H H' := fun H hB =>
    ACallsG.ofU1 fun cap hc => ACallsG.ofU2 fun cap' hc' => agreement_calls H (κ := .cap cap) (κ' := .cap cap') hc hl hn (hB.row rq) rfl hc' hl' hm (hB.row rq') rfl
  have c2 : ∀ H, Base H2 H → ACalls Try.prog 14 [.sliceU q 0 n 5, .sliceU q' 0 m 2, .int .i64 need] H (List.range H.length) fun v H' => v = .tuple [.int .i64 (alN L l m need), .int .i64 (alE L l m need)] ∧ Base H H' := fun H hB =>
    ACallsG.ofU1 fun cap hc => ACallsG.ofU2 fun cap' hc' => align_calls H (κ := .cap cap) (κ' := .cap cap') hc hl hn (hB.row rq) rfl hc' hl' hm (hB.row rq') rfl
  have c3 : ∀ H, Base H2 H → ACalls Try.prog 16 [.sliceU q 0 n 5, mkS κ 0 0 n] H (List.range H.length) fun v H' => v = .bool true ∧ H' = H := fun H hB =>
    ACallsG.ofU1 fun cap hc => samePul_calls H (κ := .cap cap) (κ' := κ) hc hl hn (hB.row rq) rfl hk ((hB2.trans hB).row r0) rfl
  have c4 : ∀ H, Base H2 H → ACalls Try.prog 17 [.sliceU q' 0 m 2, mkS κ' 1 0 m] H (List.range H.length) fun v H' => v = .bool true ∧ H' = H := fun H hB =>
    ACallsG.ofU1 fun cap hc => sameCli_calls H (κ := .cap cap) (κ' := κ') hc hl' hm (hB.row rq') rfl hk' ((hB2.trans hB).row r1) rfl
  simp (disch := omega) only [sN, ↓reduceIte, Nat.reduceEqDiff, Nat.reduceAdd, Nat.reduceMul, Nat.reduceSub, reduceCtorEq, e_none, e_some, e_bindS, e0, e1, e2, e3, List.map_cons, List.map_nil]
  refine ⟨_, (c1 H2 Base.refl).g.mono ?_⟩
  rintro v H3 ⟨rfl, hB3⟩
  simp (disch := omega) only [sN, ↓reduceIte, Nat.reduceEqDiff, Nat.reduceAdd, Nat.reduceMul, Nat.reduceSub, reduceCtorEq, e_none, e_some, e_bindS, e0, e1, e2, e3, List.map_cons, List.map_nil, List.getElem?_cons_zero, List.getElem?_cons_succ]
  refine ⟨_, (rAgreement_calls H3 hk hl hn ((hB2.trans hB3).row r0) rfl hk' hl' hm ((hB2.trans hB3).row r1) rfl).g.mono ?_⟩
  rintro v H4 ⟨rfl, hH4⟩
  rw [hH4]
  simp (disch := omega) only [sN, ↓reduceIte, Nat.reduceEqDiff, Nat.reduceAdd, Nat.reduceMul, Nat.reduceSub, reduceCtorEq, e_none, e_some, e_bindS, e0, e1, e2, e3, List.map_cons, List.map_nil, List.getElem?_cons_zero, List.getElem?_cons_succ]
  refine ⟨_, (c2 H3 hB3).g.mono ?_⟩
  rintro v H5 ⟨rfl, hB5⟩
  have hB25 := hB3.trans hB5
  simp (disch := omega) only [sN, ↓reduceIte, Nat.reduceEqDiff, Nat.reduceAdd, Nat.reduceMul, Nat.reduceSub, reduceCtorEq, e_none, e_some, e_bindS, e0, e1, e2, e3, List.map_cons, List.map_nil, List.getElem?_cons_zero, List.getElem?_cons_succ]
  refine ⟨_, (rAlign_calls H5 hk hl hn ((hB2.trans hB25).row r0) rfl hk' hl' hm ((hB2.trans hB25).row r1) rfl).g.mono ?_⟩
  rintro v H6 ⟨rfl, hH6⟩
  rw [hH6]
  obtain ⟨a1, ha1⟩ : ∃ x, x = scA L l m sh := ⟨_, rfl⟩
  obtain ⟨a2, ha2⟩ : ∃ x, x = agE L l m sh := ⟨_, rfl⟩
  obtain ⟨a3, ha3⟩ : ∃ x, x = alN L l m need := ⟨_, rfl⟩
  obtain ⟨a4, ha4⟩ : ∃ x, x = alE L l m need := ⟨_, rfl⟩
  rw [← ha1, ← ha2, ← ha3, ← ha4]
  simp (disch := omega) only [sN, ↓reduceIte, Nat.reduceEqDiff, Nat.reduceAdd, Nat.reduceMul, Nat.reduceSub, reduceCtorEq, e_none, e_some, e_bindS, e0, e1, e2, e3, List.map_cons, List.map_nil, List.getElem?_cons_zero, List.getElem?_cons_succ]
  refine ⟨_, (c3 H5 hB25).g.mono ?_⟩
  rintro v H7 ⟨rfl, hH7⟩
  rw [hH7]
  simp (disch := omega) only [sN, ↓reduceIte, Nat.reduceEqDiff, Nat.reduceAdd, Nat.reduceMul, Nat.reduceSub, reduceCtorEq, e_none, e_some, e_bindS, e0, e1, e2, e3, List.map_cons, List.map_nil]
  refine ⟨_, (c4 H5 hB25).g.mono ?_⟩
  rintro v H8 ⟨rfl, hH8⟩
  rw [hH8]
  simp (disch := omega) only [sN, ↓reduceIte, Nat.reduceEqDiff, Nat.reduceAdd, Nat.reduceMul, Nat.reduceSub, reduceCtorEq, e_none, e_some, e_bindS, List.map_nil]
  refine call_true6 hw fun H' => ?_
  simp (disch := omega) only [sN, ↓reduceIte, Nat.reduceEqDiff, Nat.reduceAdd, Nat.reduceMul, Nat.reduceSub, reduceCtorEq, e_none, e_some, e_bindS]
  have hL := (hB2.trans hB25).1
  refine ret_keep (by rw [List.length_append]; omega) ?_
  simp only [q_tmp, q_then, rs_lawAli, e_upd, e_putS, e_putN, e_t, e_c, Nat.reduceEqDiff, ↓reduceIte, reduceCtorEq, Nat.reduceAdd]
end Go.Proofs.Ythbhljolpnbdlaa

