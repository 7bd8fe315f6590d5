/- Contracts of stage 4: rates. -/
import Derived.Test.YthbhljolpnbdlaaVX
import Derived.Test.YthbhljolpnbdlaaTA
import Derived.Test.YthbhljolpnbdlaaTB
import Derived.Test.YthbhljolpnbdlaaSIr10
import Derived.Test.YthbhljolpnbdlaaPI
import Derived.Test.YthbhljolpnbdlaaPQ
import Derived.Test.YthbhljolpnbdlaaPG
import Derived.Test.YthbhljolpnbdlaaPR
import Derived.Test.YthbhljolpnbdlaaPP
import Derived.Test.YthbhljolpnbdlaaPA
import Derived.Test.YthbhljolpnbdlaaPE
set_option linter.unusedSimpArgs false
set_option linter.unusedVariables false
-- NEWSET
namespace Go.Proofs.Ythbhljolpnbdlaa.S1
open Go Go.Vh

/-! ### few -/
theorem few_calls (H0 : AHeap) (n : Int) : ACalls Try.prog 39 [.int .i64 n] H0 (List.range H0.length) fun v H => v = .bool (decide (n ≤ 60 ∨ 512 < n)) ∧ H = H0 := by
  refine ACalls.body Try.func39 ent_few ir_few_ok rs_few_ok Try.ntmps39 (by simp) rfl ?_
  unfold ir_few
  have e0 : s0 [.int .i64 n] 0 = .int .i64 n := rfl
  by_cases h0 : n ≤ 60
  · simp (disch := omega) only [sN, ↓reduceIte, Nat.reduceEqDiff, Nat.reduceAdd, Nat.reduceMul, Nat.reduceSub, reduceCtorEq, e_none, e_some, e_bindS, e0]
    refine ret_keep (by simp) ⟨?_, rfl⟩
    simp only [e_upd, e_putS, e_putN, e_t, e_c, Nat.reduceEqDiff, ↓reduceIte, reduceCtorEq, Nat.reduceAdd]; try simp [h0]
  · by_cases h1 : 512 < n
    · simp (disch := omega) only [sN, ↓reduceIte, Nat.reduceEqDiff, Nat.reduceAdd, Nat.reduceMul, Nat.reduceSub, reduceCtorEq, e_none, e_some, e_bindS, e0]
      refine ret_keep (by simp) ⟨?_, rfl⟩
      simp only [e_upd, e_putS, e_putN, e_t, e_c, Nat.reduceEqDiff, ↓reduceIte, reduceCtorEq, Nat.reduceAdd]; try simp [h0, h1]
    · simp (disch := omega) only [sN, ↓reduceIte, Nat.reduceEqDiff, Nat.reduceAdd, Nat.reduceMul, Nat.reduceSub, reduceCtorEq, e_none, e_some, e_bindS, e0]
      refine ret_keep (by simp) ⟨?_, rfl⟩
      simp only [e_upd, e_putS, e_putN, e_t, e_c, Nat.reduceEqDiff, ↓reduceIte, reduceCtorEq, Nat.reduceAdd]; try simp [h0, h1]

/-! ### Rate -/
/-- what Rate answers -/
def rtL (q : Fr) (total sample seen : Int) : List Int := if bdE q total sample seen = 0 then [total, sample, seen, bdV q total sample seen, IntKind.i64.wrap (bdV q total sample seen - seen)] else [0, 0, 0, 0, 0]
theorem q_cell5 {s : St} {H : AHeap} {r : Nat} {l : List AV} (h : s 8 = .ptr r 0) (hr : Vh.rowAt H r = some ⟨true, false, l⟩) (hl : l.length = 5) : ares s H [.cell 8 5 true, .tmp 9] = some (.tuple [.agg l, s 9]) := by
  have e : ares1 s H (.cell 8 5 true) = some (.agg l) := by
    simp [ares1, h, cellsAt, hr, hl, List.take_of_length_le]
  simp only [ares, aresL, e, Option.bind_some, Option.map_some, show ares1 s H (.tmp 9) = some (s 9) from rfl]
theorem p_build5 {s : St} {x1 x2 x3 x4 x5 : Opd} {z1 z2 z3 z4 z5 : AV} {a b c d e : Int} (h1 : evo s x1 = .int .i64 a) (h2 : evo s x2 = .int .i64 b) (h3 : evo s x3 = .int .i64 c) (h4 : evo s x4 = .int .i64 d) (h5 : evo s x5 = .int .i64 e) :
    ipure (.build [z1, z2, z3, z4, z5] [(0, (1, x1)), (1, (1, x2)), (2, (1, x3)), (3, (1, x4)), (4, (1, x5))]) s = some (.agg (ints .i64 [a, b, c, d, e])) := by
  simp [ipure, h1, h2, h3, h4, h5, afill, aparts, ints, AV.cell]
theorem p_build0 {s : St} {zs : List AV} : ipure (.build zs []) s = some (.agg zs) := rfl
theorem p_neZ {a : Int} (h : a ≠ 0) : abin .neq (.int .i64 a) (.int .i64 0) = some (.bool true) := by simp [abin, aint, h]
theorem ints_all {k : IntKind} {l : List Int} : (ints k l).all AV.cell = true := by simp [ints, AV.cell]

section
variable {H0 : AHeap} {q : Fr} {total sample seen : Int}
set_option maxHeartbeats 2000000 in
theorem rate_calls (hq : q.ok H0) (h0 : -9223372036854775808 ≤ total ∧ total ≤ 9223372036854775807) (h1 : -9223372036854775808 ≤ sample ∧ sample ≤ 9223372036854775807) (h2 : -9223372036854775808 ≤ seen ∧ seen ≤ 9223372036854775807) :
    ACalls Try.prog 40 [.int .i64 total, .int .i64 sample, .int .i64 seen, .agg [q.w, q.w2]] H0 (List.range H0.length) fun v H => v = .tuple [.agg (ints .i64 (rtL q total sample seen)), .int .i64 (bdE q total sample seen)] ∧ Base H0 H := by
  refine ACalls.body Try.func40 ent_rate ir_rate_ok rs_rate_ok Try.ntmps40 (by simp) rfl ?_
  unfold ir_rate
  have e0 : s0 [.int .i64 total, .int .i64 sample, .int .i64 seen, .agg [q.w, q.w2]] 0 = .int .i64 total := rfl
  have e1 : s0 [.int .i64 total, .int .i64 sample, .int .i64 seen, .agg [q.w, q.w2]] 1 = .int .i64 sample := rfl
  have e2 : s0 [.int .i64 total, .int .i64 sample, .int .i64 seen, .agg [q.w, q.w2]] 2 = .int .i64 seen := rfl
  have e3 : s0 [.int .i64 total, .int .i64 sample, .int .i64 seen, .agg [q.w, q.w2]] 3 = .agg [q.w, q.w2] := rfl
  rw [show rs_rate = [.cell 8 5 true, .tmp 9] from rfl]
  simp -implicitDefEqProofs (disch := omega) only [sN, ↓reduceIte, Nat.reduceEqDiff, Nat.reduceAdd, Nat.reduceMul, Nat.reduceSub, reduceCtorEq, e_none, e_some, e_bindS, e0, e1, e2, e3]
  rw [x_boxN (l := [q.w, q.w2]) (by simp only [e_upd, e_putS, e_putN, e_t, e_c, Nat.reduceEqDiff, ↓reduceIte, reduceCtorEq, Nat.reduceAdd, e3]) (by simp [hq.1.cell, hq.2.1.cell])]
  simp -implicitDefEqProofs (disch := omega) only [sN, ↓reduceIte, Nat.reduceEqDiff, Nat.reduceAdd, Nat.reduceMul, Nat.reduceSub, reduceCtorEq, e_none, e_some, e_bindS, e0, e1, e2, e3]
  rw [x_allocA rfl]
  obtain ⟨H1, hH1⟩ : ∃ h, h = H0 ++ [rw_ [q.w, q.w2]] ++ [rw_ (ints .i64 [0, 0, 0, 0, 0])] := ⟨_, rfl⟩
  have hB1 : Base H0 H1 := by rw [hH1]; exact Base.one.app
  have r7 : Vh.rowAt H1 H0.length = some ⟨true, false, [q.w, q.w2]⟩ := by rw [hH1, rowAt_append_left (by simp)]; simp [Vh.rowAt, rw_]
  have r8 : Vh.rowAt H1 (H0 ++ [rw_ [q.w, q.w2]]).length = some ⟨true, false, ints .i64 [0, 0, 0, 0, 0]⟩ := by rw [hH1]; simp [Vh.rowAt, rw_]
  obtain ⟨a8, ha8⟩ : ∃ a, a = (H0 ++ [rw_ [q.w, q.w2]]).length := ⟨_, rfl⟩
  have h8 : H0.length ≤ a8 := by rw [ha8]; simp
  rw [← ha8] at r8 ⊢
  rw [show H0 ++ [rw_ [q.w, q.w2]] ++ [rw_ [AV.int .i64 0, .int .i64 0, .int .i64 0, .int .i64 0, .int .i64 0]] = H1 from hH1.symm]
  simp -implicitDefEqProofs (disch := omega) only [sN, ↓reduceIte, Nat.reduceEqDiff, Nat.reduceAdd, Nat.reduceMul, Nat.reduceSub, reduceCtorEq, e_none, e_some, e_bindS, e0, e1, e2]
  rw [x_loadNA (n := 2) (r := H0.length) (l := [q.w, q.w2]) (by simp only [e_upd, e_putS, e_putN, e_t, e_c, Nat.reduceEqDiff, ↓reduceIte, reduceCtorEq, Nat.reduceAdd]) r7 rfl rfl]
  simp -implicitDefEqProofs (disch := omega) only [sN, ↓reduceIte, Nat.reduceEqDiff, Nat.reduceAdd, Nat.reduceMul, Nat.reduceSub, reduceCtorEq, e_none, e_some, e_bindS, e0, e1, e2, List.map_cons, List.map_nil]
  refine ⟨_, (xBound_calls H1 (hq.base hB1) total sample seen h0 h1 h2).g.mono ?_⟩
  rintro v H2 ⟨rfl, hB2⟩
  have hB := hB1.trans hB2
  have r8' := hB2.row r8
  have hH2 : H0.length ≤ H2.length := hB.1
  by_cases he : bdE q total sample seen = 0
  · rw [he]
    simp -implicitDefEqProofs (disch := omega) only [sN, ↓reduceIte, Nat.reduceEqDiff, Nat.reduceAdd, Nat.reduceMul, Nat.reduceSub, reduceCtorEq, e_none, e_some, e_bindS, e0, e1, e2, List.getElem?_cons_zero, List.getElem?_cons_succ]
    rw [p_build5 (a := total) (b := sample) (c := seen) (d := bdV q total sample seen) (e := IntKind.i64.wrap (bdV q total sample seen - seen)) (by simp only [e_upd, e_putS, e_putN, e_t, e_c, Nat.reduceEqDiff, ↓reduceIte, reduceCtorEq, Nat.reduceAdd]) (by simp only [e_upd, e_putS, e_putN, e_t, e_c, Nat.reduceEqDiff, ↓reduceIte, reduceCtorEq, Nat.reduceAdd]) (by simp only [e_upd, e_putS, e_putN, e_t, e_c, Nat.reduceEqDiff, ↓reduceIte, reduceCtorEq, Nat.reduceAdd]) (by simp only [e_upd, e_putS, e_putN, e_t, e_c, Nat.reduceEqDiff, ↓reduceIte, reduceCtorEq, Nat.reduceAdd]) (by simp only [e_upd, e_putS, e_putN, e_t, e_c, Nat.reduceEqDiff, ↓reduceIte, reduceCtorEq, Nat.reduceAdd])]
    simp -implicitDefEqProofs (disch := omega) only [sN, ↓reduceIte, Nat.reduceEqDiff, Nat.reduceAdd, Nat.reduceMul, Nat.reduceSub, reduceCtorEq, e_none, e_some, e_bindS]
    rw [x_storeNA (n := 5) (r := a8) (l := ints .i64 [0, 0, 0, 0, 0]) (l' := ints .i64 [total, sample, seen, bdV q total sample seen, IntKind.i64.wrap (bdV q total sample seen - seen)]) (by simp only [e_upd, e_putS, e_putN, e_t, e_c, Nat.reduceEqDiff, ↓reduceIte, reduceCtorEq, Nat.reduceAdd]) (by simp only [e_upd, e_putS, e_putN, e_t, e_c, Nat.reduceEqDiff, ↓reduceIte, reduceCtorEq, Nat.reduceAdd]) ints_all r8' rfl rfl]
    simp -implicitDefEqProofs (disch := omega) only [sN, ↓reduceIte, Nat.reduceEqDiff, Nat.reduceAdd, Nat.reduceMul, Nat.reduceSub, reduceCtorEq, e_none, e_some, e_bindS]
    refine ret_keep (by simpa using hH2) ?_
    rw [q_cell5 (r := a8) (l := ints .i64 [total, sample, seen, bdV q total sample seen, IntKind.i64.wrap (bdV q total sample seen - seen)]) (by simp only [e_upd, e_putS, e_putN, e_t, e_c, Nat.reduceEqDiff, ↓reduceIte, reduceCtorEq, Nat.reduceAdd]) (by have := rowAt_lt r8'; simp [Vh.rowAt, rw_, this]) rfl, q_then]
    refine ⟨?_, hB.set h8⟩
    rw [rtL, if_pos he]
    simp only [e_upd, e_putS, e_putN, e_t, e_c, Nat.reduceEqDiff, ↓reduceIte, reduceCtorEq, Nat.reduceAdd]
  · simp -implicitDefEqProofs (disch := omega) only [sN, ↓reduceIte, Nat.reduceEqDiff, Nat.reduceAdd, Nat.reduceMul, Nat.reduceSub, reduceCtorEq, e_none, e_some, e_bindS, e0, e1, e2, List.getElem?_cons_zero, List.getElem?_cons_succ, p_neZ he, p_build0]
    rw [x_storeNA (n := 5) (r := a8) (l := ints .i64 [0, 0, 0, 0, 0]) (l' := ints .i64 [0, 0, 0, 0, 0]) (by simp only [e_upd, e_putS, e_putN, e_t, e_c, Nat.reduceEqDiff, ↓reduceIte, reduceCtorEq, Nat.reduceAdd]) (by simp only [e_upd, e_putS, e_putN, e_t, e_c, Nat.reduceEqDiff, ↓reduceIte, reduceCtorEq, Nat.reduceAdd]; rfl) ints_all r8' rfl rfl]
    simp -implicitDefEqProofs (disch := omega) only [sN, ↓reduceIte, Nat.reduceEqDiff, Nat.reduceAdd, Nat.reduceMul, Nat.reduceSub, reduceCtorEq, e_none, e_some, e_bindS]
    refine ret_keep (by simpa using hH2) ?_
    rw [q_cell5 (r := a8) (l := ints .i64 [0, 0, 0, 0, 0]) (by simp only [e_upd, e_putS, e_putN, e_t, e_c, Nat.reduceEqDiff, ↓reduceIte, reduceCtorEq, Nat.reduceAdd]) (by have := rowAt_lt r8'; simp [Vh.rowAt, rw_, this]) rfl, q_then]
    refine ⟨?_, hB.set h8⟩
    rw [rtL, if_neg he]
    simp only [e_upd, e_putS, e_putN, e_t, e_c, Nat.reduceEqDiff, ↓reduceIte, reduceCtorEq, Nat.reduceAdd]
set_option maxHeartbeats 2000000 in
theorem rRate_calls (hq : q.ok H0) (h0 : -9223372036854775808 ≤ total ∧ total ≤ 9223372036854775807) (h1 : -9223372036854775808 ≤ sample ∧ sample ≤ 9223372036854775807) (h2 : -9223372036854775808 ≤ seen ∧ seen ≤ 9223372036854775807) :
    ACalls Try.prog 41 [.int .i64 total, .int .i64 sample, .int .i64 seen, .agg [q.w, q.w2]] H0 (List.range H0.length) fun v H => v = .tuple [.agg (ints .i64 (rtL q total sample seen)), .int .i64 (bdE q total sample seen)] ∧ Base H0 H := by
  refine ACalls.body Try.func41 ent_rRate ir_rRate_ok rs_rRate_ok Try.ntmps41 (by simp) rfl ?_
  unfold ir_rRate
  have e0 : s0 [.int .i64 total, .int .i64 sample, .int .i64 seen, .agg [q.w, q.w2]] 0 = .int .i64 total := rfl
  have e1 : s0 [.int .i64 total, .int .i64 sample, .int .i64 seen, .agg [q.w, q.w2]] 1 = .int .i64 sample := rfl
  have e2 : s0 [.int .i64 total, .int .i64 sample, .int .i64 seen, .agg [q.w, q.w2]] 2 = .int .i64 seen := rfl
  have e3 : s0 [.int .i64 total, .int .i64 sample, .int .i64 seen, .agg [q.w, q.w2]] 3 = .agg [q.w, q.w2] := rfl
  rw [show rs_rRate = [.cell 8 5 true, .tmp 9] from rfl]
  simp -implicitDefEqProofs (disch := omega) only [sN, ↓reduceIte, Nat.reduceEqDiff, Nat.reduceAdd, Nat.reduceMul, Nat.reduceSub, reduceCtorEq, e_none, e_some, e_bindS, e0, e1, e2, e3]
  rw [x_boxN (l := [q.w, q.w2]) (by simp only [e_upd, e_putS, e_putN, e_t, e_c, Nat.reduceEqDiff, ↓reduceIte, reduceCtorEq, Nat.reduceAdd, e3]) (by simp [hq.1.cell, hq.2.1.cell])]
  simp -implicitDefEqProofs (disch := omega) only [sN, ↓reduceIte, Nat.reduceEqDiff, Nat.reduceAdd, Nat.reduceMul, Nat.reduceSub, reduceCtorEq, e_none, e_some, e_bindS, e0, e1, e2, e3]
  rw [x_allocA rfl]
  obtain ⟨H1, hH1⟩ : ∃ h, h = H0 ++ [rw_ [q.w, q.w2]] ++ [rw_ (ints .i64 [0, 0, 0, 0, 0])] := ⟨_, rfl⟩
  have hB1 : Base H0 H1 := by rw [hH1]; exact Base.one.app
  have r7 : Vh.rowAt H1 H0.length = some ⟨true, false, [q.w, q.w2]⟩ := by rw [hH1, rowAt_append_left (by simp)]; simp [Vh.rowAt, rw_]
  have r8 : Vh.rowAt H1 (H0 ++ [rw_ [q.w, q.w2]]).length = some ⟨true, false, ints .i64 [0, 0, 0, 0, 0]⟩ := by rw [hH1]; simp [Vh.rowAt, rw_]
  obtain ⟨a8, ha8⟩ : ∃ a, a = (H0 ++ [rw_ [q.w, q.w2]]).length := ⟨_, rfl⟩
  have h8 : H0.length ≤ a8 := by rw [ha8]; simp
  rw [← ha8] at r8 ⊢
  rw [show H0 ++ [rw_ [q.w, q.w2]] ++ [rw_ [AV.int .i64 0, .int .i64 0, .int .i64 0, .int .i64 0, .int .i64 0]] = H1 from hH1.symm]
  simp -implicitDefEqProofs (disch := omega) only [sN, ↓reduceIte, Nat.reduceEqDiff, Nat.reduceAdd, Nat.reduceMul, Nat.reduceSub, reduceCtorEq, e_none, e_some, e_bindS, e0, e1, e2]
  rw [x_loadNA (n := 2) (r := H0.length) (l := [q.w, q.w2]) (by simp only [e_upd, e_putS, e_putN, e_t, e_c, Nat.reduceEqDiff, ↓reduceIte, reduceCtorEq, Nat.reduceAdd]) r7 rfl rfl]
  simp -implicitDefEqProofs (disch := omega) only [sN, ↓reduceIte, Nat.reduceEqDiff, Nat.reduceAdd, Nat.reduceMul, Nat.reduceSub, reduceCtorEq, e_none, e_some, e_bindS, e0, e1, e2, List.map_cons, List.map_nil]
  refine ⟨_, (rBound_calls H1 (hq.base hB1) total sample seen h0 h1 h2).g.mono ?_⟩
  rintro v H2 ⟨rfl, hB2⟩
  have hB := hB1.trans hB2
  have r8' := hB2.row r8
  have hH2 : H0.length ≤ H2.length := hB.1
  by_cases he : bdE q total sample seen = 0
  · rw [he]
    simp -implicitDefEqProofs (disch := omega) only [sN, ↓reduceIte, Nat.reduceEqDiff, Nat.reduceAdd, Nat.reduceMul, Nat.reduceSub, reduceCtorEq, e_none, e_some, e_bindS, e0, e1, e2, List.getElem?_cons_zero, List.getElem?_cons_succ]
    rw [p_build5 (a := total) (b := sample) (c := seen) (d := bdV q total sample seen) (e := IntKind.i64.wrap (bdV q total sample seen - seen)) (by simp only [e_upd, e_putS, e_putN, e_t, e_c, Nat.reduceEqDiff, ↓reduceIte, reduceCtorEq, Nat.reduceAdd]) (by simp only [e_upd, e_putS, e_putN, e_t, e_c, Nat.reduceEqDiff, ↓reduceIte, reduceCtorEq, Nat.reduceAdd]) (by simp only [e_upd, e_putS, e_putN, e_t, e_c, Nat.reduceEqDiff, ↓reduceIte, reduceCtorEq, Nat.reduceAdd]) (by simp only [e_upd, e_putS, e_putN, e_t, e_c, Nat.reduceEqDiff, ↓reduceIte, reduceCtorEq, Nat.reduceAdd]) (by simp only [e_upd, e_putS, e_putN, e_t, e_c, Nat.reduceEqDiff, ↓reduceIte, reduceCtorEq, Nat.reduceAdd])]
    simp -implicitDefEqProofs (disch := omega) only [sN, ↓reduceIte, Nat.reduceEqDiff, Nat.reduceAdd, Nat.reduceMul, Nat.reduceSub, reduceCtorEq, e_none, e_some, e_bindS]
    rw [x_storeNA (n := 5) (r := a8) (l := ints .i64 [0, 0, 0, 0, 0]) (l' := ints .i64 [total, sample, seen, bdV q total sample seen, IntKind.i64.wrap (bdV q total sample seen - seen)]) (by simp only [e_upd, e_putS, e_putN, e_t, e_c, Nat.reduceEqDiff, ↓reduceIte, reduceCtorEq, Nat.reduceAdd]) (by simp only [e_upd, e_putS, e_putN, e_t, e_c, Nat.reduceEqDiff, ↓reduceIte, reduceCtorEq, Nat.reduceAdd]) ints_all r8' rfl rfl]
    simp -implicitDefEqProofs (disch := omega) only [sN, ↓reduceIte, Nat.reduceEqDiff, Nat.reduceAdd, Nat.reduceMul, Nat.reduceSub, reduceCtorEq, e_none, e_some, e_bindS]
    refine ret_keep (by simpa using hH2) ?_
    rw [q_cell5 (r := a8) (l := ints .i64 [total, sample, seen, bdV q total sample seen, IntKind.i64.wrap (bdV q total sample seen - seen)]) (by simp only [e_upd, e_putS, e_putN, e_t, e_c, Nat.reduceEqDiff, ↓reduceIte, reduceCtorEq, Nat.reduceAdd]) (by have := rowAt_lt r8'; simp [Vh.rowAt, rw_, this]) rfl, q_then]
    refine ⟨?_, hB.set h8⟩
    rw [rtL, if_pos he]
    simp only [e_upd, e_putS, e_putN, e_t, e_c, Nat.reduceEqDiff, ↓reduceIte, reduceCtorEq, Nat.reduceAdd]
  · simp -implicitDefEqProofs (disch := omega) only [sN, ↓reduceIte, Nat.reduceEqDiff, Nat.reduceAdd, Nat.reduceMul, Nat.reduceSub, reduceCtorEq, e_none, e_some, e_bindS, e0, e1, e2, List.getElem?_cons_zero, List.getElem?_cons_succ, p_neZ he, p_build0]
    rw [x_storeNA (n := 5) (r := a8) (l := ints .i64 [0, 0, 0, 0, 0]) (l' := ints .i64 [0, 0, 0, 0, 0]) (by simp only [e_upd, e_putS, e_putN, e_t, e_c, Nat.reduceEqDiff, ↓reduceIte, reduceCtorEq, Nat.reduceAdd]) (by simp only [e_upd, e_putS, e_putN, e_t, e_c, Nat.reduceEqDiff, ↓reduceIte, reduceCtorEq, Nat.reduceAdd]; rfl) ints_all r8' rfl rfl]
    simp -implicitDefEqProofs (disch := omega) only [sN, ↓reduceIte, Nat.reduceEqDiff, Nat.reduceAdd, Nat.reduceMul, Nat.reduceSub, reduceCtorEq, e_none, e_some, e_bindS]
    refine ret_keep (by simpa using hH2) ?_
    rw [q_cell5 (r := a8) (l := ints .i64 [0, 0, 0, 0, 0]) (by simp only [e_upd, e_putS, e_putN, e_t, e_c, Nat.reduceEqDiff, ↓reduceIte, reduceCtorEq, Nat.reduceAdd]) (by have := rowAt_lt r8'; simp [Vh.rowAt, rw_, this]) rfl, q_then]
    refine ⟨?_, hB.set h8⟩
    rw [rtL, if_neg he]
    simp only [e_upd, e_putS, e_putN, e_t, e_c, Nat.reduceEqDiff, ↓reduceIte, reduceCtorEq, Nat.reduceAdd]
end
end Go.Proofs.Ythbhljolpnbdlaa.S1


/- Contracts of stage 4: the judgement of a sample. -/
-- NEWSET
namespace Go.Proofs.Ythbhljolpnbdlaa.S1
open Go Go.Vh

theorem num_two {n : Int} : num (two n) = n := by
  simp only [num, two, List.length_cons, List.length_nil]
  have hB : BB ^ 1 = 4294967296 := rfl
  simp [nv, hB]
  omega
theorem limbs_two {n : Int} (h0 : 0 ≤ n) (h1 : n ≤ 18446744073709551615) : Limbs (two n) := two_range h0 h1
/-- a number of two limbs in its row -/
theorem atX_two {H : AHeap} {r : Nat} {row : ARow} {n : Int} (h0 : 0 ≤ n) (h1 : n ≤ 18446744073709551615) {κ : SK} (hk : okS κ (tz (two n) 2)) (hr : Vh.rowAt H r = some row) (hc : row.cells.take (tz (two n) 2) = ints .u32 ((two n).take (tz (two n) 2))) :
    AtX H (mkS κ r 0 (tz (two n) 2)) n (tz (two n) 2) := by
  have ht := tz_le (two n) 2
  have hl : ((two n).take (tz (two n) 2)).length = tz (two n) 2 := by rw [List.length_take, two_length]; omega
  have hN := new_of_trim (S := two n) (x := n) (c := 2) (row := ⟨true, false, ints .u32 (two n)⟩) (limbs_two h0 h1) num_two ht rfl rfl
  rw [two_length] at hN
  exact ⟨κ, (two n).take (tz (two n) 2), row, r, by rw [hl]; exact hk, by rw [hl], hr, by rw [hl]; exact hc, hN.limbs, hN.num, hl⟩

theorem q_cell2 {s : St} {H : AHeap} {r : Nat} {l : List AV} (h : s 4 = .ptr r 0) (hr : Vh.rowAt H r = some ⟨true, false, l⟩) (hl : l.length = 2) : ares s H [.cell 4 2 true] = some (.agg l) := by
  have e : ares1 s H (.cell 4 2 true) = some (.agg l) := by
    simp [ares1, h, cellsAt, hr, hl, List.take_of_length_le]
  simp only [ares, e]
theorem p_build2a {s : St} {x y : Opd} {z1 z2 v1 v2 : AV} (h1 : evo s x = v1) (h2 : evo s y = v2) (c1 : v1.cell = true) (c2 : v2.cell = true) : ipure (.build [z1, z2] [(0, (1, x)), (1, (1, y))]) s = some (.agg [v1, v2]) := by
  subst h1; subst h2
  exact p_build2v rfl rfl c1 c2

theorem frac_calls {a b : Int} (a0 : 0 ≤ a) (a1 : a ≤ 9223372036854775807) (b0 : 0 ≤ b) (b1 : b ≤ 9223372036854775807) : ACalls Try.prog 79 [.int .i64 a, .int .i64 b] [] [] fun v H =>
    v = .agg [mkS (.cap 2) 1 0 (tz (two a) 2), mkS (.cap 2) 2 0 (tz (two b) 2)] ∧ ∃ row, H = [some row, rw_ (ints .u32 (two a)), rw_ (ints .u32 (two b))] := by
  refine ACalls.body Try.func79 ent_frac ir_frac_ok rs_frac_ok Try.ntmps79 (by simp) rfl ?_
  unfold ir_frac
  have e0 : s0 [.int .i64 a, .int .i64 b] 0 = .int .i64 a := rfl
  have e1 : s0 [.int .i64 a, .int .i64 b] 1 = .int .i64 b := rfl
  have wa : IntKind.u64.wrap a = a := by rw [IntKind.wrap_u64]; omega
  have wb : IntKind.u64.wrap b = b := by rw [IntKind.wrap_u64]; omega
  simp -implicitDefEqProofs (disch := omega) only [sN, ↓reduceIte, Nat.reduceEqDiff, Nat.reduceAdd, Nat.reduceMul, Nat.reduceSub, reduceCtorEq, e_none, e_some, e_bindS, e0, e1]
  rw [x_allocA rfl]
  simp -implicitDefEqProofs (disch := omega) only [sN, ↓reduceIte, Nat.reduceEqDiff, Nat.reduceAdd, Nat.reduceMul, Nat.reduceSub, reduceCtorEq, e_none, e_some, e_bindS, e0, e1, wa, wb, List.map_cons, List.map_nil]
  refine call_do (xof_calls a a0 (by omega)) [] rfl rfl rfl rfl trivial ?_
  rintro v0 H0' ⟨rfl, rfl⟩
  rw [m_merge, m_nil, n_mkS0 (r' := 1) rfl]
  simp -implicitDefEqProofs (disch := omega) only [sN, ↓reduceIte, Nat.reduceEqDiff, Nat.reduceAdd, Nat.reduceMul, Nat.reduceSub, reduceCtorEq, e_none, e_some, e_bindS, e0, e1, wa, wb, List.map_cons, List.map_nil]
  refine call_do (xof_calls b b0 (by omega)) [] rfl rfl rfl rfl trivial ?_
  rintro v0 H0' ⟨rfl, rfl⟩
  rw [m_merge, m_nil, n_mkS0 (r' := 2) rfl]
  simp -implicitDefEqProofs (disch := omega) only [sN, ↓reduceIte, Nat.reduceEqDiff, Nat.reduceAdd, Nat.reduceMul, Nat.reduceSub, reduceCtorEq, e_none, e_some, e_bindS, e0, e1, wa, wb]
  rw [p_build2a (v1 := mkS (.cap 2) 1 0 (tz (two a) 2)) (v2 := mkS (.cap 2) 2 0 (tz (two b) 2)) (by simp only [e_upd, e_putS, e_putN, e_t, e_c, Nat.reduceEqDiff, ↓reduceIte, reduceCtorEq, Nat.reduceAdd]) (by simp only [e_upd, e_putS, e_putN, e_t, e_c, Nat.reduceEqDiff, ↓reduceIte, reduceCtorEq, Nat.reduceAdd]) mkS_cell mkS_cell]
  simp only [List.nil_append, List.length_nil, List.drop_zero, List.map_cons, List.map_nil, m_renRw, ints_ren, List.cons_append, List.length_cons]
  simp -implicitDefEqProofs (disch := omega) only [sN, ↓reduceIte, Nat.reduceEqDiff, Nat.reduceAdd, Nat.reduceMul, Nat.reduceSub, reduceCtorEq, e_none, e_some, e_bindS]
  rw [x_storeNA (n := 2) (r := 0) (l := [.nilslice, .nilslice]) (l' := [mkS (.cap 2) 1 0 (tz (two a) 2), mkS (.cap 2) 2 0 (tz (two b) 2)]) (by simp only [e_upd, e_putS, e_putN, e_t, e_c, Nat.reduceEqDiff, ↓reduceIte, reduceCtorEq, Nat.reduceAdd]) (by simp only [e_upd, e_putS, e_putN, e_t, e_c, Nat.reduceEqDiff, ↓reduceIte, reduceCtorEq, Nat.reduceAdd]) (by simp [mkS_cell]) rfl rfl rfl]
  simp -implicitDefEqProofs (disch := omega) only [sN, ↓reduceIte, Nat.reduceEqDiff, Nat.reduceAdd, Nat.reduceMul, Nat.reduceSub, reduceCtorEq, e_none, e_some, e_bindS]
  refine ret_keep (by simp) ?_
  rw [show rs_frac = [.cell 4 2 true] from rfl, q_cell2 (r := 0) (l := [mkS (.cap 2) 1 0 (tz (two a) 2), mkS (.cap 2) 2 0 (tz (two b) 2)]) (by simp only [e_upd, e_putS, e_putN, e_t, e_c, Nat.reduceEqDiff, ↓reduceIte, reduceCtorEq, Nat.reduceAdd]) rfl rfl, q_then]
  exact ⟨rfl, _, rfl⟩
end Go.Proofs.Ythbhljolpnbdlaa.S1


/- Contracts of stage 4: Judge. -/
-- NEWSET
namespace Go.Proofs.Ythbhljolpnbdlaa.S1
open Go Go.Vh

/-- what Judge answers -/
def jgE (q : Fr) (sample seen : Int) : Int := if cfE [q] = 0 then (if (0 ≤ sample ∧ sample ≤ 512) ∧ 0 ≤ seen ∧ seen ≤ sample then (if q.x * (if 1 > sample then 1 else sample) < seen * q.y then 18 else 0) else 3) else cfE [q]
theorem x_bs3j {s : St} {H : AHeap} {x1 x2 x3 : Opd} {z1 z2 z3 v1 v2 v3 : AV} (h1 : evo s x1 = v1) (h2 : evo s x2 = v2) (h3 : evo s x3 = v3) (c1 : v1.cell = true) (c2 : v2.cell = true) (c3 : v3.cell = true) (d2 : z2.cell = true) (d3 : z3.cell = true) :
    ieff (.buildSlice 3 [z1, z2, z3] [(0, (1, x1)), (1, (1, x2)), (2, (1, x3))]) s H = some (.slice H.length 0 3 3, H ++ [rw_ [v1, v2, v3]]) := by
  subst h1; subst h2; subst h3
  simp [ieff, afill, aparts_cell, c1, c2, c3, d2, d3, anew, rw_]
theorem gt_tt {c : Int} (h : 0 < c) : abin .gtr (.int .i64 c) (.int .i64 0) = some (.bool true) := by simp [abin, aint, h]
theorem gt_ff {c : Int} (h : ¬ 0 < c) : abin .gtr (.int .i64 c) (.int .i64 0) = some (.bool false) := by simp [abin, aint, h]

/-- the rate of a sample as a fraction in its rows -/
def fr2 (r : Nat) (κ κ' : SK) (a b : Int) : Fr := ⟨mkS κ (r + 1) 0 (tz (two a) 2), mkS κ' (r + 2) 0 (tz (two b) 2), a, b, tz (two a) 2, tz (two b) 2⟩
theorem cfE_fr2 {q p : Fr} (hq : cfE [q] = 0) (h1 : p.n ≤ 2) (h2 : p.m ≤ 2) (h3 : p.y ≠ 0) : cfE [p, q] = 0 := by
  unfold cfE at hq ⊢
  split at hq
  · rename_i hs
    split at hq
    · rename_i hd
      simp only [List.all_cons, List.all_nil, Bool.and_true] at hs hd ⊢
      have e1 : p.short = true := by simp [Fr.short]; omega
      have e2 : p.den = true := by simp [Fr.den, h3]
      rw [hs, hd, e1, e2]; rfl
    · omega
  · omega
theorem cmp_pos {x y : Int} : 0 < cmpI x y ↔ y < x := by
  unfold cmpI
  split
  · omega
  · split <;> omega

section
variable {H0 : AHeap} {q : Fr} {sample seen : Int}
set_option maxHeartbeats 2000000 in
theorem judge_calls (hq : q.ok H0) : ACalls Try.prog 42 [.int .i64 sample, .int .i64 seen, .agg [q.w, q.w2]] H0 (List.range H0.length) fun v H => v = .int .i64 (jgE q sample seen) ∧ Base H0 H := by
  refine ACalls.body Try.func42 ent_judge ir_judge_ok rs_judge_ok Try.ntmps42 (by simp) rfl ?_
  unfold ir_judge
  have e0 : s0 [.int .i64 sample, .int .i64 seen, .agg [q.w, q.w2]] 0 = .int .i64 sample := rfl
  have e1 : s0 [.int .i64 sample, .int .i64 seen, .agg [q.w, q.w2]] 1 = .int .i64 seen := rfl
  have e2 : s0 [.int .i64 sample, .int .i64 seen, .agg [q.w, q.w2]] 2 = .agg [q.w, q.w2] := rfl
  rw [show rs_judge = [.tmp 6] from rfl]
  simp -implicitDefEqProofs (disch := omega) only [sN, ↓reduceIte, Nat.reduceEqDiff, Nat.reduceAdd, Nat.reduceMul, Nat.reduceSub, reduceCtorEq, e_none, e_some, e_bindS, e0, e1, e2]
  rw [x_boxN (l := [q.w, q.w2]) (by simp only [e_upd, e_putS, e_putN, e_t, e_c, Nat.reduceEqDiff, ↓reduceIte, reduceCtorEq, Nat.reduceAdd, e2]) (by simp [hq.1.cell, hq.2.1.cell])]
  obtain ⟨H1, hH1⟩ : ∃ h, h = H0 ++ [rw_ [q.w, q.w2]] := ⟨_, rfl⟩
  have hB1 : Base H0 H1 := by rw [hH1]; exact Base.one
  have r5 : Vh.rowAt H1 H0.length = some ⟨true, false, [q.w, q.w2]⟩ := by rw [hH1]; simp [Vh.rowAt, rw_]
  rw [← hH1]
  simp -implicitDefEqProofs (disch := omega) only [sN, ↓reduceIte, Nat.reduceEqDiff, Nat.reduceAdd, Nat.reduceMul, Nat.reduceSub, reduceCtorEq, e_none, e_some, e_bindS, e0, e1, e2]
  rw [x_loadNA (n := 2) (r := H0.length) (l := [q.w, q.w2]) (by simp only [e_upd, e_putS, e_putN, e_t, e_c, Nat.reduceEqDiff, ↓reduceIte, reduceCtorEq, Nat.reduceAdd]) r5 rfl rfl]
  simp -implicitDefEqProofs (disch := omega) only [sN, ↓reduceIte, Nat.reduceEqDiff, Nat.reduceAdd, Nat.reduceMul, Nat.reduceSub, reduceCtorEq, e_none, e_some, e_bindS, e0, e1, e2, List.map_cons, List.map_nil]
  refine ⟨_, (xCheckFrac_calls H1 (hq.base hB1)).g.mono ?_⟩
  rintro v H2 ⟨rfl, hB2⟩
  simp -implicitDefEqProofs (disch := omega) only [sN, ↓reduceIte, Nat.reduceEqDiff, Nat.reduceAdd, Nat.reduceMul, Nat.reduceSub, reduceCtorEq, e_none, e_some, e_bindS, e0, e1, e2, List.map_cons, List.map_nil]
  refine ⟨_, (checkCount_calls H2 sample 512).g.mono ?_⟩
  rintro v Hx ⟨rfl, hHx⟩
  rw [hHx]
  clear hHx Hx
  simp -implicitDefEqProofs (disch := omega) only [sN, ↓reduceIte, Nat.reduceEqDiff, Nat.reduceAdd, Nat.reduceMul, Nat.reduceSub, reduceCtorEq, e_none, e_some, e_bindS, e0, e1, e2, List.map_cons, List.map_nil]
  refine ⟨_, (checkCount_calls H2 seen sample).g.mono ?_⟩
  rintro v Hx ⟨rfl, hHx⟩
  rw [hHx]
  clear hHx Hx
  obtain ⟨E2, hE2⟩ : ∃ e : Int, e = if 0 ≤ sample ∧ sample ≤ 512 then 0 else 3 := ⟨_, rfl⟩
  obtain ⟨E3, hE3⟩ : ∃ e : Int, e = if 0 ≤ seen ∧ seen ≤ sample then 0 else 3 := ⟨_, rfl⟩
  rw [← hE2, ← hE3]
  simp -implicitDefEqProofs (disch := omega) only [sN, ↓reduceIte, Nat.reduceEqDiff, Nat.reduceAdd, Nat.reduceMul, Nat.reduceSub, reduceCtorEq, e_none, e_some, e_bindS, e0, e1, e2]
  rw [x_bs3j (v1 := .int .i64 (cfE [q])) (v2 := .int .i64 E2) (v3 := .int .i64 E3) (by simp only [e_upd, e_putS, e_putN, e_t, e_c, Nat.reduceEqDiff, ↓reduceIte, reduceCtorEq, Nat.reduceAdd]) (by simp only [e_upd, e_putS, e_putN, e_t, e_c, Nat.reduceEqDiff, ↓reduceIte, reduceCtorEq, Nat.reduceAdd]) (by simp only [e_upd, e_putS, e_putN, e_t, e_c, Nat.reduceEqDiff, ↓reduceIte, reduceCtorEq, Nat.reduceAdd]) rfl rfl rfl rfl rfl]
  simp -implicitDefEqProofs (disch := omega) only [sN, ↓reduceIte, Nat.reduceEqDiff, Nat.reduceAdd, Nat.reduceMul, Nat.reduceSub, reduceCtorEq, e_none, e_some, e_bindS, e0, e1, e2, List.map_cons, List.map_nil]
  refine ⟨_, (firstError_calls (H2 ++ [rw_ [.int .i64 (cfE [q]), .int .i64 E2, .int .i64 E3]]) (n := 3) (r := H2.length) (l := [cfE [q], E2, E3]) (row := ⟨true, false, [.int .i64 (cfE [q]), .int .i64 E2, .int .i64 E3]⟩) rfl (by omega) (by simp [Vh.rowAt, rw_]) rfl).g.mono ?_⟩
  rintro v H3 ⟨rfl, hB3⟩
  have hB13 : Base H1 H3 := (hB2.app).trans hB3
  have hB : Base H0 H3 := hB1.trans hB13
  have r5' := hB13.row r5
  clear hB3 hH1 r5 hB2
  have hJ : jgE q sample seen = if fst0 [cfE [q], E2, E3] = 0 then (if q.x * (if 1 > sample then 1 else sample) < seen * q.y then 18 else 0) else fst0 [cfE [q], E2, E3] := by
    unfold jgE fst0 fst0 fst0 fst0
    by_cases c1 : cfE [q] = 0
    · rw [if_pos c1, if_pos c1]
      by_cases c2 : 0 ≤ sample ∧ sample ≤ 512
      · rw [if_pos c2] at hE2
        by_cases c3 : 0 ≤ seen ∧ seen ≤ sample
        · rw [if_pos c3] at hE3
          rw [if_pos ⟨c2, c3⟩, hE2, hE3]; simp
        · rw [if_neg c3] at hE3
          rw [if_neg (fun h => c3 h.2), hE2, hE3]; simp
      · rw [if_neg c2] at hE2
        rw [if_neg (fun h => c2 h.1), hE2]; simp
    · rw [if_neg c1, if_neg c1, if_neg c1]
  by_cases he : fst0 [cfE [q], E2, E3] = 0
  · rw [if_pos he] at hJ
    rw [he]
    have c1 : cfE [q] = 0 := by
      unfold fst0 at he; split at he
      · assumption
      · exact he
    have c2 : E2 = 0 := by
      unfold fst0 fst0 at he; rw [if_pos c1] at he; split at he
      · assumption
      · exact he
    have c3 : E3 = 0 := by
      unfold fst0 fst0 fst0 fst0 at he; rw [if_pos c1, if_pos c2] at he; split at he
      · assumption
      · exact he
    have d2 : 0 ≤ sample ∧ sample ≤ 512 := by rw [hE2] at c2; split at c2; assumption; omega
    have d3 : 0 ≤ seen ∧ seen ≤ sample := by rw [hE3] at c3; split at c3; assumption; omega
    simp -implicitDefEqProofs (disch := omega) only [sN, ↓reduceIte, Nat.reduceEqDiff, Nat.reduceAdd, Nat.reduceMul, Nat.reduceSub, reduceCtorEq, e_none, e_some, e_bindS, e0, e1, e2]
    rw [p_minmax (k := .i64) (k' := .i64) (a := sample) (b := 1) (by simp only [e_upd, e_putS, e_putN, e_t, e_c, Nat.reduceEqDiff, ↓reduceIte, reduceCtorEq, Nat.reduceAdd]) (by simp only [e_upd, e_putS, e_putN, e_t, e_c, Nat.reduceEqDiff, ↓reduceIte, reduceCtorEq, Nat.reduceAdd])]
    rw [if_pos rfl]
    obtain ⟨M, hM⟩ : ∃ m : Int, m = if (1 : Int) > sample then 1 else sample := ⟨_, rfl⟩
    have hM1 : 1 ≤ M ∧ M ≤ 512 := by rw [hM]; split <;> omega
    rw [← hM] at hJ ⊢
    simp -implicitDefEqProofs (disch := omega) only [sN, ↓reduceIte, Nat.reduceEqDiff, Nat.reduceAdd, Nat.reduceMul, Nat.reduceSub, reduceCtorEq, e_none, e_some, e_bindS, e0, e1, e2]
    rw [x_loadNA (n := 2) (r := H0.length) (l := [q.w, q.w2]) (by simp only [e_upd, e_putS, e_putN, e_t, e_c, Nat.reduceEqDiff, ↓reduceIte, reduceCtorEq, Nat.reduceAdd]) r5' rfl rfl]
    simp -implicitDefEqProofs (disch := omega) only [sN, ↓reduceIte, Nat.reduceEqDiff, Nat.reduceAdd, Nat.reduceMul, Nat.reduceSub, reduceCtorEq, e_none, e_some, e_bindS, e0, e1, e2, List.map_cons, List.map_nil]
    refine call_do0 (frac_calls (a := seen) (b := M) (by omega) (by omega) (by omega) (by omega)) [] rfl rfl rfl rfl rfl trivial ?_
    rintro v0 H0' ⟨rfl, row, rfl⟩
    rw [m_merge, m_nil, n_agg, n_lcons, n_lcons, n_lnil, n_mkS0 (r' := H3.length + 1) (by simp [sig]), n_mkS0 (r' := H3.length + 2) (by simp [sig])]
    obtain ⟨H4, hH4⟩ : ∃ h, h = H3 ++ List.map (renRow (sig [] H3.length)) (List.drop ([] : AHeap).length [some row, rw_ (ints .u32 (two seen)), rw_ (ints .u32 (two M))]) := ⟨_, rfl⟩
    have hB34 : Base H3 H4 := by rw [hH4]; exact Base.one
    have ra : Vh.rowAt H4 (H3.length + 1) = some ⟨true, false, ints .u32 (two seen)⟩ := by
      rw [hH4]; simp [Vh.rowAt, rw_, renRow, ints_ren]
    have rb : Vh.rowAt H4 (H3.length + 2) = some ⟨true, false, ints .u32 (two M)⟩ := by
      rw [hH4]; simp [Vh.rowAt, rw_, renRow, ints_ren]
    rw [← hH4]
    clear hH4
    have hp : (fr2 H3.length (.cap 2) (.cap 2) seen M).ok H4 := by
      have t1 := tz_le (two seen) 2
      have t2 := tz_le (two M) 2
      refine ⟨atX_two (by omega) (by omega) (okS_cap t1) ra (ints_take ..), atX_two (by omega) (by omega) (okS_cap t2) rb (ints_take ..), ?_, ?_⟩
      · show tz (two seen) 2 ≤ 9223372036854775807; omega
      · show tz (two M) 2 ≤ 9223372036854775807; omega
    have hq4 : q.ok H4 := hq.base (hB.trans hB34)
    have hce : cfE [fr2 H3.length (.cap 2) (.cap 2) seen M, q] = 0 := cfE_fr2 c1 (tz_le _ _) (tz_le _ _) (by show M ≠ 0; omega)
    have hfc : fcC (fr2 H3.length (.cap 2) (.cap 2) seen M) q = cmpI (seen * q.y) (q.x * M) := by unfold fcC; rw [if_pos hce]; rfl
    simp -implicitDefEqProofs (disch := omega) only [sN, ↓reduceIte, Nat.reduceEqDiff, Nat.reduceAdd, Nat.reduceMul, Nat.reduceSub, reduceCtorEq, e_none, e_some, e_bindS, e0, e1, e2, List.map_cons, List.map_nil]
    refine ⟨_, (xFracCompare_calls H4 hp hq4).g.mono ?_⟩
    rintro v H5 ⟨rfl, hB45⟩
    have hB5 : Base H0 H5 := (hB.trans hB34).trans hB45
    rw [hce, hfc]
    obtain ⟨c, hc⟩ : ∃ c, c = cmpI (seen * q.y) (q.x * M) := ⟨_, rfl⟩
    have hpos : 0 < c ↔ q.x * M < seen * q.y := by rw [hc]; exact cmp_pos
    rw [← hc, hJ]
    by_cases hcc : 0 < c
    · rw [if_pos (hpos.1 hcc)]
      simp -implicitDefEqProofs (disch := omega) only [sN, ↓reduceIte, Nat.reduceEqDiff, Nat.reduceAdd, Nat.reduceMul, Nat.reduceSub, reduceCtorEq, e_none, e_some, e_bindS, e0, e1, e2, List.getElem?_cons_zero, List.getElem?_cons_succ, gt_tt hcc]
      refine ret_keep hB5.1 ?_
      rw [q_tmp, q_then]
      refine ⟨?_, hB5⟩
      simp only [e_upd, e_putS, e_putN, e_t, e_c, Nat.reduceEqDiff, ↓reduceIte, reduceCtorEq, Nat.reduceAdd]
    · rw [if_neg (fun h => hcc (hpos.2 h))]
      simp -implicitDefEqProofs (disch := omega) only [sN, ↓reduceIte, Nat.reduceEqDiff, Nat.reduceAdd, Nat.reduceMul, Nat.reduceSub, reduceCtorEq, e_none, e_some, e_bindS, e0, e1, e2, List.getElem?_cons_zero, List.getElem?_cons_succ, gt_ff hcc]
      refine ret_keep hB5.1 ?_
      rw [q_tmp, q_then]
      refine ⟨?_, hB5⟩
      simp only [e_upd, e_putS, e_putN, e_t, e_c, Nat.reduceEqDiff, ↓reduceIte, reduceCtorEq, Nat.reduceAdd]
  · rw [if_neg he] at hJ
    rw [← hJ] at he ⊢
    simp -implicitDefEqProofs (disch := omega) only [sN, ↓reduceIte, Nat.reduceEqDiff, Nat.reduceAdd, Nat.reduceMul, Nat.reduceSub, reduceCtorEq, e_none, e_some, e_bindS, e0, e1, e2, p_neZ he]
    refine ret_keep hB.1 ?_
    rw [q_tmp, q_then]
    refine ⟨?_, hB⟩
    simp only [e_upd, e_putS, e_putN, e_t, e_c, Nat.reduceEqDiff, ↓reduceIte, reduceCtorEq, Nat.reduceAdd]
end
end Go.Proofs.Ythbhljolpnbdlaa.S1


/- Contracts of stage 4: the reference's Judge. -/
-- NEWSET
namespace Go.Proofs.Ythbhljolpnbdlaa.S1
open Go Go.Vh

theorem okS_up {k : Nat} : okS (upK k) k := by
  unfold upK
  split
  · rename_i h; exact h
  · exact okS_u
theorem ren_take {σ : Sig} {cells : List AV} {n : Nat} {l : List Int} (h : cells.take n = ints .u32 l) : (renL σ cells).take n = ints .u32 l := by
  have : ∀ (cs : List AV) (n : Nat), (renL σ cs).take n = renL σ (cs.take n) := by
    intro cs
    induction cs with
    | nil => intro n; simp [renL]
    | cons c cs ih => intro n; cases n with
      | zero => rfl
      | succ n => simp [renL, ih n]
  rw [this, h, ints_ren]

section
variable {H0 : AHeap} {q : Fr} {sample seen : Int}
set_option maxHeartbeats 2000000 in
theorem rJudge_calls (hq : q.ok H0) : ACalls Try.prog 43 [.int .i64 sample, .int .i64 seen, .agg [q.w, q.w2]] H0 (List.range H0.length) fun v H => v = .int .i64 (jgE q sample seen) ∧ Base H0 H := by
  refine ACalls.body Try.func43 ent_rJudge ir_rJudge_ok rs_rJudge_ok Try.ntmps43 (by simp) rfl ?_
  unfold ir_rJudge
  have e0 : s0 [.int .i64 sample, .int .i64 seen, .agg [q.w, q.w2]] 0 = .int .i64 sample := rfl
  have e1 : s0 [.int .i64 sample, .int .i64 seen, .agg [q.w, q.w2]] 1 = .int .i64 seen := rfl
  have e2 : s0 [.int .i64 sample, .int .i64 seen, .agg [q.w, q.w2]] 2 = .agg [q.w, q.w2] := rfl
  rw [show rs_rJudge = [.tmp 6] from rfl]
  simp -implicitDefEqProofs (disch := omega) only [sN, ↓reduceIte, Nat.reduceEqDiff, Nat.reduceAdd, Nat.reduceMul, Nat.reduceSub, reduceCtorEq, e_none, e_some, e_bindS, e0, e1, e2]
  rw [x_boxN (l := [q.w, q.w2]) (by simp only [e_upd, e_putS, e_putN, e_t, e_c, Nat.reduceEqDiff, ↓reduceIte, reduceCtorEq, Nat.reduceAdd, e2]) (by simp [hq.1.cell, hq.2.1.cell])]
  obtain ⟨H1, hH1⟩ : ∃ h, h = H0 ++ [rw_ [q.w, q.w2]] := ⟨_, rfl⟩
  have hB1 : Base H0 H1 := by rw [hH1]; exact Base.one
  have r5 : Vh.rowAt H1 H0.length = some ⟨true, false, [q.w, q.w2]⟩ := by rw [hH1]; simp [Vh.rowAt, rw_]
  rw [← hH1]
  simp -implicitDefEqProofs (disch := omega) only [sN, ↓reduceIte, Nat.reduceEqDiff, Nat.reduceAdd, Nat.reduceMul, Nat.reduceSub, reduceCtorEq, e_none, e_some, e_bindS, e0, e1, e2]
  rw [x_loadNA (n := 2) (r := H0.length) (l := [q.w, q.w2]) (by simp only [e_upd, e_putS, e_putN, e_t, e_c, Nat.reduceEqDiff, ↓reduceIte, reduceCtorEq, Nat.reduceAdd]) r5 rfl rfl]
  simp -implicitDefEqProofs (disch := omega) only [sN, ↓reduceIte, Nat.reduceEqDiff, Nat.reduceAdd, Nat.reduceMul, Nat.reduceSub, reduceCtorEq, e_none, e_some, e_bindS, e0, e1, e2, List.map_cons, List.map_nil]
  refine ⟨_, (rCheckFrac_calls H1 (hq.base hB1)).g.mono ?_⟩
  rintro v H3 ⟨rfl, hB13⟩
  have hB : Base H0 H3 := hB1.trans hB13
  have r5' := hB13.row r5
  clear hH1 r5
  by_cases c1 : cfE [q] = 0
  case neg =>
    have hJ : jgE q sample seen = cfE [q] := by unfold jgE; rw [if_neg c1]
    simp -implicitDefEqProofs (disch := omega) only [sN, ↓reduceIte, Nat.reduceEqDiff, Nat.reduceAdd, Nat.reduceMul, Nat.reduceSub, reduceCtorEq, e_none, e_some, e_bindS, e0, e1, e2, p_neZ c1]
    rw [x_loadNA (n := 2) (r := H0.length) (l := [q.w, q.w2]) (by simp only [e_upd, e_putS, e_putN, e_t, e_c, Nat.reduceEqDiff, ↓reduceIte, reduceCtorEq, Nat.reduceAdd]) r5' rfl rfl]
    simp -implicitDefEqProofs (disch := omega) only [sN, ↓reduceIte, Nat.reduceEqDiff, Nat.reduceAdd, Nat.reduceMul, Nat.reduceSub, reduceCtorEq, e_none, e_some, e_bindS, e0, e1, e2, List.map_cons, List.map_nil]
    refine ⟨_, (rCheckFrac_calls H3 (hq.base hB)).g.mono ?_⟩
    rintro v H4 ⟨rfl, hB4⟩
    simp -implicitDefEqProofs (disch := omega) only [sN, ↓reduceIte, Nat.reduceEqDiff, Nat.reduceAdd, Nat.reduceMul, Nat.reduceSub, reduceCtorEq, e_none, e_some, e_bindS]
    refine ret_keep (hB.trans hB4).1 ?_
    rw [q_tmp, q_then]
    refine ⟨?_, hB.trans hB4⟩
    simp only [e_upd, e_putS, e_putN, e_t, e_c, Nat.reduceEqDiff, ↓reduceIte, reduceCtorEq, Nat.reduceAdd, hJ]
  rw [c1]
  simp -implicitDefEqProofs (disch := omega) only [sN, ↓reduceIte, Nat.reduceEqDiff, Nat.reduceAdd, Nat.reduceMul, Nat.reduceSub, reduceCtorEq, e_none, e_some, e_bindS, e0, e1, e2, List.map_cons, List.map_nil]
  refine ⟨_, (rWithin_calls H3 sample 512).g.mono ?_⟩
  rintro v Hx ⟨rfl, hHx⟩
  rw [hHx]
  clear hHx Hx
  by_cases d2 : 0 ≤ sample ∧ sample ≤ 512
  case neg =>
    have hJ : jgE q sample seen = 3 := by unfold jgE; rw [if_pos c1, if_neg (fun h => d2 h.1)]
    rw [decide_eq_false d2]
    simp -implicitDefEqProofs (disch := omega) only [sN, ↓reduceIte, Nat.reduceEqDiff, Nat.reduceAdd, Nat.reduceMul, Nat.reduceSub, reduceCtorEq, e_none, e_some, e_bindS, e0, e1, e2]
    refine ret_keep hB.1 ?_
    rw [q_tmp, q_then]
    refine ⟨?_, hB⟩
    simp only [e_upd, e_putS, e_putN, e_t, e_c, Nat.reduceEqDiff, ↓reduceIte, reduceCtorEq, Nat.reduceAdd, hJ]
  rw [decide_eq_true d2]
  simp -implicitDefEqProofs (disch := omega) only [sN, ↓reduceIte, Nat.reduceEqDiff, Nat.reduceAdd, Nat.reduceMul, Nat.reduceSub, reduceCtorEq, e_none, e_some, e_bindS, e0, e1, e2, List.map_cons, List.map_nil]
  refine ⟨_, (rWithin_calls H3 seen sample).g.mono ?_⟩
  rintro v Hx ⟨rfl, hHx⟩
  rw [hHx]
  clear hHx Hx
  by_cases d3 : 0 ≤ seen ∧ seen ≤ sample
  case neg =>
    have hJ : jgE q sample seen = 3 := by unfold jgE; rw [if_pos c1, if_neg (fun h => d3 h.2)]
    rw [decide_eq_false d3]
    simp -implicitDefEqProofs (disch := omega) only [sN, ↓reduceIte, Nat.reduceEqDiff, Nat.reduceAdd, Nat.reduceMul, Nat.reduceSub, reduceCtorEq, e_none, e_some, e_bindS, e0, e1, e2]
    refine ret_keep hB.1 ?_
    rw [q_tmp, q_then]
    refine ⟨?_, hB⟩
    simp only [e_upd, e_putS, e_putN, e_t, e_c, Nat.reduceEqDiff, ↓reduceIte, reduceCtorEq, Nat.reduceAdd, hJ]
  rw [decide_eq_true d3]
  have hJ : jgE q sample seen = if q.x * (if 1 > sample then 1 else sample) < seen * q.y then 18 else 0 := by unfold jgE; rw [if_pos c1, if_pos ⟨d2, d3⟩]
  have x0 : 0 ≤ q.x := by
    obtain ⟨κ, l, row, r, _, _, _, _, h5, h6, _⟩ := hq.1
    rw [← h6]; exact num_nonneg h5
  by_cases hz : sample = 0
  · have hJ0 : jgE q sample seen = 0 := by
      rw [hJ, if_neg]
      rw [if_pos (by omega), show seen = 0 by omega]
      omega
    rw [hz] at e0 ⊢
    rw [hz] at hJ0
    simp -implicitDefEqProofs (disch := omega) only [sN, ↓reduceIte, Nat.reduceEqDiff, Nat.reduceAdd, Nat.reduceMul, Nat.reduceSub, reduceCtorEq, e_none, e_some, e_bindS, e0, e1, e2]
    refine ret_keep hB.1 ?_
    rw [q_tmp, q_then]
    refine ⟨?_, hB⟩
    simp only [e_upd, e_putS, e_putN, e_t, e_c, Nat.reduceEqDiff, ↓reduceIte, reduceCtorEq, Nat.reduceAdd, hJ0]
  have hzz : abin .eql (.int .i64 sample) (.int .i64 0) = some (.bool false) := by simp [abin, aint, hz]
  have ws : IntKind.u64.wrap seen = seen := by rw [IntKind.wrap_u64]; omega
  have wn : IntKind.u64.wrap sample = sample := by rw [IntKind.wrap_u64]; omega
  rw [if_neg (show ¬ (1 : Int) > sample by omega)] at hJ
  simp -implicitDefEqProofs (disch := omega) only [sN, ↓reduceIte, Nat.reduceEqDiff, Nat.reduceAdd, Nat.reduceMul, Nat.reduceSub, reduceCtorEq, e_none, e_some, e_bindS, e0, e1, e2, hzz, ws, wn]
  rw [x_loadNA (n := 2) (r := H0.length) (l := [q.w, q.w2]) (by simp only [e_upd, e_putS, e_putN, e_t, e_c, Nat.reduceEqDiff, ↓reduceIte, reduceCtorEq, Nat.reduceAdd]) r5' rfl rfl]
  simp -implicitDefEqProofs (disch := omega) only [sN, ↓reduceIte, Nat.reduceEqDiff, Nat.reduceAdd, Nat.reduceMul, Nat.reduceSub, reduceCtorEq, e_none, e_some, e_bindS, e0, e1, e2, List.map_cons, List.map_nil]
  refine call_do0 (rof_calls seen (by omega) (by omega)) [] rfl rfl rfl rfl rfl trivial ?_
  rintro v0 H0' ⟨rfl, row, rfl, ho, hc⟩
  rw [m_merge, m_nil, n_mkS0 (r' := H3.length) (by simp [sig])]
  obtain ⟨H4, hH4⟩ : ∃ h, h = H3 ++ List.map (renRow (sig [] H3.length)) (List.drop ([] : AHeap).length [some row]) := ⟨_, rfl⟩
  have hB34 : Base H3 H4 := by rw [hH4]; exact Base.one
  have ra : ∃ ra, Vh.rowAt H4 H3.length = some ra ∧ ra.cells.take (tz (two seen) 2) = ints .u32 ((two seen).take (tz (two seen) 2)) := by
    rw [hH4]; exact ⟨⟨row.own, row.slack, renL (sig [] H3.length) row.cells⟩, by simp [Vh.rowAt, renRow, ho], ren_take hc⟩
  have hl4 : H4.length = H3.length + 1 := by rw [hH4]; simp
  rw [← hH4]
  clear hH4 hc ho
  simp -implicitDefEqProofs (disch := omega) only [sN, ↓reduceIte, Nat.reduceEqDiff, Nat.reduceAdd, Nat.reduceMul, Nat.reduceSub, reduceCtorEq, e_none, e_some, e_bindS, e0, e1, e2, List.map_cons, List.map_nil]
  refine call_do0 (rof_calls sample (by omega) (by omega)) [] rfl rfl rfl rfl rfl trivial ?_
  rintro v0 H0' ⟨rfl, row2, rfl, ho, hc⟩
  rw [m_merge, m_nil, n_mkS0 (r' := H4.length) (by simp [sig])]
  obtain ⟨H5, hH5⟩ : ∃ h, h = H4 ++ List.map (renRow (sig [] H4.length)) (List.drop ([] : AHeap).length [some row2]) := ⟨_, rfl⟩
  have hB45 : Base H4 H5 := by rw [hH5]; exact Base.one
  have rb : ∃ rb, Vh.rowAt H5 H4.length = some rb ∧ rb.cells.take (tz (two sample) 2) = ints .u32 ((two sample).take (tz (two sample) 2)) := by
    rw [hH5]; exact ⟨⟨row2.own, row2.slack, renL (sig [] H4.length) row2.cells⟩, by simp [Vh.rowAt, renRow, ho], ren_take hc⟩
  rw [← hH5]
  clear hH5 hc ho
  obtain ⟨ra, ra1, ra2⟩ := ra
  obtain ⟨rb, rb1, rb2⟩ := rb
  obtain ⟨p, hpp⟩ : ∃ p : Fr, p = ⟨mkS (upK (tz (two seen) 2)) H3.length 0 (tz (two seen) 2), mkS (upK (tz (two sample) 2)) H4.length 0 (tz (two sample) 2), seen, sample, tz (two seen) 2, tz (two sample) 2⟩ := ⟨_, rfl⟩
  have t1 := tz_le (two seen) 2
  have t2 := tz_le (two sample) 2
  have pn : p.n = tz (two seen) 2 := by rw [hpp]
  have pm : p.m = tz (two sample) 2 := by rw [hpp]
  have px : p.x = seen := by rw [hpp]
  have py : p.y = sample := by rw [hpp]
  have pw : p.w = mkS (upK (tz (two seen) 2)) H3.length 0 (tz (two seen) 2) := by rw [hpp]
  have pw2 : p.w2 = mkS (upK (tz (two sample) 2)) H4.length 0 (tz (two sample) 2) := by rw [hpp]
  have hp : p.ok H5 := by
    refine ⟨?_, ?_, by omega, by omega⟩
    · rw [pw, px, pn]; exact atX_two (by omega) (by omega) okS_up (hB45.row ra1) ra2
    · rw [pw2, py, pm]; exact atX_two (by omega) (by omega) okS_up rb1 rb2
  have hB35 := hB34.trans hB45
  have hq5 : q.ok H5 := hq.base (hB.trans hB35)
  have hce : cfE [p, q] = 0 := cfE_fr2 c1 (by omega) (by omega) (by omega)
  have hfc : fcC p q = cmpI (seen * q.y) (q.x * sample) := by unfold fcC; rw [if_pos hce, px, py]
  simp -implicitDefEqProofs (disch := omega) only [sN, ↓reduceIte, Nat.reduceEqDiff, Nat.reduceAdd, Nat.reduceMul, Nat.reduceSub, reduceCtorEq, e_none, e_some, e_bindS, e0, e1, e2]
  rw [p_build2a (v1 := p.w) (v2 := p.w2) (by simp only [e_upd, e_putS, e_putN, e_t, e_c, Nat.reduceEqDiff, ↓reduceIte, reduceCtorEq, Nat.reduceAdd]; exact pw.symm) (by simp only [e_upd, e_putS, e_putN, e_t, e_c, Nat.reduceEqDiff, ↓reduceIte, reduceCtorEq, Nat.reduceAdd]; exact pw2.symm) (by rw [pw]; exact mkS_cell) (by rw [pw2]; exact mkS_cell)]
  simp -implicitDefEqProofs (disch := omega) only [sN, ↓reduceIte, Nat.reduceEqDiff, Nat.reduceAdd, Nat.reduceMul, Nat.reduceSub, reduceCtorEq, e_none, e_some, e_bindS, e0, e1, e2, List.map_cons, List.map_nil]
  refine ⟨_, (rFracCompare_calls H5 hp hq5).g.mono ?_⟩
  rintro v H6 ⟨rfl, hB56⟩
  have hB6 : Base H0 H6 := (hB.trans hB35).trans hB56
  rw [hce, hfc]
  obtain ⟨c, hc⟩ : ∃ c, c = cmpI (seen * q.y) (q.x * sample) := ⟨_, rfl⟩
  have hpos : 0 < c ↔ q.x * sample < seen * q.y := by rw [hc]; exact cmp_pos
  rw [← hc, hJ]
  by_cases hcc : 0 < c
  · rw [if_pos (hpos.1 hcc)]
    simp -implicitDefEqProofs (disch := omega) only [sN, ↓reduceIte, Nat.reduceEqDiff, Nat.reduceAdd, Nat.reduceMul, Nat.reduceSub, reduceCtorEq, e_none, e_some, e_bindS, e0, e1, e2, List.getElem?_cons_zero, List.getElem?_cons_succ, gt_tt hcc]
    refine ret_keep hB6.1 ?_
    rw [q_tmp, q_then]
    refine ⟨?_, hB6⟩
    simp only [e_upd, e_putS, e_putN, e_t, e_c, Nat.reduceEqDiff, ↓reduceIte, reduceCtorEq, Nat.reduceAdd]
  · rw [if_neg (fun h => hcc (hpos.2 h))]
    simp -implicitDefEqProofs (disch := omega) only [sN, ↓reduceIte, Nat.reduceEqDiff, Nat.reduceAdd, Nat.reduceMul, Nat.reduceSub, reduceCtorEq, e_none, e_some, e_bindS, e0, e1, e2, List.getElem?_cons_zero, List.getElem?_cons_succ, gt_ff hcc]
    refine ret_keep hB6.1 ?_
    rw [q_tmp, q_then]
    refine ⟨?_, hB6⟩
    simp only [e_upd, e_putS, e_putN, e_t, e_c, Nat.reduceEqDiff, ↓reduceIte, reduceCtorEq, Nat.reduceAdd]
end
end Go.Proofs.Ythbhljolpnbdlaa.S1


/- SiftRates: the law's contract. -/
-- NEWSET
namespace Go.Proofs.Ythbhljolpnbdlaa.S1
open Go Go.Vh

section
variable {K : St → AHeap → Prop} {d : Option Nat} {s : St} {H : AHeap} {q : Fr} {sample seen : Int}
/-- Judge, called where the order is drawn -/
theorem call_judge0 (hq : q.ok H) (hK : ∀ H', Base H H' → K (putI d s (.int .i64 (jgE q sample seen))) H') : thenC0 Try.prog K d s H [.int .i64 sample, .int .i64 seen, .agg [q.w, q.w2]] (.func 42 []) := by
  obtain ⟨w, w2, x, y, n, m⟩ := q
  obtain ⟨⟨κ, l, row, a, h1, h2, h3, h4, h5, h6, h7⟩, ⟨κ', l', row', b, k1, k2, k3, k4, k5, k6, k7⟩, h8, h9⟩ := hq
  simp only at h2 k2 h6 k6 h7 k7 h8 h9
  subst h2; subst k2
  have hc := judge_calls (H0 := [ro (ints .u32 l), ro (ints .u32 l')]) (q := ⟨mkS κ 0 0 l.length, mkS κ' 1 0 l'.length, x, y, n, m⟩) (sample := sample) (seen := seen)
    ⟨⟨κ, l, ⟨false, false, ints .u32 l⟩, 0, h1, rfl, rfl, by rw [ints_take, List.take_length], h5, h6, h7⟩, ⟨κ', l', ⟨false, false, ints .u32 l'⟩, 1, k1, rfl, rfl, by rw [ints_take, List.take_length], k5, k6, k7⟩, h8, h9⟩
  refine call_do0 hc [(a, 0), (b, 0)] rfl ?_ (allRo_once rfl _) (allRo_img rfl _) ?_ ⟨seen_limbs h3 h4, seen_limbs k3 k4, trivial⟩ fun v0 H0' hq => ?_
  · simp [underL, mkS_under, AV.under]
  · rw [n_lcons, n_lcons, n_lcons, n_lnil, n_int, n_int, n_agg, n_lcons, n_lcons, n_lnil, n_mkS0 (r' := a) rfl, n_mkS0 (r' := b) rfl, List.append_nil]
  · obtain ⟨rfl, _⟩ := hq
    rw [m_merge, m_ro, m_ro, m_nil]
    exact hK _ Base.one
theorem call_tru {f : FuncId} {W : List Nat} (h : ACalls Try.prog f [] [] W fun v _ => v = .bool true) (hK : ∀ H', K (putI d s (.bool true)) (H ++ H')) : thenC Try.prog K d s H [] (.func f []) := by
  refine call_do h [] rfl rfl rfl rfl trivial ?_
  rintro v0 H0' rfl
  rw [n_bool, m_merge, m_nil]
  exact hK _
theorem p_eq5 {s : St} {x y : Opd} {l : List Int} (hl : l.length = 5) (h1 : evo s x = .agg (ints .i64 l)) (h2 : evo s y = .agg (ints .i64 l)) : ipure (.eqAgg false [(0, 0), (1, 0), (2, 0), (3, 0), (4, 0)] x y) s = some (.bool true) := by
  obtain ⟨a, b, c, d, e, rfl⟩ : ∃ a b c d e, l = [a, b, c, d, e] := by
    match l, hl with
    | [a, b, c, d, e], _ => exact ⟨a, b, c, d, e, rfl⟩
  simp [ipure, h1, h2, aggEq, cellEq, ints]
theorem rtL_length {q : Fr} {t a b : Int} : (rtL q t a b).length = 5 := by unfold rtL; split <;> rfl
theorem p_eqII {a : Int} : abin .eql (.int .i64 a) (.int .i64 a) = some (.bool true) := by simp [abin, aint]

set_option maxHeartbeats 4000000 in
theorem lawRat_calls {Ww : List Nat} (hw : ACalls Try.prog 11 [] [] Ww fun v _ => v = .bool true) (N S B : Int) (κ0 κ1 κ2 κ3 : SK) (l0 l1 l2 l3 : List Int)
    (k0 : okS κ0 l0.length) (k1 : okS κ1 l1.length) (k2 : okS κ2 l2.length) (k3 : okS κ3 l3.length) (m0 : l0.length ≤ maxLen) (m1 : l1.length ≤ maxLen) (m2 : l2.length ≤ maxLen) (m3 : l3.length ≤ maxLen)
    (b0 : Limbs l0) (b1 : Limbs l1) (b2 : Limbs l2) (b3 : Limbs l3)
    (g0 : -9223372036854775808 ≤ N ∧ N ≤ 9223372036854775807) (g1 : -9223372036854775808 ≤ S ∧ S ≤ 9223372036854775807) (g2 : -9223372036854775808 ≤ B ∧ B ≤ 9223372036854775807) :
    ACalls Try.prog 10 [.agg [.int .i64 N, .int .i64 S, .int .i64 B], .agg [mkS κ0 0 0 l0.length, mkS κ1 1 0 l1.length], .agg [mkS κ2 2 0 l2.length, mkS κ3 3 0 l3.length]]
      [ro (ints .u32 l0), ro (ints .u32 l1), ro (ints .u32 l2), ro (ints .u32 l3)] (List.range 4) fun v _ => v = .bool true := by
  refine ACalls.body Try.func10 ent_lawRat ir_lawRat_ok rs_lawRat_ok Try.ntmps10 (by simp) rfl ?_
  unfold ir_lawRat
  obtain ⟨H0, hH0⟩ : ∃ h : AHeap, h = [ro (ints .u32 l0), ro (ints .u32 l1), ro (ints .u32 l2), ro (ints .u32 l3)] := ⟨_, rfl⟩
  have x0 : AtX H0 (mkS κ0 0 0 l0.length) (num l0) l0.length := ⟨κ0, l0, ⟨false, false, ints .u32 l0⟩, 0, k0, rfl, by rw [hH0]; rfl, by rw [ints_take, List.take_length], b0, rfl, rfl⟩
  have x1 : AtX H0 (mkS κ1 1 0 l1.length) (num l1) l1.length := ⟨κ1, l1, ⟨false, false, ints .u32 l1⟩, 1, k1, rfl, by rw [hH0]; rfl, by rw [ints_take, List.take_length], b1, rfl, rfl⟩
  have x2 : AtX H0 (mkS κ2 2 0 l2.length) (num l2) l2.length := ⟨κ2, l2, ⟨false, false, ints .u32 l2⟩, 2, k2, rfl, by rw [hH0]; rfl, by rw [ints_take, List.take_length], b2, rfl, rfl⟩
  have x3 : AtX H0 (mkS κ3 3 0 l3.length) (num l3) l3.length := ⟨κ3, l3, ⟨false, false, ints .u32 l3⟩, 3, k3, rfl, by rw [hH0]; rfl, by rw [ints_take, List.take_length], b3, rfl, rfl⟩
  have hlen : 4 ≤ H0.length := by rw [hH0]; simp
  rw [← hH0]
  have n0 := k_len (r := 0) (off := 0) k0 (Nat.le_refl _)
  have n1 := k_len (r := 1) (off := 0) k1 (Nat.le_refl _)
  have n2 := k_len (r := 2) (off := 0) k2 (Nat.le_refl _)
  have n3 := k_len (r := 3) (off := 0) k3 (Nat.le_refl _)
  clear hH0 k0 k1 k2 k3 b0 b1 b2 b3
  obtain ⟨w0, hw0⟩ : ∃ w, w = mkS κ0 0 0 l0.length := ⟨_, rfl⟩
  obtain ⟨w1, hw1⟩ : ∃ w, w = mkS κ1 1 0 l1.length := ⟨_, rfl⟩
  obtain ⟨w2, hw2⟩ : ∃ w, w = mkS κ2 2 0 l2.length := ⟨_, rfl⟩
  obtain ⟨w3, hw3⟩ : ∃ w, w = mkS κ3 3 0 l3.length := ⟨_, rfl⟩
  rw [← hw0] at x0 n0 ⊢
  rw [← hw1] at x1 n1 ⊢
  rw [← hw2] at x2 n2 ⊢
  rw [← hw3] at x3 n3 ⊢
  generalize l0.length = c0 at *
  generalize l1.length = c1 at *
  generalize l2.length = c2 at *
  generalize l3.length = c3 at *
  generalize num l0 = X0 at *
  generalize num l1 = X1 at *
  generalize num l2 = X2 at *
  generalize num l3 = X3 at *
  have e0 : s0 [.agg [.int .i64 N, .int .i64 S, .int .i64 B], .agg [w0, w1], .agg [w2, w3]] 0 = .agg [.int .i64 N, .int .i64 S, .int .i64 B] := rfl
  have e1 : s0 [.agg [.int .i64 N, .int .i64 S, .int .i64 B], .agg [w0, w1], .agg [w2, w3]] 1 = .agg [w0, w1] := rfl
  have e2 : s0 [.agg [.int .i64 N, .int .i64 S, .int .i64 B], .agg [w0, w1], .agg [w2, w3]] 2 = .agg [w2, w3] := rfl
  rw [show rs_lawRat = [.tmp 6] from rfl]
  simp -implicitDefEqProofs (disch := omega) only [sN, ↓reduceIte, Nat.reduceEqDiff, Nat.reduceAdd, Nat.reduceMul, Nat.reduceSub, reduceCtorEq, e_none, e_some, e_bindS, e0, e1, e2]
  rw [x_boxN (l := [.int .i64 N, .int .i64 S, .int .i64 B]) (by simp only [e_upd, e_putS, e_putN, e_t, e_c, Nat.reduceEqDiff, ↓reduceIte, reduceCtorEq, Nat.reduceAdd, e0]) rfl]
  simp -implicitDefEqProofs (disch := omega) only [sN, ↓reduceIte, Nat.reduceEqDiff, Nat.reduceAdd, Nat.reduceMul, Nat.reduceSub, reduceCtorEq, e_none, e_some, e_bindS, e0, e1, e2]
  rw [x_boxN (l := [w0, w1]) (by simp only [e_upd, e_putS, e_putN, e_t, e_c, Nat.reduceEqDiff, ↓reduceIte, reduceCtorEq, Nat.reduceAdd, e1]) (by simp [x0.cell, x1.cell])]
  simp -implicitDefEqProofs (disch := omega) only [sN, ↓reduceIte, Nat.reduceEqDiff, Nat.reduceAdd, Nat.reduceMul, Nat.reduceSub, reduceCtorEq, e_none, e_some, e_bindS, e0, e1, e2]
  rw [x_boxN (l := [w2, w3]) (by simp only [e_upd, e_putS, e_putN, e_t, e_c, Nat.reduceEqDiff, ↓reduceIte, reduceCtorEq, Nat.reduceAdd, e2]) (by simp [x2.cell, x3.cell])]
  obtain ⟨a4, ha4⟩ : ∃ a, a = (H0 ++ [rw_ [.int .i64 N, .int .i64 S, .int .i64 B]]).length := ⟨_, rfl⟩
  obtain ⟨a5, ha5⟩ : ∃ a, a = (H0 ++ [rw_ [.int .i64 N, .int .i64 S, .int .i64 B]] ++ [rw_ [w0, w1]]).length := ⟨_, rfl⟩
  obtain ⟨H1, hH1⟩ : ∃ h, h = H0 ++ [rw_ [.int .i64 N, .int .i64 S, .int .i64 B]] ++ [rw_ [w0, w1]] ++ [rw_ [w2, w3]] := ⟨_, rfl⟩
  have hB1 : Base H0 H1 := by rw [hH1]; exact Base.one.app.app
  have r3 : Vh.rowAt H1 H0.length = some ⟨true, false, [.int .i64 N, .int .i64 S, .int .i64 B]⟩ := by rw [hH1, rowAt_append_left (by simp), rowAt_append_left (by simp)]; simp [Vh.rowAt, rw_]
  have r4 : Vh.rowAt H1 a4 = some ⟨true, false, [w0, w1]⟩ := by rw [hH1, ha4, rowAt_append_left (by simp)]; simp [Vh.rowAt, rw_]
  have r5 : Vh.rowAt H1 a5 = some ⟨true, false, [w2, w3]⟩ := by rw [hH1, ha5]; simp [Vh.rowAt, rw_]
  rw [← ha4, ← ha5, ← hH1]
  have hL1 : 4 ≤ H1.length := Nat.le_trans hlen hB1.1
  clear hH1 ha4 ha5
  simp -implicitDefEqProofs (disch := omega) only [sN, ↓reduceIte, Nat.reduceEqDiff, Nat.reduceAdd, Nat.reduceMul, Nat.reduceSub, reduceCtorEq, e_none, e_some, e_bindS, p_fieldAddr, Nat.zero_add, r3, r4, r5, Option.bind_some, Option.map_some, List.getElem?_cons_zero, List.getElem?_cons_succ, List.map_cons, List.map_nil]
  refine ⟨_, (few_calls H1 N).g.mono ?_⟩
  rintro v Hx ⟨rfl, hHx⟩
  rw [hHx]
  clear hHx Hx
  by_cases hf : N ≤ 60 ∨ 512 < N
  case neg =>
    rw [decide_eq_false hf]
    simp -implicitDefEqProofs (disch := omega) only [sN, ↓reduceIte, Nat.reduceEqDiff, Nat.reduceAdd, Nat.reduceMul, Nat.reduceSub, reduceCtorEq, e_none, e_some, e_bindS, List.map_nil]
    refine call_tru hw fun H' => ?_
    simp -implicitDefEqProofs (disch := omega) only [sN, ↓reduceIte, Nat.reduceEqDiff, Nat.reduceAdd, Nat.reduceMul, Nat.reduceSub, reduceCtorEq, e_none, e_some, e_bindS]
    refine ret_keep (by rw [List.length_append]; omega) ?_
    simp only [q_tmp, q_then, e_upd, e_putS, e_putN, e_t, e_c, Nat.reduceEqDiff, ↓reduceIte, reduceCtorEq, Nat.reduceAdd]
  rw [decide_eq_true hf]
  unfold maxLen at m0 m1 m2 m3
  simp -implicitDefEqProofs (disch := omega) only [sN, ↓reduceIte, Nat.reduceEqDiff, Nat.reduceAdd, Nat.reduceMul, Nat.reduceSub, reduceCtorEq, e_none, e_some, e_bindS, p_fieldAddr, Nat.zero_add, r3, r4, r5, Option.bind_some, Option.map_some, List.getElem?_cons_zero, List.getElem?_cons_succ, List.map_cons, List.map_nil, n0, n1, n2, n3]
  have hq : (Fr.mk w0 w1 X0 X1 c0 c1).ok H1 := ⟨x0.base hB1, x1.base hB1, by show c0 ≤ 9223372036854775807; omega, by show c1 ≤ 9223372036854775807; omega⟩
  have hp : (Fr.mk w2 w3 X2 X3 c2 c3).ok H1 := ⟨x2.base hB1, x3.base hB1, by show c2 ≤ 9223372036854775807; omega, by show c3 ≤ 9223372036854775807; omega⟩
  generalize decide (300 < IntKind.i64.wrap (IntKind.i64.wrap (IntKind.i64.wrap ((c0 : Int) + c1) + c2) + c3)) = big
  cases big
  case true =>
    simp -implicitDefEqProofs (disch := omega) only [sN, ↓reduceIte, Nat.reduceEqDiff, Nat.reduceAdd, Nat.reduceMul, Nat.reduceSub, reduceCtorEq, e_none, e_some, e_bindS, List.map_nil]
    refine call_tru hw fun H' => ?_
    simp -implicitDefEqProofs (disch := omega) only [sN, ↓reduceIte, Nat.reduceEqDiff, Nat.reduceAdd, Nat.reduceMul, Nat.reduceSub, reduceCtorEq, e_none, e_some, e_bindS]
    refine ret_keep (by rw [List.length_append]; omega) ?_
    simp only [q_tmp, q_then, e_upd, e_putS, e_putN, e_t, e_c, Nat.reduceEqDiff, ↓reduceIte, reduceCtorEq, Nat.reduceAdd]
  simp -implicitDefEqProofs (disch := omega) only [sN, ↓reduceIte, Nat.reduceEqDiff, Nat.reduceAdd, Nat.reduceMul, Nat.reduceSub, reduceCtorEq, e_none, e_some, e_bindS, p_fieldAddr, Nat.zero_add, r3, Option.bind_some, Option.map_some, List.getElem?_cons_zero, List.getElem?_cons_succ]
  rw [x_loadNA (n := 2) (r := a4) (l := [w0, w1]) (by simp only [e_upd, e_putS, e_putN, e_t, e_c, Nat.reduceEqDiff, ↓reduceIte, reduceCtorEq, Nat.reduceAdd]) r4 rfl rfl]
  simp -implicitDefEqProofs (disch := omega) only [sN, ↓reduceIte, Nat.reduceEqDiff, Nat.reduceAdd, Nat.reduceMul, Nat.reduceSub, reduceCtorEq, e_none, e_some, e_bindS, List.map_cons, List.map_nil]
  refine ⟨_, (rate_calls hq g0 g1 g2).g.mono ?_⟩
  rintro v H2 ⟨rfl, hB2⟩
  simp -implicitDefEqProofs (disch := omega) only [sN, ↓reduceIte, Nat.reduceEqDiff, Nat.reduceAdd, Nat.reduceMul, Nat.reduceSub, reduceCtorEq, e_none, e_some, e_bindS, List.getElem?_cons_zero, List.getElem?_cons_succ]
  rw [x_allocA rfl]
  have hB12 : Base H0 H2 := hB1.trans hB2
  obtain ⟨E, hE⟩ : ∃ e, e = bdE (Fr.mk w0 w1 X0 X1 c0 c1) N S B := ⟨_, rfl⟩
  obtain ⟨L, hL⟩ : ∃ l, l = rtL (Fr.mk w0 w1 X0 X1 c0 c1) N S B := ⟨_, rfl⟩
  have hL5 : L.length = 5 := by rw [hL]; exact rtL_length
  have hLi : (ints .i64 L).length = 5 := by rw [ints_length, hL5]
  rw [← hE, ← hL]
  simp -implicitDefEqProofs (disch := omega) only [sN, ↓reduceIte, Nat.reduceEqDiff, Nat.reduceAdd, Nat.reduceMul, Nat.reduceSub, reduceCtorEq, e_none, e_some, e_bindS]
  rw [x_storeNA (n := 5) (r := H2.length) (l := [.int .i64 0, .int .i64 0, .int .i64 0, .int .i64 0, .int .i64 0]) (l' := ints .i64 L) (by simp only [e_upd, e_putS, e_putN, e_t, e_c, Nat.reduceEqDiff, ↓reduceIte, reduceCtorEq, Nat.reduceAdd]) (by simp only [e_upd, e_putS, e_putN, e_t, e_c, Nat.reduceEqDiff, ↓reduceIte, reduceCtorEq, Nat.reduceAdd]) ints_all (by simp [Vh.rowAt, rw_]) hLi rfl]
  rw [show (H2 ++ [rw_ [AV.int .i64 0, .int .i64 0, .int .i64 0, .int .i64 0, .int .i64 0]]).set H2.length (rw_ (ints .i64 L)) = H2 ++ [rw_ (ints .i64 L)] by simp]
  obtain ⟨H3, hH3⟩ : ∃ h, h = H2 ++ [rw_ (ints .i64 L)] := ⟨_, rfl⟩
  have hB23 : Base H2 H3 := by rw [hH3]; exact Base.one
  have r7 : Vh.rowAt H3 H2.length = some ⟨true, false, ints .i64 L⟩ := by rw [hH3]; simp [Vh.rowAt, rw_]
  rw [← hH3]
  obtain ⟨a7, ha7⟩ : ∃ a, a = H2.length := ⟨_, rfl⟩
  rw [← ha7] at r7 ⊢
  clear hH3
  have hB13 := hB2.trans hB23
  have q3 := hB13.row r3
  have q4 := hB13.row r4
  simp -implicitDefEqProofs (disch := omega) only [sN, ↓reduceIte, Nat.reduceEqDiff, Nat.reduceAdd, Nat.reduceMul, Nat.reduceSub, reduceCtorEq, e_none, e_some, e_bindS, p_fieldAddr, Nat.zero_add, q3, Option.bind_some, Option.map_some, List.getElem?_cons_zero, List.getElem?_cons_succ]
  rw [x_loadNA (n := 2) (r := a4) (l := [w0, w1]) (by simp only [e_upd, e_putS, e_putN, e_t, e_c, Nat.reduceEqDiff, ↓reduceIte, reduceCtorEq, Nat.reduceAdd]) q4 rfl rfl]
  simp -implicitDefEqProofs (disch := omega) only [sN, ↓reduceIte, Nat.reduceEqDiff, Nat.reduceAdd, Nat.reduceMul, Nat.reduceSub, reduceCtorEq, e_none, e_some, e_bindS, List.map_cons, List.map_nil]
  refine ⟨_, (rRate_calls (hq.base hB13) g0 g1 g2).g.mono ?_⟩
  rintro v H4 ⟨rfl, hB34⟩
  rw [← hE, ← hL]
  simp -implicitDefEqProofs (disch := omega) only [sN, ↓reduceIte, Nat.reduceEqDiff, Nat.reduceAdd, Nat.reduceMul, Nat.reduceSub, reduceCtorEq, e_none, e_some, e_bindS, List.getElem?_cons_zero, List.getElem?_cons_succ]
  rw [x_allocA rfl]
  simp -implicitDefEqProofs (disch := omega) only [sN, ↓reduceIte, Nat.reduceEqDiff, Nat.reduceAdd, Nat.reduceMul, Nat.reduceSub, reduceCtorEq, e_none, e_some, e_bindS]
  rw [x_storeNA (n := 5) (r := H4.length) (l := [.int .i64 0, .int .i64 0, .int .i64 0, .int .i64 0, .int .i64 0]) (l' := ints .i64 L) (by simp only [e_upd, e_putS, e_putN, e_t, e_c, Nat.reduceEqDiff, ↓reduceIte, reduceCtorEq, Nat.reduceAdd]) (by simp only [e_upd, e_putS, e_putN, e_t, e_c, Nat.reduceEqDiff, ↓reduceIte, reduceCtorEq, Nat.reduceAdd]) ints_all (by simp [Vh.rowAt, rw_]) hLi rfl]
  rw [show (H4 ++ [rw_ [AV.int .i64 0, .int .i64 0, .int .i64 0, .int .i64 0, .int .i64 0]]).set H4.length (rw_ (ints .i64 L)) = H4 ++ [rw_ (ints .i64 L)] by simp]
  obtain ⟨H5, hH5⟩ : ∃ h, h = H4 ++ [rw_ (ints .i64 L)] := ⟨_, rfl⟩
  have hB45 : Base H4 H5 := by rw [hH5]; exact Base.one
  have r9 : Vh.rowAt H5 H4.length = some ⟨true, false, ints .i64 L⟩ := by rw [hH5]; simp [Vh.rowAt, rw_]
  rw [← hH5]
  obtain ⟨a9, ha9⟩ : ∃ a, a = H4.length := ⟨_, rfl⟩
  rw [← ha9] at r9 ⊢
  clear hH5
  have hB35 := hB34.trans hB45
  have hB15 := hB13.trans hB35
  have p3 := hB15.row r3
  have p5 := hB15.row r5
  have r7' := hB35.row r7
  have hL5' : 4 ≤ H5.length := Nat.le_trans hL1 hB15.1
  have hp5 := hp.base hB15
  clear hp hq hB15 hB35 hB45 hB34 hB13 hB23 hB12 hB2 hB1 r3 r4 r5 q3 q4 r7 hE
  simp -implicitDefEqProofs (disch := omega) only [sN, ↓reduceIte, Nat.reduceEqDiff, Nat.reduceAdd, Nat.reduceMul, Nat.reduceSub, reduceCtorEq, e_none, e_some, e_bindS]
  rw [x_loadNA (n := 5) (r := a7) (l := ints .i64 L) (by simp only [e_upd, e_putS, e_putN, e_t, e_c, Nat.reduceEqDiff, ↓reduceIte, reduceCtorEq, Nat.reduceAdd]) r7' rfl hLi]
  simp -implicitDefEqProofs (disch := omega) only [sN, ↓reduceIte, Nat.reduceEqDiff, Nat.reduceAdd, Nat.reduceMul, Nat.reduceSub, reduceCtorEq, e_none, e_some, e_bindS]
  rw [x_loadNA (n := 5) (r := a9) (l := ints .i64 L) (by simp only [e_upd, e_putS, e_putN, e_t, e_c, Nat.reduceEqDiff, ↓reduceIte, reduceCtorEq, Nat.reduceAdd]) r9 rfl hLi]
  simp -implicitDefEqProofs (disch := omega) only [sN, ↓reduceIte, Nat.reduceEqDiff, Nat.reduceAdd, Nat.reduceMul, Nat.reduceSub, reduceCtorEq, e_none, e_some, e_bindS]
  rw [p_eq5 (l := L) hL5 (by simp only [e_upd, e_putS, e_putN, e_t, e_c, Nat.reduceEqDiff, ↓reduceIte, reduceCtorEq, Nat.reduceAdd]) (by simp only [e_upd, e_putS, e_putN, e_t, e_c, Nat.reduceEqDiff, ↓reduceIte, reduceCtorEq, Nat.reduceAdd])]
  simp -implicitDefEqProofs (disch := omega) only [sN, ↓reduceIte, Nat.reduceEqDiff, Nat.reduceAdd, Nat.reduceMul, Nat.reduceSub, reduceCtorEq, e_none, e_some, e_bindS, p_eqII, p_fieldAddr, Nat.zero_add, p3, Option.bind_some, Option.map_some, List.getElem?_cons_zero, List.getElem?_cons_succ]
  rw [x_loadNA (n := 2) (r := a5) (l := [w2, w3]) (by simp only [e_upd, e_putS, e_putN, e_t, e_c, Nat.reduceEqDiff, ↓reduceIte, reduceCtorEq, Nat.reduceAdd]) p5 rfl rfl]
  simp -implicitDefEqProofs (disch := omega) only [sN, ↓reduceIte, Nat.reduceEqDiff, Nat.reduceAdd, Nat.reduceMul, Nat.reduceSub, reduceCtorEq, e_none, e_some, e_bindS, p_eqII, p_fieldAddr, Nat.zero_add, p3, Option.bind_some, Option.map_some, List.getElem?_cons_zero, List.getElem?_cons_succ]
  rw [x_loadNA (n := 2) (r := a5) (l := [w2, w3]) (by simp only [e_upd, e_putS, e_putN, e_t, e_c, Nat.reduceEqDiff, ↓reduceIte, reduceCtorEq, Nat.reduceAdd]) p5 rfl rfl]
  simp -implicitDefEqProofs (disch := omega) only [sN, ↓reduceIte, Nat.reduceEqDiff, Nat.reduceAdd, Nat.reduceMul, Nat.reduceSub, reduceCtorEq, e_none, e_some, e_bindS, List.map_cons, List.map_nil]
  refine call_judge0 hp5 fun H6 hB6 => ?_
  simp -implicitDefEqProofs (disch := omega) only [sN, ↓reduceIte, Nat.reduceEqDiff, Nat.reduceAdd, Nat.reduceMul, Nat.reduceSub, reduceCtorEq, e_none, e_some, e_bindS, List.map_cons, List.map_nil]
  refine ⟨_, (rJudge_calls (hp5.base hB6)).g.mono ?_⟩
  rintro v H7 ⟨rfl, hB7⟩
  have hL7 : 4 ≤ H7.length := Nat.le_trans hL5' (Nat.le_trans hB6.1 hB7.1)
  simp -implicitDefEqProofs (disch := omega) only [sN, ↓reduceIte, Nat.reduceEqDiff, Nat.reduceAdd, Nat.reduceMul, Nat.reduceSub, reduceCtorEq, e_none, e_some, e_bindS, p_eqII, List.map_nil]
  refine call_tru hw fun H' => ?_
  simp -implicitDefEqProofs (disch := omega) only [sN, ↓reduceIte, Nat.reduceEqDiff, Nat.reduceAdd, Nat.reduceMul, Nat.reduceSub, reduceCtorEq, e_none, e_some, e_bindS]
  refine ret_keep (by rw [List.length_append]; omega) ?_
  simp only [q_tmp, q_then, e_upd, e_putS, e_putN, e_t, e_c, Nat.reduceEqDiff, ↓reduceIte, reduceCtorEq, Nat.reduceAdd]
end
end Go.Proofs.Ythbhljolpnbdlaa.S1

