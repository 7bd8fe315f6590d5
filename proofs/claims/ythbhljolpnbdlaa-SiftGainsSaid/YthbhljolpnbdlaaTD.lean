/- Contracts of stage 4: announcements are checked. -/
import Derived.Test.YthbhljolpnbdlaaVX
import Derived.Test.YthbhljolpnbdlaaTC
set_option linter.unusedSimpArgs false
set_option linter.unusedVariables false
-- NEWSET
namespace Go.Proofs.Ythbhljolpnbdlaa
open Go Go.Vh

theorem x_boxF {s : St} {H : AHeap} {x : Opd} {v : AV} (hx : evo s x = v) (hc : v.cell = true) : ieff (.box x) s H = some (.ptr H.length 0, H ++ [rw_ [v]]) := by
  simp [ieff, hx, aparts_cell hc, anew, hc, rw_]

theorem between_calls (H0 : AHeap) (a b : Int) : ACalls Try.prog 58 [.int .i64 a, .int .i64 b] H0 (List.range H0.length) fun v H => v = .func 93 [.ptr H0.length 0, .ptr (H0.length + 1) 0] ∧ H = H0 ++ [rw_ [.int .i64 a]] ++ [rw_ [.int .i64 b]] := by
  refine ACalls.body Try.func58 ent_between ir_between_ok rs_between_ok Try.ntmps58 (by simp) rfl ?_
  unfold ir_between
  have e0 : s0 [.int .i64 a, .int .i64 b] 0 = .int .i64 a := rfl
  have e1 : s0 [.int .i64 a, .int .i64 b] 1 = .int .i64 b := rfl
  simp (disch := omega) only [sN, ↓reduceIte, Nat.reduceEqDiff, Nat.reduceAdd, Nat.reduceMul, Nat.reduceSub, reduceCtorEq, e_none, e_some, e_bindS, e0, e1]
  rw [x_boxF (v := .int .i64 a) (by simp only [e_upd, e_putS, e_putN, e_t, e_c, Nat.reduceEqDiff, ↓reduceIte, reduceCtorEq, Nat.reduceAdd, e0]) rfl]
  simp (disch := omega) only [sN, ↓reduceIte, Nat.reduceEqDiff, Nat.reduceAdd, Nat.reduceMul, Nat.reduceSub, reduceCtorEq, e_none, e_some, e_bindS, e0, e1]
  rw [x_boxF (v := .int .i64 b) (by simp only [e_upd, e_putS, e_putN, e_t, e_c, Nat.reduceEqDiff, ↓reduceIte, reduceCtorEq, Nat.reduceAdd, e1]) rfl]
  simp (disch := omega) only [sN, ↓reduceIte, Nat.reduceEqDiff, Nat.reduceAdd, Nat.reduceMul, Nat.reduceSub, reduceCtorEq, e_none, e_some, e_bindS, e0, e1, p_makeFunc]
  refine ret_keep (by simp) ⟨?_, rfl⟩
  simp only [e_upd, e_putS, e_putN, e_t, e_c, Nat.reduceEqDiff, ↓reduceIte, reduceCtorEq, Nat.reduceAdd, List.map_cons, List.map_nil, List.length_append, List.length_cons, List.length_nil]

theorem inRange_calls (H0 : AHeap) {a b x : Int} {p q : Nat} {rp rq : ARow} (hp : Vh.rowAt H0 p = some rp) (cp : rp.cells = [.int .i64 a]) (hq : Vh.rowAt H0 q = some rq) (cq : rq.cells = [.int .i64 b]) :
    ACalls Try.prog 93 [.int .i64 x, .ptr p 0, .ptr q 0] H0 (List.range H0.length) fun v H => v = .bool (decide (a ≤ x ∧ x < b)) ∧ H = H0 := by
  refine ACalls.body Try.func93 ent_inRange ir_inRange_ok rs_inRange_ok Try.ntmps93 (by simp) rfl ?_
  unfold ir_inRange
  have e0 : s0 [.int .i64 x, .ptr p 0, .ptr q 0] 0 = .int .i64 x := rfl
  have e1 : s0 [.int .i64 x, .ptr p 0, .ptr q 0] 1 = .ptr p 0 := rfl
  have e2 : s0 [.int .i64 x, .ptr p 0, .ptr q 0] 2 = .ptr q 0 := rfl
  by_cases h0 : a ≤ x
  · by_cases h1 : x < b
    · simp (disch := omega) only [sN, ↓reduceIte, Nat.reduceEqDiff, Nat.reduceAdd, Nat.reduceMul, Nat.reduceSub, reduceCtorEq, e_none, e_some, e_bindS, e0, e1, e2, hp, cp, hq, cq, Option.bind_some, List.getElem?_cons_zero]
      refine ret_keep (by simp) ⟨?_, rfl⟩
      simp only [e_upd, e_putS, e_putN, e_t, e_c, Nat.reduceEqDiff, ↓reduceIte, reduceCtorEq, Nat.reduceAdd]; try simp [h0, h1]
    · simp (disch := omega) only [sN, ↓reduceIte, Nat.reduceEqDiff, Nat.reduceAdd, Nat.reduceMul, Nat.reduceSub, reduceCtorEq, e_none, e_some, e_bindS, e0, e1, e2, hp, cp, hq, cq, Option.bind_some, List.getElem?_cons_zero]
      refine ret_keep (by simp) ⟨?_, rfl⟩
      simp only [e_upd, e_putS, e_putN, e_t, e_c, Nat.reduceEqDiff, ↓reduceIte, reduceCtorEq, Nat.reduceAdd]; try simp [h0, h1]
  · simp (disch := omega) only [sN, ↓reduceIte, Nat.reduceEqDiff, Nat.reduceAdd, Nat.reduceMul, Nat.reduceSub, reduceCtorEq, e_none, e_some, e_bindS, e0, e1, e2, hp, cp, hq, cq, Option.bind_some, List.getElem?_cons_zero]
    refine ret_keep (by simp) ⟨?_, rfl⟩
    simp only [e_upd, e_putS, e_putN, e_t, e_c, Nat.reduceEqDiff, ↓reduceIte, reduceCtorEq, Nat.reduceAdd]; try simp [h0]

/-- the error of an announcement alone -/
def hE (a b x y : Int) : Int := if a ≤ x ∧ x < b then (if y = 0 ∨ y = 1 then 0 else 2) else 3
end Go.Proofs.Ythbhljolpnbdlaa


/- Contracts of stage 4: the slots that agree. -/
-- NEWSET
namespace Go.Proofs.Ythbhljolpnbdlaa
open Go Go.Vh

/-- numbers that were appended one by one, in the row q above H0 -/
def G1 (H0 H : AHeap) (q : Nat) (v : AV) (n : Nat) : Prop := (n = 0 ∧ v = .nilslice) ∨ ∃ xs : List Int, 0 < n ∧ xs.length = n ∧ v = .sliceU q 0 n 1 ∧ H0.length ≤ q ∧ Vh.rowAt H q = some ⟨true, true, ints .i64 xs⟩
theorem G1.base {H0 H H' : AHeap} {q : Nat} {v : AV} {n : Nat} (h : G1 H0 H q v n) (hb : Base H H') : G1 H0 H' q v n := by
  rcases h with h | ⟨xs, h1, h2, h3, h4, h5⟩
  · exact .inl h
  · exact .inr ⟨xs, h1, h2, h3, h4, hb.row h5⟩
theorem G1.len {H0 H : AHeap} {q : Nat} {v : AV} {n : Nat} (h : G1 H0 H q v n) : alen v = some n := by
  rcases h with ⟨rfl, rfl⟩ | ⟨xs, h1, h2, rfl, h4, h5⟩
  · rfl
  · rfl
theorem x_appG1 {H0 H : AHeap} {q n r c : Nat} {v : AV} {a : Int} {row : ARow} (hv : G1 H0 H q v n) (hr : Vh.rowAt H r = some row) (hc : row.cells = ints .i64 [a]) (hn : n ≤ 100000) (hb : Base H0 H) :
    ∃ v' H', (∀ (s : St) (x y : Opd), evo s x = v → evo s y = .slice r 0 1 c → ieff (.append 1 8 x y) s H = some (v', H')) ∧ G1 H0 H' H.length v' (n + 1) ∧ Base H0 H' ∧
      (∀ r row, Vh.rowAt H r = some row → row.slack = false → Vh.rowAt H' r = some row) ∧ ∀ q2 v2 n2, q2 ≠ q → G1 H0 H q2 v2 n2 → ∃ q3, q3 ≠ H.length ∧ G1 H0 H' q3 v2 n2 := by
  rcases hv with ⟨rfl, rfl⟩ | ⟨xs, h1, h2, rfl, h4, h5⟩
  · refine ⟨.sliceU H.length 0 1 1, H ++ [sl (ints .i64 [a])], fun s x y hx hy => ?_, .inr ⟨[a], by omega, rfl, rfl, hb.1, by simp [Vh.rowAt, sl]⟩, hb.app, fun r row hr _ => Base.one.row hr, fun q2 v2 n2 hq h => ?_⟩
    · exact x_appN hx hy hr (by rw [hc]; rfl) (by rw [hc]; simp [ints]) (by omega) rfl
    · rcases h with h | ⟨ys, k1, k2, k3, k4, k5⟩
      · exact ⟨H.length + 1, by omega, .inl h⟩
      · exact ⟨q2, by have := rowAt_lt k5; omega, .inr ⟨ys, k1, k2, k3, k4, Base.one.row k5⟩⟩
  · have keep : ∀ r row, r ≠ q → Vh.rowAt H r = some row → Vh.rowAt (H.set q none ++ [sl (ints .i64 (xs ++ [a]))]) r = some row := fun r row hne hr => by
      rw [rowAt_append_left (by rw [List.length_set]; exact rowAt_lt hr), row_other0 (fun e => hne e.symm)]
      exact hr
    refine ⟨.sliceU H.length 0 (n + 1) 1, H.set q none ++ [sl (ints .i64 (xs ++ [a]))], fun s x y hx hy => ?_, .inr ⟨xs ++ [a], by omega, by simp [h2], rfl, hb.1, ?_⟩, (hb.set h4).app, fun r row hr hs => ?_, fun q2 v2 n2 hq h => ?_⟩
    · have := x_appU (bytes := 8) (xs := ints .i64 [a]) hx hy h5 (by rw [ints_length]; exact h2) hr (by rw [hc]; rfl) (by rw [hc]; simp [ints]) (by omega) rfl
      rw [this]
      simp [ints]
    · rw [row_new]; rfl
    · refine keep r row (fun e => ?_) hr
      subst e; rw [h5] at hr; cases hr; cases hs
    · rcases h with h | ⟨ys, k1, k2, k3, k4, k5⟩
      · exact ⟨H.length + 1, by omega, .inl h⟩
      · exact ⟨q2, by have := rowAt_lt k5; omega, .inr ⟨ys, k1, k2, k3, k4, keep q2 _ hq k5⟩⟩

theorem detector_calls (b : Bool) : ACalls Try.prog 89 [.bool b] [] (List.range 0) fun v H => v = .int .i64 (if b then 2 else 1) ∧ H = [] := by
  refine ACalls.body Try.func89 ent_detector ir_detector_ok rs_detector_ok Try.ntmps89 (by simp) rfl ?_
  unfold ir_detector
  have e0 : s0 [.bool b] 0 = .bool b := rfl
  cases b
  · simp (disch := omega) only [sN, ↓reduceIte, Nat.reduceEqDiff, Nat.reduceAdd, Nat.reduceMul, Nat.reduceSub, reduceCtorEq, e_none, e_some, e_bindS, e0]
    refine ret_keep (by simp) ⟨?_, rfl⟩
    simp only [e_upd, e_putS, e_putN, e_t, e_c, Nat.reduceEqDiff, ↓reduceIte, reduceCtorEq, Nat.reduceAdd]; try rfl
  · simp (disch := omega) only [sN, ↓reduceIte, Nat.reduceEqDiff, Nat.reduceAdd, Nat.reduceMul, Nat.reduceSub, reduceCtorEq, e_none, e_some, e_bindS, e0]
    refine ret_keep (by simp) ⟨?_, rfl⟩
    simp only [e_upd, e_putS, e_putN, e_t, e_c, Nat.reduceEqDiff, ↓reduceIte, reduceCtorEq, Nat.reduceAdd]; try rfl

def ag1 (p : Pul) (b k : Int) : Bool := p.seen && decide (p.ba = b) && decide (k = 1 ∨ k = 2)
theorem agree1_calls (H0 : AHeap) (p : Pul) (b k : Int) : ACalls Try.prog 88 [.agg (pcell p), .agg [.int .i64 b, .int .i64 k]] H0 (List.range H0.length) fun v H => v = .bool (ag1 p b k) ∧ Base H0 H := by
  refine ACalls.body Try.func88 ent_agree1 ir_agree1_ok rs_agree1_ok Try.ntmps88 (by simp) rfl ?_
  unfold ir_agree1
  have e0 : s0 [.agg (pcell p), .agg [.int .i64 b, .int .i64 k]] 0 = .agg (pcell p) := rfl
  have e1 : s0 [.agg (pcell p), .agg [.int .i64 b, .int .i64 k]] 1 = .agg [.int .i64 b, .int .i64 k] := rfl
  simp (disch := omega) only [sN, ↓reduceIte, Nat.reduceEqDiff, Nat.reduceAdd, Nat.reduceMul, Nat.reduceSub, reduceCtorEq, e_none, e_some, e_bindS, e0, e1]
  rw [x_boxN (l := pcell p) (by simp only [e_upd, e_putS, e_putN, e_t, e_c, Nat.reduceEqDiff, ↓reduceIte, reduceCtorEq, Nat.reduceAdd, e0]) pcell_cell]
  simp (disch := omega) only [sN, ↓reduceIte, Nat.reduceEqDiff, Nat.reduceAdd, Nat.reduceMul, Nat.reduceSub, reduceCtorEq, e_none, e_some, e_bindS, e0, e1]
  rw [x_boxN (l := [.int .i64 b, .int .i64 k]) (by simp only [e_upd, e_putS, e_putN, e_t, e_c, Nat.reduceEqDiff, ↓reduceIte, reduceCtorEq, Nat.reduceAdd, e1]) (by rfl)]
  obtain ⟨ba, bit, c, ph, sn⟩ := p
  obtain ⟨H1, hH1⟩ : ∃ h, h = H0 ++ [rw_ (pcell ⟨ba, bit, c, ph, sn⟩)] ++ [rw_ [.int .i64 b, .int .i64 k]] := ⟨_, rfl⟩
  have r1 : Vh.rowAt H1 H0.length = some ⟨true, false, [.int .i64 ba, .bool bit, .int .i64 c, .int .i64 ph, .bool sn]⟩ := by rw [hH1, rowAt_append_left (by simp)]; simp [Vh.rowAt, rw_, pcell]
  have r2 : Vh.rowAt H1 (H0 ++ [rw_ (pcell ⟨ba, bit, c, ph, sn⟩)]).length = some ⟨true, false, [.int .i64 b, .int .i64 k]⟩ := by rw [hH1]; simp [Vh.rowAt, rw_]
  have hB : Base H0 H1 := by rw [hH1]; exact Base.one.app
  rw [← hH1]
  have fin : ∀ z : Bool, ag1 ⟨ba, bit, c, ph, sn⟩ b k = z → (AV.bool z = .bool (ag1 ⟨ba, bit, c, ph, sn⟩ b k) ∧ Base H0 H1) := fun z hz => ⟨by rw [hz], hB⟩
  cases sn
  · simp (disch := omega) only [sN, ↓reduceIte, Nat.reduceEqDiff, Nat.reduceAdd, Nat.reduceMul, Nat.reduceSub, reduceCtorEq, e_none, e_some, e_bindS, p_fieldAddr, Nat.zero_add, r1, r2, Option.bind_some, Option.map_some, List.getElem?_cons_zero, List.getElem?_cons_succ]
    refine ret_keep hB.1 ?_
    simp only [rs_agree1, q_tmp, q_then, e_upd, e_putS, e_putN, e_t, e_c, Nat.reduceEqDiff, ↓reduceIte, reduceCtorEq, Nat.reduceAdd]
    exact fin _ (by simp [ag1])
  · by_cases h1 : ba = b
    · by_cases h2 : k = 1
      · simp (disch := omega) only [sN, ↓reduceIte, Nat.reduceEqDiff, Nat.reduceAdd, Nat.reduceMul, Nat.reduceSub, reduceCtorEq, e_none, e_some, e_bindS, p_fieldAddr, Nat.zero_add, r1, r2, Option.bind_some, Option.map_some, List.getElem?_cons_zero, List.getElem?_cons_succ]
        refine ret_keep hB.1 ?_
        simp only [rs_agree1, q_tmp, q_then, e_upd, e_putS, e_putN, e_t, e_c, Nat.reduceEqDiff, ↓reduceIte, reduceCtorEq, Nat.reduceAdd]
        exact fin _ (by simp [ag1, h1, h2])
      · by_cases h3 : k = 2
        · simp (disch := omega) only [sN, ↓reduceIte, Nat.reduceEqDiff, Nat.reduceAdd, Nat.reduceMul, Nat.reduceSub, reduceCtorEq, e_none, e_some, e_bindS, p_fieldAddr, Nat.zero_add, r1, r2, Option.bind_some, Option.map_some, List.getElem?_cons_zero, List.getElem?_cons_succ]
          refine ret_keep hB.1 ?_
          simp only [rs_agree1, q_tmp, q_then, e_upd, e_putS, e_putN, e_t, e_c, Nat.reduceEqDiff, ↓reduceIte, reduceCtorEq, Nat.reduceAdd]
          exact fin _ (by simp [ag1, h1, h3])
        · simp (disch := omega) only [sN, ↓reduceIte, Nat.reduceEqDiff, Nat.reduceAdd, Nat.reduceMul, Nat.reduceSub, reduceCtorEq, e_none, e_some, e_bindS, p_fieldAddr, Nat.zero_add, r1, r2, Option.bind_some, Option.map_some, List.getElem?_cons_zero, List.getElem?_cons_succ]
          refine ret_keep hB.1 ?_
          simp only [rs_agree1, q_tmp, q_then, e_upd, e_putS, e_putN, e_t, e_c, Nat.reduceEqDiff, ↓reduceIte, reduceCtorEq, Nat.reduceAdd]
          exact fin _ (by simp [ag1, h1, h2, h3])
    · simp (disch := omega) only [sN, ↓reduceIte, Nat.reduceEqDiff, Nat.reduceAdd, Nat.reduceMul, Nat.reduceSub, reduceCtorEq, e_none, e_some, e_bindS, p_fieldAddr, Nat.zero_add, r1, r2, Option.bind_some, Option.map_some, List.getElem?_cons_zero, List.getElem?_cons_succ]
      refine ret_keep hB.1 ?_
      simp only [rs_agree1, q_tmp, q_then, e_upd, e_putS, e_putN, e_t, e_c, Nat.reduceEqDiff, ↓reduceIte, reduceCtorEq, Nat.reduceAdd]
      exact fin _ (by simp [ag1, h1])

/-- the i-th pulse agrees with its click -/
def agI (L : List Pul) (l : List Int) (m : Nat) (sh : Int) (i : Nat) : Bool := decide (0 ≤ i + sh ∧ i + sh < m) && ag1 (L.getD i default) (cb l (i + sh).toNat) (ck l (i + sh).toNat)
def wrI (L : List Pul) (l : List Int) (m : Nat) (sh : Int) (i : Nat) : Bool := agI L l m sh i && decide (ck l (i + sh).toNat ≠ if (L.getD i default).bit then 2 else 1)
def cntB (f : Nat → Bool) : Nat → Nat
  | 0 => 0
  | i + 1 => cntB f i + if f i then 1 else 0
theorem cntB_le {f : Nat → Bool} : ∀ n, cntB f n ≤ n
  | 0 => Nat.le_refl 0
  | n + 1 => by
    have := cntB_le (f := f) n
    simp only [cntB]
    split <;> omega
end Go.Proofs.Ythbhljolpnbdlaa

