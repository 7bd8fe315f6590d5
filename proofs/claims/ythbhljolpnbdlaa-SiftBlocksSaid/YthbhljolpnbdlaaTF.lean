/- Contracts of stage 4: lists of announcements are checked. -/
import Derived.Test.YthbhljolpnbdlaaVX
import Derived.Test.YthbhljolpnbdlaaTD
set_option linter.unusedSimpArgs false
set_option linter.unusedVariables false
-- NEWSET
namespace Go.Proofs.Ythbhljolpnbdlaa
open Go Go.Vh

section
variable {K : St → AHeap → Prop} {d : Option Nat} {s : St} {H : AHeap} {x y : Int}
end

end Go.Proofs.Ythbhljolpnbdlaa


/- Contracts of stage 4: the reference's checks of pulses and announcements; two lists of numbers compared. -/
-- NEWSET
namespace Go.Proofs.Ythbhljolpnbdlaa
open Go Go.Vh

/-- the numbers that were appended -/
def Gs (H0 H : AHeap) (v : AV) (xs : List Int) : Prop := (xs = [] ∧ v = .nilslice) ∨ ∃ q, 0 < xs.length ∧ v = .sliceU q 0 xs.length 1 ∧ H0.length ≤ q ∧ Vh.rowAt H q = some ⟨true, true, ints .i64 xs⟩
theorem Gs.base {H0 H H' : AHeap} {v : AV} {l : List Int} (h : Gs H0 H v l) (hb : Base H H') : Gs H0 H' v l := by
  rcases h with h | ⟨q, h1, h2, h3, h4⟩
  · exact .inl h
  · exact .inr ⟨q, h1, h2, h3, hb.row h4⟩
theorem x_appGs {H0 H : AHeap} {v : AV} {xs : List Int} {a : Int} {r c : Nat} {row : ARow} (hv : Gs H0 H v xs) (hr : Vh.rowAt H r = some row) (hc : row.cells = ints .i64 [a]) (hn : xs.length ≤ 100000) (hb : Base H0 H) :
    ∃ v' H', (∀ (s : St) (x y : Opd), evo s x = v → evo s y = .slice r 0 1 c → ieff (.append 1 8 x y) s H = some (v', H')) ∧ Gs H0 H' v' (xs ++ [a]) ∧ Base H0 H' ∧ ∀ r row, Vh.rowAt H r = some row → row.slack = false → Vh.rowAt H' r = some row := by
  rcases hv with ⟨rfl, rfl⟩ | ⟨q, h1, rfl, h4, h5⟩
  · refine ⟨.sliceU H.length 0 1 1, H ++ [sl (ints .i64 [a])], fun s x y hx hy => ?_, .inr ⟨H.length, by simp, rfl, hb.1, by simp [Vh.rowAt, sl]⟩, hb.app, fun r row hr _ => Base.one.row hr⟩
    exact x_appN hx hy hr (by rw [hc]; rfl) (by rw [hc]; simp [ints]) (by omega) rfl
  · refine ⟨.sliceU H.length 0 (xs.length + 1) 1, H.set q none ++ [sl (ints .i64 (xs ++ [a]))], fun s x y hx hy => ?_, .inr ⟨H.length, by simp, by simp, hb.1, ?_⟩, (hb.set h4).app, fun r row hr hs => ?_⟩
    · have := x_appU (bytes := 8) (xs := ints .i64 [a]) hx hy h5 (by rw [ints_length]) hr (by rw [hc]; rfl) (by rw [hc]; simp [ints]) (by omega) rfl
      rw [this]
      simp [ints]
    · rw [row_new]; rfl
    · rw [rowAt_append_left (by rw [List.length_set]; exact rowAt_lt hr), row_other0 (fun e => by subst e; rw [hr] at h5; cases h5; cases hs)]
      exact hr

set_option maxHeartbeats 1000000 in
theorem ints_calls (H0 : AHeap) {B1 B2 : AHeap} {v v' : AV} {l : List Int} (h1 : Gs B1 H0 v l) (h2 : Gs B2 H0 v' l) (hlen : l.length ≤ 100000) :
    ACalls Try.prog 23 [v, v'] H0 (List.range H0.length) fun w H => w = .bool true ∧ H = H0 := by
  refine ACalls.body Try.func23 ent_ints ir_ints_ok rs_ints_ok Try.ntmps23 (by simp) rfl ?_
  unfold ir_ints
  have e0 : s0 [v, v'] 0 = v := rfl
  have e1 : s0 [v, v'] 1 = v' := rfl
  rcases h1 with ⟨rfl, rfl⟩ | ⟨q, a1, rfl, a4, a5⟩
  · rcases h2 with ⟨_, rfl⟩ | ⟨q', b1, rfl, b4, b5⟩
    · simp (disch := omega) only [sN, ↓reduceIte, Nat.reduceEqDiff, Nat.reduceAdd, Nat.reduceMul, Nat.reduceSub, reduceCtorEq, e_none, e_some, e_bindS, e0, e1]
      refine ⟨fun t s H => H = H0 ∧ s 0 = .nilslice ∧ s 5 = .int .i64 0, 0, ⟨rfl, ?_, ?_⟩, ?_⟩
      · simp only [e_upd, e_putS, e_putN, e_t, e_c, Nat.reduceEqDiff, ↓reduceIte, reduceCtorEq, Nat.reduceAdd, e0]
      · simp only [e_upd, e_putS, e_putN, e_t, e_c, Nat.reduceEqDiff, ↓reduceIte, reduceCtorEq, Nat.reduceAdd]
      rintro t s H ⟨hH, h0, h5⟩
      rw [hH]
      simp (disch := omega) only [sN, ↓reduceIte, Nat.reduceEqDiff, Nat.reduceAdd, Nat.reduceMul, Nat.reduceSub, reduceCtorEq, e_none, e_some, e_bindS, h0, h5]
      refine ret_keep (by simp) ⟨?_, rfl⟩
      simp only [e_upd, e_putS, e_putN, e_t, e_c, Nat.reduceEqDiff, ↓reduceIte, reduceCtorEq, Nat.reduceAdd]
    · simp at b1
  · rcases h2 with ⟨rfl, _⟩ | ⟨q', b1, rfl, b4, b5⟩
    · simp at a1
    obtain ⟨n, hn⟩ : ∃ n, n = l.length := ⟨_, rfl⟩
    rw [← hn] at a1 hlen e0 e1 ⊢
    simp (disch := omega) only [sN, ↓reduceIte, Nat.reduceEqDiff, Nat.reduceAdd, Nat.reduceMul, Nat.reduceSub, reduceCtorEq, e_none, e_some, e_bindS, e0, e1]
    refine ⟨fun t s H => ∃ i : Nat, t = n - i ∧ i ≤ n ∧ H = H0 ∧ s 0 = .sliceU q 0 n 1 ∧ s 1 = .sliceU q' 0 n 1 ∧ s 5 = .int .i64 (i : Int), n, ⟨0, rfl, by omega, rfl, ?_, ?_, ?_⟩, ?_⟩
    · simp only [e_upd, e_putS, e_putN, e_t, e_c, Nat.reduceEqDiff, ↓reduceIte, reduceCtorEq, Nat.reduceAdd, e0]
    · simp only [e_upd, e_putS, e_putN, e_t, e_c, Nat.reduceEqDiff, ↓reduceIte, reduceCtorEq, Nat.reduceAdd, e1]
    · simp only [e_upd, e_putS, e_putN, e_t, e_c, Nat.reduceEqDiff, ↓reduceIte, reduceCtorEq, Nat.reduceAdd]; rfl
    rintro t s H ⟨i, rfl, hi, hH, h0, h1, h5⟩
    rw [hH]
    by_cases hlt : i < n
    · have hg : (ints .i64 l)[i]? = some (.int .i64 (l.getD i 0)) := ints_get (by omega)
      have ia : aindexAddr 1 (.sliceU q 0 n 1) (.int .i64 (i : Int)) = some (.ptr q i) := by
        rw [a_idxU (by omega) (by omega)]; simp
      have ib : aindexAddr 1 (.sliceU q' 0 n 1) (.int .i64 (i : Int)) = some (.ptr q' i) := by
        rw [a_idxU (by omega) (by omega)]; simp
      simp (disch := omega) only [sN, ↓reduceIte, Nat.reduceEqDiff, Nat.reduceAdd, Nat.reduceMul, Nat.reduceSub, reduceCtorEq, e_none, e_some, e_bindS, h0, h1, h5, ia, ib, a5, b5, hg, Option.bind_some]
      refine loop_keep (m := n - (i + 1)) (by omega) ⟨i + 1, rfl, by omega, rfl, ?_, ?_, ?_⟩
      · simp only [e_upd, e_putS, e_putN, e_t, e_c, Nat.reduceEqDiff, ↓reduceIte, reduceCtorEq, Nat.reduceAdd, h0]
      · simp only [e_upd, e_putS, e_putN, e_t, e_c, Nat.reduceEqDiff, ↓reduceIte, reduceCtorEq, Nat.reduceAdd, h1]
      · simp only [e_upd, e_putS, e_putN, e_t, e_c, Nat.reduceEqDiff, ↓reduceIte, reduceCtorEq, Nat.reduceAdd]; first | done | rfl
    · obtain rfl : i = n := by omega
      simp (disch := omega) only [sN, ↓reduceIte, Nat.reduceEqDiff, Nat.reduceAdd, Nat.reduceMul, Nat.reduceSub, reduceCtorEq, e_none, e_some, e_bindS, h0, h1, h5]
      refine ret_keep (by simp) ⟨?_, rfl⟩
      simp only [e_upd, e_putS, e_putN, e_t, e_c, Nat.reduceEqDiff, ↓reduceIte, reduceCtorEq, Nat.reduceAdd]
end Go.Proofs.Ythbhljolpnbdlaa

