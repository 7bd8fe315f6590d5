/- Contracts: the reference's Tail. -/
import Derived.Test.YtpkeneadkiabiaaDoorVX
import Derived.Test.YtpkeneadkiabiaaDoorEE
import Derived.Test.YtpkeneadkiabiaaDoorFH
set_option linter.unusedSimpArgs false
set_option linter.unusedVariables false
-- NEWSET
namespace Go.Proofs.YtpkeneadkiabiaaDoor
open Go Go.Vh

set_option maxHeartbeats 1000000 in
theorem rTail_calls (total bad sample seen : Int) (h0 : -9223372036854775808 ≤ total ∧ total ≤ 9223372036854775807) (h1 : -9223372036854775808 ≤ bad ∧ bad ≤ 9223372036854775807) (h2 : -9223372036854775808 ≤ sample ∧ sample ≤ 9223372036854775807) (h3 : -9223372036854775808 ≤ seen ∧ seen ≤ 9223372036854775807) :
    ACalls Tryd.prog 44 [.int .i64 total, .int .i64 bad, .int .i64 sample, .int .i64 seen] [] (List.range 0) (UpF (tlN total bad sample seen) (tlD total bad sample seen) (tlE total bad sample seen) []) := by
  refine ACalls.body Tryd.func44 ent_rTail ir_rTail_ok rs_rTail_ok Tryd.ntmps44 (by simp) rfl ?_
  unfold ir_rTail
  have e0 : s0 [.int .i64 total, .int .i64 bad, .int .i64 sample, .int .i64 seen] 0 = .int .i64 total := rfl
  have e1 : s0 [.int .i64 total, .int .i64 bad, .int .i64 sample, .int .i64 seen] 1 = .int .i64 bad := rfl
  have e2 : s0 [.int .i64 total, .int .i64 bad, .int .i64 sample, .int .i64 seen] 2 = .int .i64 sample := rfl
  have e3 : s0 [.int .i64 total, .int .i64 bad, .int .i64 sample, .int .i64 seen] 3 = .int .i64 seen := rfl
  have hz : [AV.nilslice, AV.nilslice].all AV.cell = true := rfl
  have hbad : ¬ tlOK total bad sample → tlE total bad sample seen = 3 ∧ tlN total bad sample seen = 0 ∧ tlD total bad sample seen = 0 := fun hok => by
    have hE : tlE total bad sample seen = 3 := by unfold tlE; rw [if_neg hok]
    exact ⟨hE, by unfold tlN; rw [hE]; rfl, by unfold tlD; rw [hE]; rfl⟩
  simp (disch := omega) only [sN, ↓reduceIte, Nat.reduceEqDiff, Nat.reduceAdd, Nat.reduceMul, Nat.reduceSub, reduceCtorEq, e_none, e_some, e_bindS, e0, e1, e2, e3]
  rw [x_allocA hz]
  by_cases c0 : 0 ≤ total
  case neg =>
    obtain ⟨hE, hNe, hDe⟩ := hbad (fun h => by obtain ⟨g0, g1, g2, g3, g4, g5⟩ := h; omega)
    rw [hE, hNe, hDe]
    simp (disch := omega) only [sN, ↓reduceIte, Nat.reduceEqDiff, Nat.reduceAdd, Nat.reduceMul, Nat.reduceSub, reduceCtorEq, e_none, e_some, e_bindS, e0, e1, e2, e3, p_build, afill, List.map_cons, List.map_nil, Option.map_some]
    rw [x_storeNA (n := 2) (r := 0) (l := [.nilslice, .nilslice]) (l' := [.nilslice, .nilslice]) (by simp only [e_upd, e_putS, e_putN, e_t, e_c, Nat.reduceEqDiff, ↓reduceIte, reduceCtorEq, Nat.reduceAdd]; rfl) (by simp only [e_upd, e_putS, e_putN, e_t, e_c, Nat.reduceEqDiff, ↓reduceIte, reduceCtorEq, Nat.reduceAdd]) rfl rfl rfl rfl]
    simp (disch := omega) only [sN, ↓reduceIte, Nat.reduceEqDiff, Nat.reduceAdd, Nat.reduceMul, Nat.reduceSub, reduceCtorEq, e_none, e_some, e_bindS]
    refine ret_keep (by simp) ?_
    rw [rs_rTail, ares_cell2 (r := 0) (row := ⟨true, false, [.nilslice, .nilslice]⟩) (l := [.nilslice, .nilslice]) (by simp only [e_upd, e_putS, e_putN, e_t, e_c, Nat.reduceEqDiff, ↓reduceIte, reduceCtorEq, Nat.reduceAdd]; rfl) rfl rfl rfl]
    refine ⟨_, .nilslice, .nilslice, rfl, ?_, .nil, .nil⟩
    simp only [e_upd, e_putS, e_putN, e_t, e_c, Nat.reduceEqDiff, ↓reduceIte, reduceCtorEq, Nat.reduceAdd]
  case pos =>
    by_cases c1 : total ≤ 512
    case neg =>
      obtain ⟨hE, hNe, hDe⟩ := hbad (fun h => by obtain ⟨g0, g1, g2, g3, g4, g5⟩ := h; omega)
      rw [hE, hNe, hDe]
      simp (disch := omega) only [sN, ↓reduceIte, Nat.reduceEqDiff, Nat.reduceAdd, Nat.reduceMul, Nat.reduceSub, reduceCtorEq, e_none, e_some, e_bindS, e0, e1, e2, e3, p_build, afill, List.map_cons, List.map_nil, Option.map_some]
      rw [x_storeNA (n := 2) (r := 0) (l := [.nilslice, .nilslice]) (l' := [.nilslice, .nilslice]) (by simp only [e_upd, e_putS, e_putN, e_t, e_c, Nat.reduceEqDiff, ↓reduceIte, reduceCtorEq, Nat.reduceAdd]; rfl) (by simp only [e_upd, e_putS, e_putN, e_t, e_c, Nat.reduceEqDiff, ↓reduceIte, reduceCtorEq, Nat.reduceAdd]) rfl rfl rfl rfl]
      simp (disch := omega) only [sN, ↓reduceIte, Nat.reduceEqDiff, Nat.reduceAdd, Nat.reduceMul, Nat.reduceSub, reduceCtorEq, e_none, e_some, e_bindS]
      refine ret_keep (by simp) ?_
      rw [rs_rTail, ares_cell2 (r := 0) (row := ⟨true, false, [.nilslice, .nilslice]⟩) (l := [.nilslice, .nilslice]) (by simp only [e_upd, e_putS, e_putN, e_t, e_c, Nat.reduceEqDiff, ↓reduceIte, reduceCtorEq, Nat.reduceAdd]; rfl) rfl rfl rfl]
      refine ⟨_, .nilslice, .nilslice, rfl, ?_, .nil, .nil⟩
      simp only [e_upd, e_putS, e_putN, e_t, e_c, Nat.reduceEqDiff, ↓reduceIte, reduceCtorEq, Nat.reduceAdd]
    case pos =>
      by_cases c2 : 0 ≤ bad
      case neg =>
        obtain ⟨hE, hNe, hDe⟩ := hbad (fun h => by obtain ⟨g0, g1, g2, g3, g4, g5⟩ := h; omega)
        rw [hE, hNe, hDe]
        simp (disch := omega) only [sN, ↓reduceIte, Nat.reduceEqDiff, Nat.reduceAdd, Nat.reduceMul, Nat.reduceSub, reduceCtorEq, e_none, e_some, e_bindS, e0, e1, e2, e3, p_build, afill, List.map_cons, List.map_nil, Option.map_some]
        rw [x_storeNA (n := 2) (r := 0) (l := [.nilslice, .nilslice]) (l' := [.nilslice, .nilslice]) (by simp only [e_upd, e_putS, e_putN, e_t, e_c, Nat.reduceEqDiff, ↓reduceIte, reduceCtorEq, Nat.reduceAdd]; rfl) (by simp only [e_upd, e_putS, e_putN, e_t, e_c, Nat.reduceEqDiff, ↓reduceIte, reduceCtorEq, Nat.reduceAdd]) rfl rfl rfl rfl]
        simp (disch := omega) only [sN, ↓reduceIte, Nat.reduceEqDiff, Nat.reduceAdd, Nat.reduceMul, Nat.reduceSub, reduceCtorEq, e_none, e_some, e_bindS]
        refine ret_keep (by simp) ?_
        rw [rs_rTail, ares_cell2 (r := 0) (row := ⟨true, false, [.nilslice, .nilslice]⟩) (l := [.nilslice, .nilslice]) (by simp only [e_upd, e_putS, e_putN, e_t, e_c, Nat.reduceEqDiff, ↓reduceIte, reduceCtorEq, Nat.reduceAdd]; rfl) rfl rfl rfl]
        refine ⟨_, .nilslice, .nilslice, rfl, ?_, .nil, .nil⟩
        simp only [e_upd, e_putS, e_putN, e_t, e_c, Nat.reduceEqDiff, ↓reduceIte, reduceCtorEq, Nat.reduceAdd]
      case pos =>
        by_cases c3 : bad ≤ total
        case neg =>
          obtain ⟨hE, hNe, hDe⟩ := hbad (fun h => by obtain ⟨g0, g1, g2, g3, g4, g5⟩ := h; omega)
          rw [hE, hNe, hDe]
          simp (disch := omega) only [sN, ↓reduceIte, Nat.reduceEqDiff, Nat.reduceAdd, Nat.reduceMul, Nat.reduceSub, reduceCtorEq, e_none, e_some, e_bindS, e0, e1, e2, e3, p_build, afill, List.map_cons, List.map_nil, Option.map_some]
          rw [x_storeNA (n := 2) (r := 0) (l := [.nilslice, .nilslice]) (l' := [.nilslice, .nilslice]) (by simp only [e_upd, e_putS, e_putN, e_t, e_c, Nat.reduceEqDiff, ↓reduceIte, reduceCtorEq, Nat.reduceAdd]; rfl) (by simp only [e_upd, e_putS, e_putN, e_t, e_c, Nat.reduceEqDiff, ↓reduceIte, reduceCtorEq, Nat.reduceAdd]) rfl rfl rfl rfl]
          simp (disch := omega) only [sN, ↓reduceIte, Nat.reduceEqDiff, Nat.reduceAdd, Nat.reduceMul, Nat.reduceSub, reduceCtorEq, e_none, e_some, e_bindS]
          refine ret_keep (by simp) ?_
          rw [rs_rTail, ares_cell2 (r := 0) (row := ⟨true, false, [.nilslice, .nilslice]⟩) (l := [.nilslice, .nilslice]) (by simp only [e_upd, e_putS, e_putN, e_t, e_c, Nat.reduceEqDiff, ↓reduceIte, reduceCtorEq, Nat.reduceAdd]; rfl) rfl rfl rfl]
          refine ⟨_, .nilslice, .nilslice, rfl, ?_, .nil, .nil⟩
          simp only [e_upd, e_putS, e_putN, e_t, e_c, Nat.reduceEqDiff, ↓reduceIte, reduceCtorEq, Nat.reduceAdd]
        case pos =>
          by_cases c4 : 0 ≤ sample
          case neg =>
            obtain ⟨hE, hNe, hDe⟩ := hbad (fun h => by obtain ⟨g0, g1, g2, g3, g4, g5⟩ := h; omega)
            rw [hE, hNe, hDe]
            simp (disch := omega) only [sN, ↓reduceIte, Nat.reduceEqDiff, Nat.reduceAdd, Nat.reduceMul, Nat.reduceSub, reduceCtorEq, e_none, e_some, e_bindS, e0, e1, e2, e3, p_build, afill, List.map_cons, List.map_nil, Option.map_some]
            rw [x_storeNA (n := 2) (r := 0) (l := [.nilslice, .nilslice]) (l' := [.nilslice, .nilslice]) (by simp only [e_upd, e_putS, e_putN, e_t, e_c, Nat.reduceEqDiff, ↓reduceIte, reduceCtorEq, Nat.reduceAdd]; rfl) (by simp only [e_upd, e_putS, e_putN, e_t, e_c, Nat.reduceEqDiff, ↓reduceIte, reduceCtorEq, Nat.reduceAdd]) rfl rfl rfl rfl]
            simp (disch := omega) only [sN, ↓reduceIte, Nat.reduceEqDiff, Nat.reduceAdd, Nat.reduceMul, Nat.reduceSub, reduceCtorEq, e_none, e_some, e_bindS]
            refine ret_keep (by simp) ?_
            rw [rs_rTail, ares_cell2 (r := 0) (row := ⟨true, false, [.nilslice, .nilslice]⟩) (l := [.nilslice, .nilslice]) (by simp only [e_upd, e_putS, e_putN, e_t, e_c, Nat.reduceEqDiff, ↓reduceIte, reduceCtorEq, Nat.reduceAdd]; rfl) rfl rfl rfl]
            refine ⟨_, .nilslice, .nilslice, rfl, ?_, .nil, .nil⟩
            simp only [e_upd, e_putS, e_putN, e_t, e_c, Nat.reduceEqDiff, ↓reduceIte, reduceCtorEq, Nat.reduceAdd]
          case pos =>
            by_cases c5 : sample ≤ total
            case neg =>
              obtain ⟨hE, hNe, hDe⟩ := hbad (fun h => by obtain ⟨g0, g1, g2, g3, g4, g5⟩ := h; omega)
              rw [hE, hNe, hDe]
              simp (disch := omega) only [sN, ↓reduceIte, Nat.reduceEqDiff, Nat.reduceAdd, Nat.reduceMul, Nat.reduceSub, reduceCtorEq, e_none, e_some, e_bindS, e0, e1, e2, e3, p_build, afill, List.map_cons, List.map_nil, Option.map_some]
              rw [x_storeNA (n := 2) (r := 0) (l := [.nilslice, .nilslice]) (l' := [.nilslice, .nilslice]) (by simp only [e_upd, e_putS, e_putN, e_t, e_c, Nat.reduceEqDiff, ↓reduceIte, reduceCtorEq, Nat.reduceAdd]; rfl) (by simp only [e_upd, e_putS, e_putN, e_t, e_c, Nat.reduceEqDiff, ↓reduceIte, reduceCtorEq, Nat.reduceAdd]) rfl rfl rfl rfl]
              simp (disch := omega) only [sN, ↓reduceIte, Nat.reduceEqDiff, Nat.reduceAdd, Nat.reduceMul, Nat.reduceSub, reduceCtorEq, e_none, e_some, e_bindS]
              refine ret_keep (by simp) ?_
              rw [rs_rTail, ares_cell2 (r := 0) (row := ⟨true, false, [.nilslice, .nilslice]⟩) (l := [.nilslice, .nilslice]) (by simp only [e_upd, e_putS, e_putN, e_t, e_c, Nat.reduceEqDiff, ↓reduceIte, reduceCtorEq, Nat.reduceAdd]; rfl) rfl rfl rfl]
              refine ⟨_, .nilslice, .nilslice, rfl, ?_, .nil, .nil⟩
              simp only [e_upd, e_putS, e_putN, e_t, e_c, Nat.reduceEqDiff, ↓reduceIte, reduceCtorEq, Nat.reduceAdd]
            case pos =>
              obtain ⟨b, rfl⟩ := Int.eq_ofNat_of_zero_le c2
              obtain ⟨g, hg⟩ : ∃ g : Nat, total - (b : Int) = g := ⟨(total - b).toNat, by omega⟩
              obtain ⟨k, rfl⟩ := Int.eq_ofNat_of_zero_le c4
              obtain rfl : total = ((b + g : Nat) : Int) := by omega
              have ht1 : (b + g : Nat) ≤ 512 := by omega
              have hW : tlW ((b + g : Nat) : Int) (b : Int) (k : Int) seen = ((wN b g k seen : Nat) : Int) := by
                unfold tlW; rw [show (((b + g : Nat) : Int) - (b : Int)).toNat = g by omega]; rfl
              have hC : tlC ((b + g : Nat) : Int) (k : Int) = ((cnk (b + g) k : Nat) : Int) := rfl
              have hE : tlE ((b + g : Nat) : Int) (b : Int) (k : Int) seen = redE ((wN b g k seen : Nat) : Int) ((cnk (b + g) k : Nat) : Int) := by
                unfold tlE; rw [if_pos ⟨c0, c1, c2, c3, c4, c5⟩, hW, hC]
              have hNe : tlN ((b + g : Nat) : Int) (b : Int) (k : Int) seen = if redE ((wN b g k seen : Nat) : Int) ((cnk (b + g) k : Nat) : Int) = 0 then redX ((wN b g k seen : Nat) : Int) ((cnk (b + g) k : Nat) : Int) else 0 := by
                unfold tlN; rw [hE, hW, hC]
              have hDe : tlD ((b + g : Nat) : Int) (b : Int) (k : Int) seen = if redE ((wN b g k seen : Nat) : Int) ((cnk (b + g) k : Nat) : Int) = 0 then redX ((cnk (b + g) k : Nat) : Int) ((wN b g k seen : Nat) : Int) else 0 := by
                unfold tlD; rw [hE, hW, hC]
              rw [hE, hNe, hDe]
              have hcp := cnk_pos2 (b + g) k (by omega)
              have hwl : (Dg.dg (wN b g k seen)).length ≤ 10000 := by
                unfold wN
                rcases Nat.lt_or_ge (seen + 1).toNat 1000 with h | h
                · exact Nat.le_trans (sumT_dg ht1 (by omega)) (by omega)
                · rw [sumT_high (n := 1000) (by omega) h]
                  exact Nat.le_trans (sumT_dg ht1 (by omega)) (by omega)
              simp (disch := omega) only [sN, ↓reduceIte, Nat.reduceEqDiff, Nat.reduceAdd, Nat.reduceMul, Nat.reduceSub, reduceCtorEq, e_none, e_some, e_bindS, e0, e1, e2, e3, List.map_cons, List.map_nil]
              refine ⟨_, (rwaysB_calls ([] ++ [rw_ [.nilslice, .nilslice]]) b g k seen ht1 (by omega) h3.1 h3.2).g.mono ?_⟩
              rintro v1 H1 ⟨hB1, r1, a1⟩
              simp (disch := omega) only [sN, ↓reduceIte, Nat.reduceEqDiff, Nat.reduceAdd, Nat.reduceMul, Nat.reduceSub, reduceCtorEq, e_none, e_some, e_bindS, e0, e1, e2, e3, List.map_cons, List.map_nil]
              refine ⟨_, (rrowB_calls H1 (b + g) ht1).g.mono ?_⟩
              rintro v2 H2 ⟨D, cells, rfl, rD, hR, hB2, hD⟩
              obtain ⟨x1, r2, q1, q2, q3, q4⟩ := hR.2 k (by omega)
              have hi := dblS_idx (D := D) (k := b + g + 1) (j := k) (by omega)
              simp (disch := omega) only [sN, ↓reduceIte, Nat.reduceEqDiff, Nat.reduceAdd, Nat.reduceMul, Nat.reduceSub, reduceCtorEq, e_none, e_some, e_bindS, e0, e1, e2, e3, hi, rD, q1, Option.bind_some, Option.map_some, List.map_cons, List.map_nil]
              refine ⟨_, (rreducedB_calls H2 (wN b g k seen) (cnk (b + g) k) hcp hwl (Nat.le_trans (cnk_dg ht1) (by omega)) (a1.base hB2) q3).g.mono ?_⟩
              rintro v3 H3 ⟨hB3, w3, w4, rfl, n3, n4⟩
              have hB := (hB1.trans hB2).trans hB3
              have hr0 : Vh.rowAt H3 0 = some ⟨true, false, [.nilslice, .nilslice]⟩ := hB.row rfl
              have hl3 : 0 < H3.length := Nat.lt_of_lt_of_le (by simp) hB.1
              have hl2 : 0 < H2.length := Nat.lt_of_lt_of_le (by simp) (hB1.trans hB2).1
              simp (disch := omega) only [sN, ↓reduceIte, Nat.reduceEqDiff, Nat.reduceAdd, Nat.reduceMul, Nat.reduceSub, reduceCtorEq, e_none, e_some, e_bindS, List.getElem?_cons_zero, List.getElem?_cons_succ]
              rw [x_storeNA (n := 2) (r := 0) (l := [.nilslice, .nilslice]) (l' := [w3, w4]) (by simp only [e_upd, e_putS, e_putN, e_t, e_c, Nat.reduceEqDiff, ↓reduceIte, reduceCtorEq, Nat.reduceAdd]; rfl) (by simp only [e_upd, e_putS, e_putN, e_t, e_c, Nat.reduceEqDiff, ↓reduceIte, reduceCtorEq, Nat.reduceAdd]) (by simp [n3.cell, n4.cell]) hr0 rfl rfl]
              simp (disch := omega) only [sN, ↓reduceIte, Nat.reduceEqDiff, Nat.reduceAdd, Nat.reduceMul, Nat.reduceSub, reduceCtorEq, e_none, e_some, e_bindS]
              refine ret_keep (by simp) ?_
              rw [rs_rTail, ares_cell2 (r := 0) (row := ⟨true, false, [w3, w4]⟩) (l := [w3, w4]) (by simp only [e_upd, e_putS, e_putN, e_t, e_c, Nat.reduceEqDiff, ↓reduceIte, reduceCtorEq, Nat.reduceAdd]; rfl) (by rw [rowAt_set hl3, if_pos rfl]; rfl) rfl rfl]
              refine ⟨H3.set 0 (rw_ [w3, w4]), w3, w4, rfl, ?_, (n3.set hl2).le (Nat.zero_le _), (n4.set hl2).le (Nat.zero_le _)⟩
              simp only [e_upd, e_putS, e_putN, e_t, e_c, Nat.reduceEqDiff, ↓reduceIte, reduceCtorEq, Nat.reduceAdd]
end Go.Proofs.YtpkeneadkiabiaaDoor

/- Contracts: fractions are compared; ExactTails' walk. -/
-- NEWSET
namespace Go.Proofs.YtpkeneadkiabiaaDoor
open Go Go.Vh

theorem AtN.base {H H' : AHeap} {v : AV} {x : Int} (h : AtN H v x) (hb : Base H H') : AtN H' v x := by
  obtain ⟨κ, l, row, r, h1, h2, h3, h4⟩ := h
  exact ⟨κ, l, row, r, h1, h2, hb.row h3, h4⟩
theorem AtN.cell {H : AHeap} {v : AV} {x : Int} (h : AtN H v x) : v.cell = true := by
  obtain ⟨κ, l, row, r, h1, rfl, _⟩ := h
  exact c_mkS
theorem x_boxN {s : St} {H : AHeap} {x : Opd} {l : List AV} (hx : evo s x = .agg l) (hc : l.all AV.cell = true) : ieff (.box x) s H = some (.ptr H.length 0, H ++ [rw_ l]) := by
  simp [ieff, hx, aparts, anew, rw_]
  simpa using hc

theorem call_sameX {x x' : Int} {u v : AV} {K : St → AHeap → Prop} {d : Option Nat} {s : St} {H : AHeap} (hu : AtN H u x) (hv : AtN H v x') (he : x = x') {k : Nat} (hb : x < BB ^ k) (hk : k ≤ 100000) (hK : K (putI d s (.bool true)) H) : thenC Tryd.prog K d s H [u, v] (.func 16 []) := by
  subst he
  exact call_same hu hv (Int.lt_of_lt_of_le hb (BB_mono hk)) hK

theorem rSameFrac_calls (H0 : AHeap) {w1 w2 w3 w4 : AV} {x y : Int} {k : Nat} (hk : k ≤ 100000) (h1 : AtN H0 w1 x) (h2 : AtN H0 w2 y) (h3 : AtN H0 w3 x) (h4 : AtN H0 w4 y) (hx : x < BB ^ k) (hy : y < BB ^ k) :
    ACalls Tryd.prog 75 [.agg [w1, w2], .agg [w3, w4]] H0 (List.range H0.length) fun v H => v = .bool true ∧ Base H0 H := by
  refine ACalls.body Tryd.func75 ent_rSameFrac ir_rSameFrac_ok rs_rSameFrac_ok Tryd.ntmps75 (by simp) rfl ?_
  unfold ir_rSameFrac
  have e0 : s0 [.agg [w1, w2], .agg [w3, w4]] 0 = .agg [w1, w2] := rfl
  have e1 : s0 [.agg [w1, w2], .agg [w3, w4]] 1 = .agg [w3, w4] := rfl
  simp (disch := omega) only [sN, ↓reduceIte, Nat.reduceEqDiff, Nat.reduceAdd, Nat.reduceMul, Nat.reduceSub, reduceCtorEq, e_none, e_some, e_bindS, e0, e1]
  rw [x_boxN (l := [w1, w2]) (by simp only [e_upd, e_putS, e_putN, e_t, e_c, Nat.reduceEqDiff, ↓reduceIte, reduceCtorEq, Nat.reduceAdd, e0]) (by simp [h1.cell, h2.cell])]
  simp (disch := omega) only [sN, ↓reduceIte, Nat.reduceEqDiff, Nat.reduceAdd, Nat.reduceMul, Nat.reduceSub, reduceCtorEq, e_none, e_some, e_bindS, e0, e1]
  rw [x_boxN (l := [w3, w4]) (by simp only [e_upd, e_putS, e_putN, e_t, e_c, Nat.reduceEqDiff, ↓reduceIte, reduceCtorEq, Nat.reduceAdd, e1]) (by simp [h3.cell, h4.cell])]
  obtain ⟨H1, hH1⟩ : ∃ q, q = H0 ++ [rw_ [w1, w2]] ++ [rw_ [w3, w4]] := ⟨_, rfl⟩
  have hB : Base H0 H1 := by rw [hH1]; exact Base.one.app
  have r2 : Vh.rowAt H1 H0.length = some ⟨true, false, [w1, w2]⟩ := by rw [hH1, row_left (by simp)]; simp [Vh.rowAt, rw_]
  have r3 : Vh.rowAt H1 (H0 ++ [rw_ [w1, w2]]).length = some ⟨true, false, [w3, w4]⟩ := by rw [hH1]; simp [Vh.rowAt, rw_]
  rw [← hH1]
  simp (disch := omega) only [sN, ↓reduceIte, Nat.reduceEqDiff, Nat.reduceAdd, Nat.reduceMul, Nat.reduceSub, reduceCtorEq, e_none, e_some, e_bindS, p_fieldAddr, Nat.zero_add, r2, r3, Option.bind_some, Option.map_some, List.getElem?_cons_zero, List.getElem?_cons_succ, List.map_cons, List.map_nil]
  refine call_sameX (h1.base hB) (h3.base hB) rfl hx hk ?_
  simp (disch := omega) only [sN, ↓reduceIte, Nat.reduceEqDiff, Nat.reduceAdd, Nat.reduceMul, Nat.reduceSub, reduceCtorEq, e_none, e_some, e_bindS, p_fieldAddr, Nat.zero_add, r2, r3, Option.bind_some, Option.map_some, List.getElem?_cons_zero, List.getElem?_cons_succ, List.map_cons, List.map_nil]
  refine call_sameX (h2.base hB) (h4.base hB) rfl hy hk ?_
  simp (disch := omega) only [sN, ↓reduceIte, Nat.reduceEqDiff, Nat.reduceAdd, Nat.reduceMul, Nat.reduceSub, reduceCtorEq, e_none, e_some, e_bindS]
  refine ret_keep hB.1 ⟨?_, hB⟩
  simp only [e_upd, e_putS, e_putN, e_t, e_c, Nat.reduceEqDiff, ↓reduceIte, reduceCtorEq, Nat.reduceAdd]

theorem lfrac_calls (H0 : AHeap) {w1 w2 w3 w4 : AV} {x y e : Int} {k : Nat} (hk : k ≤ 100000) (h1 : AtN H0 w1 x) (h2 : AtN H0 w2 y) (h3 : AtN H0 w3 x) (h4 : AtN H0 w4 y) (hx : x < BB ^ k) (hy : y < BB ^ k) :
    ACalls Tryd.prog 24 [.agg [w1, w2], .int .i64 e, .agg [w3, w4], .int .i64 e] H0 (List.range H0.length) fun v H => v = .bool true ∧ Base H0 H := by
  refine ACalls.body Tryd.func24 ent_lfrac ir_lfrac_ok rs_lfrac_ok Tryd.ntmps24 (by simp) rfl ?_
  unfold ir_lfrac
  have e0 : s0 [.agg [w1, w2], .int .i64 e, .agg [w3, w4], .int .i64 e] 0 = .agg [w1, w2] := rfl
  have e1 : s0 [.agg [w1, w2], .int .i64 e, .agg [w3, w4], .int .i64 e] 1 = .int .i64 e := rfl
  have e2 : s0 [.agg [w1, w2], .int .i64 e, .agg [w3, w4], .int .i64 e] 2 = .agg [w3, w4] := rfl
  have e3 : s0 [.agg [w1, w2], .int .i64 e, .agg [w3, w4], .int .i64 e] 3 = .int .i64 e := rfl
  simp (disch := omega) only [sN, ↓reduceIte, Nat.reduceEqDiff, Nat.reduceAdd, Nat.reduceMul, Nat.reduceSub, reduceCtorEq, e_none, e_some, e_bindS, e0, e1, e2, e3]
  rw [x_boxN (l := [w1, w2]) (by simp only [e_upd, e_putS, e_putN, e_t, e_c, Nat.reduceEqDiff, ↓reduceIte, reduceCtorEq, Nat.reduceAdd, e0]) (by simp [h1.cell, h2.cell])]
  simp (disch := omega) only [sN, ↓reduceIte, Nat.reduceEqDiff, Nat.reduceAdd, Nat.reduceMul, Nat.reduceSub, reduceCtorEq, e_none, e_some, e_bindS, e0, e1, e2, e3]
  rw [x_boxN (l := [w3, w4]) (by simp only [e_upd, e_putS, e_putN, e_t, e_c, Nat.reduceEqDiff, ↓reduceIte, reduceCtorEq, Nat.reduceAdd, e2]) (by simp [h3.cell, h4.cell])]
  obtain ⟨H1, hH1⟩ : ∃ q, q = H0 ++ [rw_ [w1, w2]] ++ [rw_ [w3, w4]] := ⟨_, rfl⟩
  have hB : Base H0 H1 := by rw [hH1]; exact Base.one.app
  have r2 : Vh.rowAt H1 H0.length = some ⟨true, false, [w1, w2]⟩ := by rw [hH1, row_left (by simp)]; simp [Vh.rowAt, rw_]
  have r3 : Vh.rowAt H1 (H0 ++ [rw_ [w1, w2]]).length = some ⟨true, false, [w3, w4]⟩ := by rw [hH1]; simp [Vh.rowAt, rw_]
  rw [← hH1]
  simp (disch := omega) only [sN, ↓reduceIte, Nat.reduceEqDiff, Nat.reduceAdd, Nat.reduceMul, Nat.reduceSub, reduceCtorEq, e_none, e_some, e_bindS, e1, e3, beq_self_eq_true]
  rw [x_loadNA (n := 2) (r := H0.length) (l := [w1, w2]) (by simp only [e_upd, e_putS, e_putN, e_t, e_c, Nat.reduceEqDiff, ↓reduceIte, reduceCtorEq, Nat.reduceAdd]) r2 rfl rfl]
  simp (disch := omega) only [sN, ↓reduceIte, Nat.reduceEqDiff, Nat.reduceAdd, Nat.reduceMul, Nat.reduceSub, reduceCtorEq, e_none, e_some, e_bindS, e1, e3]
  rw [x_loadNA (n := 2) (r := (H0 ++ [rw_ [w1, w2]]).length) (l := [w3, w4]) (by simp only [e_upd, e_putS, e_putN, e_t, e_c, Nat.reduceEqDiff, ↓reduceIte, reduceCtorEq, Nat.reduceAdd]) r3 rfl rfl]
  simp (disch := omega) only [sN, ↓reduceIte, Nat.reduceEqDiff, Nat.reduceAdd, Nat.reduceMul, Nat.reduceSub, reduceCtorEq, e_none, e_some, e_bindS, List.map_cons, List.map_nil]
  refine ⟨_, (rSameFrac_calls H1 hk (h1.base hB) (h2.base hB) (h3.base hB) (h4.base hB) hx hy).g.mono ?_⟩
  rintro v H ⟨rfl, hB2⟩
  simp (disch := omega) only [sN, ↓reduceIte, Nat.reduceEqDiff, Nat.reduceAdd, Nat.reduceMul, Nat.reduceSub, reduceCtorEq, e_none, e_some, e_bindS]
  refine ret_keep (hB.trans hB2).1 ⟨?_, hB.trans hB2⟩
  simp only [e_upd, e_putS, e_putN, e_t, e_c, Nat.reduceEqDiff, ↓reduceIte, reduceCtorEq, Nat.reduceAdd]
end Go.Proofs.YtpkeneadkiabiaaDoor

/- ExactTails' walk. -/
-- NEWSET
namespace Go.Proofs.YtpkeneadkiabiaaDoor
open Go Go.Vh

theorem NumV.normAt {H : AHeap} {w : AV} {x : Int} {m r0 : Nat} {row0 : ARow} (h : NumV H w x m) (h0 : Vh.rowAt H r0 = some row0) : AtN H w x := by
  rcases h with ⟨rfl, rfl⟩ | ⟨κ, l, row, r, h1, h2, h3, h4⟩
  · exact ⟨.nil, [], row0, r0, rfl, rfl, h0, rfl, fun i => by simp, rfl, rfl⟩
  · exact ⟨κ, l, row, r, h4.ok, h2, h3, h4.cells, h4.limbs, h4.num, h4.norm⟩
theorem set_last {H : AHeap} {a b : Option ARow} : (H ++ [a]).set H.length b = H ++ [b] := by simp
theorem redE_le {x y : Int} (h : redE x y = 0) : redX x y < BB ^ 64 ∧ redX y x < BB ^ 64 := by
  unfold redE at h
  split at h
  · assumption
  · omega
theorem tl_lt (total bad sample seen : Int) : tlN total bad sample seen < BB ^ 64 ∧ tlD total bad sample seen < BB ^ 64 := by
  unfold tlN tlD
  by_cases h : tlE total bad sample seen = 0
  · rw [if_pos h, if_pos h]
    unfold tlE at h
    split at h
    · exact redE_le h
    · omega
  · rw [if_neg h, if_neg h]
    exact ⟨BB_pos 64, BB_pos 64⟩

set_option maxHeartbeats 1000000 in
theorem tails_calls {Ww : List Nat} (hw : ACalls Tryd.prog 18 [] [] Ww fun v _ => v = .bool true) (total bad sample seen : Int) (h0 : -9223372036854775808 ≤ total ∧ total ≤ 9223372036854775807) (h1 : -9223372036854775808 ≤ bad ∧ bad ≤ 9223372036854775807) (h2 : -9223372036854775808 ≤ sample ∧ sample ≤ 9223372036854775807) (h3 : -9223372036854775808 ≤ seen ∧ seen ≤ 9223372036854775807) :
    ACalls Tryd.prog 7 [.int .i64 total, .int .i64 bad, .int .i64 sample, .int .i64 seen] [] (List.range 0) fun v _ => v = .bool true := by
  refine ACalls.body Tryd.func7 ent_tails ir_tails_ok rs_tails_ok Tryd.ntmps7 (by simp) rfl ?_
  unfold ir_tails
  have e0 : s0 [.int .i64 total, .int .i64 bad, .int .i64 sample, .int .i64 seen] 0 = .int .i64 total := rfl
  have e1 : s0 [.int .i64 total, .int .i64 bad, .int .i64 sample, .int .i64 seen] 1 = .int .i64 bad := rfl
  have e2 : s0 [.int .i64 total, .int .i64 bad, .int .i64 sample, .int .i64 seen] 2 = .int .i64 sample := rfl
  have e3 : s0 [.int .i64 total, .int .i64 bad, .int .i64 sample, .int .i64 seen] 3 = .int .i64 seen := rfl
  have hz : [AV.nilslice, AV.nilslice].all AV.cell = true := rfl
  obtain ⟨bN, bD⟩ := tl_lt total bad sample seen
  have hx := xTail_calls total bad sample seen h0 h1 h2 h3
  have hr := rTail_calls total bad sample seen h0 h1 h2 h3
  generalize tlN total bad sample seen = N at *
  generalize tlD total bad sample seen = D at *
  generalize tlE total bad sample seen = E at *
  simp (disch := omega) only [sN, ↓reduceIte, Nat.reduceEqDiff, Nat.reduceAdd, Nat.reduceMul, Nat.reduceSub, reduceCtorEq, e_none, e_some, e_bindS, e0, e1, e2, e3, List.map_cons, List.map_nil]
  refine call_in0 (Q := UpF N D E) hx rfl (hk_F fun R1 w1 w2 n1 n2 => ?_)
  obtain ⟨H1, hH1⟩ : ∃ q, q = [] ++ R1 := ⟨_, rfl⟩
  rw [← hH1] at n1 n2 ⊢
  simp (disch := omega) only [sN, ↓reduceIte, Nat.reduceEqDiff, Nat.reduceAdd, Nat.reduceMul, Nat.reduceSub, reduceCtorEq, e_none, e_some, e_bindS, e0, e1, e2, e3, List.map_cons, List.map_nil, List.getElem?_cons_zero, List.getElem?_cons_succ]
  rw [x_allocA hz]
  simp (disch := omega) only [sN, ↓reduceIte, Nat.reduceEqDiff, Nat.reduceAdd, Nat.reduceMul, Nat.reduceSub, reduceCtorEq, e_none, e_some, e_bindS]
  rw [x_storeNA (n := 2) (r := H1.length) (l := [.nilslice, .nilslice]) (l' := [w1, w2]) (by simp only [e_upd, e_putS, e_putN, e_t, e_c, Nat.reduceEqDiff, ↓reduceIte, reduceCtorEq, Nat.reduceAdd]) (by simp only [e_upd, e_putS, e_putN, e_t, e_c, Nat.reduceEqDiff, ↓reduceIte, reduceCtorEq, Nat.reduceAdd]) (by simp [n1.cell, n2.cell]) (by simp [Vh.rowAt, rw_]) rfl rfl, set_last]
  simp (disch := omega) only [sN, ↓reduceIte, Nat.reduceEqDiff, Nat.reduceAdd, Nat.reduceMul, Nat.reduceSub, reduceCtorEq, e_none, e_some, e_bindS, e0, e1, e2, e3, List.map_cons, List.map_nil]
  refine call_in0 (Q := UpF N D E) hr rfl (hk_F fun R2 w3 w4 n3 n4 => ?_)
  obtain ⟨H2, hH2⟩ : ∃ q, q = H1 ++ [rw_ [w1, w2]] ++ R2 := ⟨_, rfl⟩
  have hB2 : Base H1 H2 := by rw [hH2]; exact Base.one.app
  have r1 : Vh.rowAt H2 H1.length = some ⟨true, false, [w1, w2]⟩ := by rw [hH2, row_left (by simp)]; simp [Vh.rowAt, rw_]
  rw [← hH2] at n3 n4 ⊢
  have m1 : AtN H2 w1 N := by rw [hH2] at *; exact (n1.app.app).normAt r1
  have m2 : AtN H2 w2 D := by rw [hH2] at *; exact (n2.app.app).normAt r1
  have m3 := n3.normAt r1
  have m4 := n4.normAt r1
  simp (disch := omega) only [sN, ↓reduceIte, Nat.reduceEqDiff, Nat.reduceAdd, Nat.reduceMul, Nat.reduceSub, reduceCtorEq, e_none, e_some, e_bindS, List.getElem?_cons_zero, List.getElem?_cons_succ]
  rw [x_allocA hz]
  simp (disch := omega) only [sN, ↓reduceIte, Nat.reduceEqDiff, Nat.reduceAdd, Nat.reduceMul, Nat.reduceSub, reduceCtorEq, e_none, e_some, e_bindS]
  rw [x_storeNA (n := 2) (r := H2.length) (l := [.nilslice, .nilslice]) (l' := [w3, w4]) (by simp only [e_upd, e_putS, e_putN, e_t, e_c, Nat.reduceEqDiff, ↓reduceIte, reduceCtorEq, Nat.reduceAdd]) (by simp only [e_upd, e_putS, e_putN, e_t, e_c, Nat.reduceEqDiff, ↓reduceIte, reduceCtorEq, Nat.reduceAdd]) (by simp [n3.cell, n4.cell]) (by simp [Vh.rowAt, rw_]) rfl rfl, set_last]
  simp (disch := omega) only [sN, ↓reduceIte, Nat.reduceEqDiff, Nat.reduceAdd, Nat.reduceMul, Nat.reduceSub, reduceCtorEq, e_none, e_some, e_bindS]
  rw [x_loadNA (n := 2) (r := H1.length) (row := ⟨true, false, [w1, w2]⟩) (l := [w1, w2]) (by simp only [e_upd, e_putS, e_putN, e_t, e_c, Nat.reduceEqDiff, ↓reduceIte, reduceCtorEq, Nat.reduceAdd]) (Base.one.row r1) rfl rfl]
  simp (disch := omega) only [sN, ↓reduceIte, Nat.reduceEqDiff, Nat.reduceAdd, Nat.reduceMul, Nat.reduceSub, reduceCtorEq, e_none, e_some, e_bindS]
  rw [x_loadNA (n := 2) (r := H2.length) (row := ⟨true, false, [w3, w4]⟩) (l := [w3, w4]) (by simp only [e_upd, e_putS, e_putN, e_t, e_c, Nat.reduceEqDiff, ↓reduceIte, reduceCtorEq, Nat.reduceAdd]) (by simp [Vh.rowAt, rw_]) rfl rfl]
  simp (disch := omega) only [sN, ↓reduceIte, Nat.reduceEqDiff, Nat.reduceAdd, Nat.reduceMul, Nat.reduceSub, reduceCtorEq, e_none, e_some, e_bindS, List.map_cons, List.map_nil]
  refine ⟨_, (lfrac_calls (H2 ++ [rw_ [w3, w4]]) (k := 64) (by omega) (m1.base Base.one) (m2.base Base.one) (m3.base Base.one) (m4.base Base.one) bN bD).g.mono ?_⟩
  rintro v H3 ⟨rfl, hB3⟩
  simp (disch := omega) only [sN, ↓reduceIte, Nat.reduceEqDiff, Nat.reduceAdd, Nat.reduceMul, Nat.reduceSub, reduceCtorEq, e_none, e_some, e_bindS, List.map_nil]
  refine call_true hw fun H' => ?_
  simp (disch := omega) only [sN, ↓reduceIte, Nat.reduceEqDiff, Nat.reduceAdd, Nat.reduceMul, Nat.reduceSub, reduceCtorEq, e_none, e_some, e_bindS]
  refine ret_keep (by simp) ?_
  simp only [q_tmp, q_then, rs_tails, e_upd, e_putS, e_putN, e_t, e_c, Nat.reduceEqDiff, ↓reduceIte, reduceCtorEq, Nat.reduceAdd]
end Go.Proofs.YtpkeneadkiabiaaDoor
