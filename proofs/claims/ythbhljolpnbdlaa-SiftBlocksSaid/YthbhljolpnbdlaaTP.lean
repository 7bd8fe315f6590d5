/- Contracts of stage 4: blocks. -/
import Derived.Test.YthbhljolpnbdlaaVX
import Derived.Test.YthbhljolpnbdlaaSIr9
import Derived.Test.YthbhljolpnbdlaaTO
import Derived.Test.YthbhljolpnbdlaaTK
import Derived.Test.YthbhljolpnbdlaaQD
import Derived.Test.YthbhljolpnbdlaaQB
import Derived.Test.YthbhljolpnbdlaaQA
set_option linter.unusedSimpArgs false
set_option linter.unusedVariables false
-- NEWSET
namespace Go.Vh
open Go
section
variable {s : St} {H : AHeap}
/-- an append of a part of a row to a slice without room -/
theorem x_appP {x y : Opd} {n r o c q sz bytes : Nat} {row : ARow} {cs : List AV} (hx : evo s x = .slice q 0 0 0) (hy : evo s y = .slice r o n c) (hr : Vh.rowAt H r = some row) (hc : (row.cells.drop o).take (n * sz) = cs) (hl : o + n * sz ≤ row.cells.length) (hcell : cs.all AV.cell = true) (hb : n * bytes ≤ 70368744177664) :
    ieff (.append sz bytes x y) s H = some (.sliceU H.length 0 n sz, H ++ [sl cs]) := by
  have hs : asrc sz (.slice r o n c) H = some cs := by
    simp only [asrc]
    by_cases h0 : n * sz = 0
    · rw [if_pos h0, ← hc, h0]; simp
    · rw [if_neg h0]
      unfold cellsAt
      rw [hr]
      simp only [Option.bind_some]
      rw [if_pos hl, hc]
  simp only [ieff, hx, hy, alen, hs, Option.bind_some, aappend, Nat.zero_add, if_pos hb, if_true, anew, hcell, Option.map_some]
  rfl
end
end Go.Vh
namespace Go.Proofs.Ythbhljolpnbdlaa
open Go Go.Vh

theorem clone_calls (H0 : AHeap) {k r o c : Nat} {l : List Int} {row : ARow} (hk0 : 0 < k) (hr : Vh.rowAt H0 r = some row) (hc : row.cells = ints .i64 l) (hl : o + k ≤ l.length) (hb : k ≤ 100000) :
    ACalls Try.prog 71 [.slice r o k c] H0 (List.range H0.length) fun v H => v = .sliceU (H0.length + 1) 0 k 1 ∧ H = H0 ++ [rw_ []] ++ [sl (ints .i64 ((l.drop o).take k))] := by
  refine ACalls.body Try.func71 ent_clone ir_clone_ok rs_clone_ok Try.ntmps71 (by simp) rfl ?_
  unfold ir_clone
  have e0 : s0 [.slice r o k c] 0 = .slice r o k c := rfl
  have hnil : ∀ (s : St) (x : Opd), evo s x = .slice r o k c → ipure (.isNil false x (.c .nilslice)) s = some (.bool false) := fun s x h => by
    have ha : anil (.slice r o k c) = some false := by
      simp only [anil]
      rw [if_neg (by omega)]
    simp only [ipure, h, ha, e_c]
    rfl
  simp (disch := omega) only [sN, ↓reduceIte, Nat.reduceEqDiff, Nat.reduceAdd, Nat.reduceMul, Nat.reduceSub, reduceCtorEq, e_none, e_some, e_bindS, e0]
  rw [hnil _ _ (by simp only [e_upd, e_putS, e_putN, e_t, e_c, Nat.reduceEqDiff, ↓reduceIte, reduceCtorEq, Nat.reduceAdd])]
  simp (disch := omega) only [sN, ↓reduceIte, Nat.reduceEqDiff, Nat.reduceAdd, Nat.reduceMul, Nat.reduceSub, reduceCtorEq, e_none, e_some, e_bindS, e0]
  rw [x_bs0]
  simp (disch := omega) only [sN, ↓reduceIte, Nat.reduceEqDiff, Nat.reduceAdd, Nat.reduceMul, Nat.reduceSub, reduceCtorEq, e_none, e_some, e_bindS, e0]
  rw [x_appP (q := H0.length) (r := r) (o := o) (n := k) (c := c) (row := row) (cs := ints .i64 ((l.drop o).take k)) (by simp only [e_upd, e_putS, e_putN, e_t, e_c, Nat.reduceEqDiff, ↓reduceIte, reduceCtorEq, Nat.reduceAdd]) (by simp only [e_upd, e_putS, e_putN, e_t, e_c, Nat.reduceEqDiff, ↓reduceIte, reduceCtorEq, Nat.reduceAdd, e0]) (Base.one.row hr) (by rw [hc, Nat.mul_one]; simp [ints, List.map_drop, List.map_take]) (by rw [hc, ints_length]; omega) intsc (by omega)]
  simp (disch := omega) only [sN, ↓reduceIte, Nat.reduceEqDiff, Nat.reduceAdd, Nat.reduceMul, Nat.reduceSub, reduceCtorEq, e_none, e_some, e_bindS]
  refine ret_keep (by simp) ?_
  simp only [rs_clone, q_tmp, q_then, e_upd, e_putS, e_putN, e_t, e_c, Nat.reduceEqDiff, ↓reduceIte, reduceCtorEq, Nat.reduceAdd]
  exact ⟨by simp, trivial⟩

/-- the i-th block -/
def blk (l : List Int) (size i : Nat) : List Int := (l.drop (i * size)).take size
theorem blk_len {l : List Int} {size i : Nat} (h : (i + 1) * size ≤ l.length) : (blk l size i).length = size := by
  unfold blk
  rw [Nat.succ_mul] at h
  simp; omega
theorem blk_get {l : List Int} {size i j : Nat} (h : (i + 1) * size ≤ l.length) (hj : j < size) : (blk l size i).getD j 0 = l.getD (i * size + j) 0 := by
  unfold blk
  simp only [List.getD_eq_getElem?_getD]
  rw [List.getElem?_take_of_lt hj, List.getElem?_drop]

/-- c blocks of a list, appended one by one -/
structure Bk (H0 H : AHeap) (v : AV) (l : List Int) (size c : Nat) (f : Nat → Nat) (q : Nat) : Prop where
  val : (c = 0 ∧ v = .nilslice) ∨ (0 < c ∧ v = .sliceU q 0 c 1 ∧ H0.length ≤ q ∧ Vh.rowAt H q = some ⟨true, true, (List.range c).map fun i => .sliceU (f i) 0 size 1⟩)
  blks : ∀ i, i < c → H0.length ≤ f i ∧ f i ≠ q ∧ Vh.rowAt H (f i) = some ⟨true, true, ints .i64 (blk l size i)⟩
  inj : ∀ i j, i < c → j < c → f i = f j → i = j
theorem Bk.base {H0 H H' : AHeap} {v : AV} {l : List Int} {size c : Nat} {f : Nat → Nat} {q : Nat} (h : Bk H0 H v l size c f q) (hb : Base H H') : Bk H0 H' v l size c f q := by
  refine ⟨?_, fun i hi => ?_, h.inj⟩
  · rcases h.val with h | ⟨h1, h2, h3, h4⟩
    · exact .inl h
    · exact .inr ⟨h1, h2, h3, hb.row h4⟩
  · obtain ⟨h1, h2, h3⟩ := h.blks i hi
    exact ⟨h1, h2, hb.row h3⟩

/-- one block more -/
theorem x_appBk {H0 H : AHeap} {v : AV} {l : List Int} {size c : Nat} {f : Nat → Nat} {q p r : Nat} {row : ARow} (h : Bk H0 H v l size c f q) (hb : Base H0 H) (hc : c ≤ 100000) (hp : Vh.rowAt H p = some ⟨true, true, ints .i64 (blk l size c)⟩) (hp0 : H0.length ≤ p) (hpf : ∀ i, i < c → f i ≠ p) (hpq : 0 < c → p ≠ q)
    (hr : Vh.rowAt H r = some row) (hcr : row.cells = [.sliceU p 0 size 1]) :
    ∃ v' H' q', (∀ (s : St) (x y : Opd), evo s x = v → evo s y = .slice r 0 1 1 → ieff (.append 1 24 x y) s H = some (v', H')) ∧ Bk H0 H' v' l size (c + 1) (fun i => if i = c then p else f i) q' ∧ Base H0 H' := by
  have hpl := rowAt_lt hp
  have hcells : (List.range (c + 1)).map (fun i => AV.sliceU (if i = c then p else f i) 0 size 1) = (List.range c).map (fun i => AV.sliceU (f i) 0 size 1) ++ [.sliceU p 0 size 1] := by
    rw [List.range_succ, List.map_append]
    congr 1
    · apply List.map_congr_left
      intro i hi
      rw [List.mem_range] at hi
      rw [if_neg (by omega)]
    · simp
  have hinj : ∀ i j, i < c + 1 → j < c + 1 → (if i = c then p else f i) = (if j = c then p else f j) → i = j := fun i j hi hj e => by
    by_cases h1 : i = c
    · by_cases h2 : j = c
      · omega
      · rw [if_pos h1, if_neg h2] at e
        exact absurd e.symm (hpf j (by omega))
    · by_cases h2 : j = c
      · rw [if_neg h1, if_pos h2] at e
        exact absurd e (hpf i (by omega))
      · rw [if_neg h1, if_neg h2] at e
        exact h.inj i j (by omega) (by omega) e
  rcases h.val with ⟨rfl, rfl⟩ | ⟨h1, rfl, h3, h4⟩
  · refine ⟨.sliceU H.length 0 1 1, H ++ [sl [.sliceU p 0 size 1]], H.length, fun s x y hx hy => ?_, ⟨.inr ⟨by omega, rfl, hb.1, ?_⟩, fun i hi => ?_, hinj⟩, hb.app⟩
    · exact x_appN hx hy hr (by rw [hcr]; rfl) (by rw [hcr]; simp) (by omega) rfl
    · rw [hcells]; simp [Vh.rowAt, sl]
    · obtain rfl : i = 0 := by omega
      rw [if_pos rfl]
      exact ⟨hp0, by omega, Base.one.row hp⟩
  · refine ⟨.sliceU H.length 0 (c + 1) 1, H.set q none ++ [sl ((List.range c).map (fun i => AV.sliceU (f i) 0 size 1) ++ [.sliceU p 0 size 1])], H.length, fun s x y hx hy => ?_, ⟨.inr ⟨by omega, rfl, hb.1, ?_⟩, fun i hi => ?_, hinj⟩, (hb.set h3).app⟩
    · exact x_appU (bytes := 24) (xs := [.sliceU p 0 size 1]) hx hy h4 (by simp) hr (by rw [hcr]; rfl) (by rw [hcr]; simp) (by omega) rfl
    · rw [hcells, row_new]; rfl
    · have old : ∀ {k row}, k ≠ q → Vh.rowAt H k = some row → Vh.rowAt (H.set q none ++ [sl ((List.range c).map (fun i => AV.sliceU (f i) 0 size 1) ++ [.sliceU p 0 size 1])]) k = some row := fun {k row} hk hrk => by
        rw [rowAt_append_left (by rw [List.length_set]; exact rowAt_lt hrk), row_other0 (Ne.symm hk)]
        exact hrk
      by_cases hic : i = c
      · simp only [if_pos hic]
        subst hic
        exact ⟨hp0, by omega, old (hpq h1) hp⟩
      · simp only [if_neg hic]
        obtain ⟨b1, b2, b3⟩ := h.blks i (by omega)
        have := rowAt_lt b3
        exact ⟨b1, by omega, old b2 b3⟩
end Go.Proofs.Ythbhljolpnbdlaa


/- Contracts of stage 4: Blocks of both sides. -/
-- NEWSET
namespace Go.Proofs.Ythbhljolpnbdlaa
open Go Go.Vh

def bkE (n : Nat) (size : Int) : Int := if 1 ≤ size ∧ size ≤ 512 then 0 else 3
def bkC (n : Nat) (size : Int) : Nat := if bkE n size = 0 then n / size.toNat else 0
theorem hsl {r n c e sz : Nat} (h : e + sz ≤ n) (hc : n ≤ c) : aslice 1 (.slice r 0 n c) (some (.int .i64 (e : Int))) (some (.int .i64 ((e : Int) + sz))) = some (.slice r e sz (c - e)) := by
  have h1 : abound (.int .i64 ((e : Int) + sz)) c = some (e + sz) := by
    simp only [abound]
    rw [if_pos (by omega)]
    congr 1
  have h2 : abound (.int .i64 (e : Int)) (e + sz) = some e := by
    simp only [abound]
    rw [if_pos (by omega)]
    congr 1
  simp only [aslice, ahi, h1, h2, Option.bind_some]
  congr 2
  · omega
  · omega
theorem Bk.lt {H0 H : AHeap} {v : AV} {l : List Int} {size c : Nat} {f : Nat → Nat} {q : Nat} (h : Bk H0 H v l size c f q) : (∀ i, i < c → f i < H.length) ∧ (0 < c → q < H.length) := by
  refine ⟨fun i hi => rowAt_lt (h.blks i hi).2.2, fun hc => ?_⟩
  rcases h.val with ⟨h1, _⟩ | ⟨_, _, _, h4⟩
  · omega
  · exact rowAt_lt h4
theorem Bk.zero {H0 H : AHeap} {l : List Int} {size : Nat} : Bk H0 H .nilslice l size 0 id 0 := ⟨.inl ⟨rfl, rfl⟩, fun i hi => by omega, fun i j hi => by omega⟩

set_option maxHeartbeats 2000000 in
theorem blocks_calls (H0 : AHeap) {κ : SK} {n r : Nat} {l : List Int} {row : ARow} {size : Int} (hk : okS κ n) (hu : κ ≠ .u) (hl : l.length = n) (hn : n ≤ 300) (hr : Vh.rowAt H0 r = some row) (hc : row.cells = ints .i64 l) :
    ACalls Try.prog 35 [mkS κ r 0 n, .int .i64 size] H0 (List.range H0.length) fun v H => ∃ w f q, v = .tuple [w, .int .i64 (bkE n size)] ∧ Base H0 H ∧ Bk H0 H w l size.toNat (bkC n size) f q := by
  refine ACalls.body Try.func35 ent_blocks ir_blocks_ok rs_blocks_ok Try.ntmps35 (by simp) rfl ?_
  unfold ir_blocks
  have e0 : s0 [mkS κ r 0 n, .int .i64 size] 0 = mkS κ r 0 n := rfl
  have e1 : s0 [mkS κ r 0 n, .int .i64 size] 1 = .int .i64 size := rfl
  have fin : bkE n size = 3 → ∃ w f q, AV.tuple [.nilslice, .int .i64 3] = .tuple [w, .int .i64 (bkE n size)] ∧ Base H0 H0 ∧ Bk H0 H0 w l size.toNat (bkC n size) f q := fun h => by
    refine ⟨.nilslice, id, 0, by rw [h], Base.refl, ?_⟩
    unfold bkC
    rw [if_neg (by rw [h]; decide)]
    exact Bk.zero
  by_cases h1 : size < 1
  · simp (disch := omega) only [sN, ↓reduceIte, Nat.reduceEqDiff, Nat.reduceAdd, Nat.reduceMul, Nat.reduceSub, reduceCtorEq, e_none, e_some, e_bindS, e0, e1]
    refine ret_keep (by simp) ?_
    rw [show rs_blocks = [.tmp 4, .tmp 5] from rfl, q_tmp2, q_then]
    simp only [e_upd, e_putS, e_putN, e_t, e_c, Nat.reduceEqDiff, ↓reduceIte, reduceCtorEq, Nat.reduceAdd]
    exact fin (by unfold bkE; rw [if_neg (by omega)])
  by_cases h2 : size > 512
  · simp (disch := omega) only [sN, ↓reduceIte, Nat.reduceEqDiff, Nat.reduceAdd, Nat.reduceMul, Nat.reduceSub, reduceCtorEq, e_none, e_some, e_bindS, e0, e1]
    refine ret_keep (by simp) ?_
    rw [show rs_blocks = [.tmp 4, .tmp 5] from rfl, q_tmp2, q_then]
    simp only [e_upd, e_putS, e_putN, e_t, e_c, Nat.reduceEqDiff, ↓reduceIte, reduceCtorEq, Nat.reduceAdd]
    exact fin (by unfold bkE; rw [if_neg (by omega)])
  have hE : bkE n size = 0 := by unfold bkE; rw [if_pos (by omega)]
  obtain ⟨sz, hsz⟩ : ∃ sz : Nat, size = (sz : Int) := ⟨size.toNat, by omega⟩
  have hC : bkC n size = n / sz := by unfold bkC; rw [if_pos hE, hsz, Int.toNat_natCast]
  rw [hC, hE]
  subst hsz
  rw [Int.toNat_natCast]
  clear fin hE hC
  simp (disch := omega) only [sN, ↓reduceIte, Nat.reduceEqDiff, Nat.reduceAdd, Nat.reduceMul, Nat.reduceSub, reduceCtorEq, e_none, e_some, e_bindS, e0, e1, k_len hk]
  refine ⟨fun t s H => ∃ (i e : Nat) (f : Nat → Nat) (q : Nat), t = n - i ∧ i ≤ n ∧ e = i * sz ∧ e ≤ n ∧ Base H0 H ∧ Bk H0 H (s 6) l sz i f q ∧ s 0 = mkS κ r 0 n ∧ s 1 = .int .i64 (sz : Int) ∧ s 7 = .int .i64 ((e : Int) + sz), n, ⟨0, 0, id, 0, rfl, by omega, by simp, by omega, Base.refl, ?_, ?_, ?_, ?_⟩, ?_⟩
  · simp only [e_upd, e_putS, e_putN, e_t, e_c, Nat.reduceEqDiff, ↓reduceIte, reduceCtorEq, Nat.reduceAdd]; exact Bk.zero
  · simp only [e_upd, e_putS, e_putN, e_t, e_c, Nat.reduceEqDiff, ↓reduceIte, reduceCtorEq, Nat.reduceAdd, e0]
  · simp only [e_upd, e_putS, e_putN, e_t, e_c, Nat.reduceEqDiff, ↓reduceIte, reduceCtorEq, Nat.reduceAdd, e1]
  · simp only [e_upd, e_putS, e_putN, e_t, e_c, Nat.reduceEqDiff, ↓reduceIte, reduceCtorEq, Nat.reduceAdd]; simp
  rintro t s H ⟨i, e, f, q, rfl, hi, he, hen, hB, hbk, h0, h1, h7⟩
  by_cases hlt : e + sz ≤ n
  · obtain ⟨c, rfl⟩ : ∃ c, κ = .cap c := by
      cases κ with
      | nil => simp only [okS] at hk; omega
      | cap c => exact ⟨c, rfl⟩
      | u => exact (hu rfl).elim
    have hcn : n ≤ c := hk
    have hm : mkS (.cap c) r 0 n = .slice r 0 n c := rfl
    rw [hm] at h0
    have hx := hsl (r := r) hlt hcn
    have h31 : (e : Int) + sz - sz = e := by omega
    have hil : i + 1 ≤ n := by
      have : i ≤ i * sz := Nat.le_mul_of_pos_right i (by omega)
      omega
    simp (disch := omega) only [sN, ↓reduceIte, Nat.reduceEqDiff, Nat.reduceAdd, Nat.reduceMul, Nat.reduceSub, reduceCtorEq, e_none, e_some, e_bindS, h0, h1, h7, alen, Option.map_some, p_slice, h31, hx, List.map_cons, List.map_nil]
    refine ⟨_, (clone_calls H (l := l) (row := row) (by omega) (hB.row hr) hc (by omega) (by omega)).g.mono ?_⟩
    rintro v H1 ⟨rfl, hH1⟩
    have hB1 : Base H H1 := by rw [hH1]; exact Base.one.app
    have hbl : (l.drop e).take sz = blk l sz i := by unfold blk; rw [he]
    rw [hbl] at hH1
    have hp1 : Vh.rowAt H1 (H.length + 1) = some ⟨true, true, ints .i64 (blk l sz i)⟩ := by rw [hH1]; simp [Vh.rowAt, rw_, sl]
    have hL1 : H1.length = H.length + 2 := by rw [hH1]; simp
    clear hH1
    obtain ⟨l1, l2⟩ := hbk.lt
    have hle := hB.1
    simp (disch := omega) only [sN, ↓reduceIte, Nat.reduceEqDiff, Nat.reduceAdd, Nat.reduceMul, Nat.reduceSub, reduceCtorEq, e_none, e_some, e_bindS, h0, h1, h7]
    rw [x_bs1 (v := .sliceU (H.length + 1) 0 sz 1) (by simp only [e_upd, e_putS, e_putN, e_t, e_c, Nat.reduceEqDiff, ↓reduceIte, reduceCtorEq, Nat.reduceAdd]) rfl]
    obtain ⟨v', H', q', ea, eg, eb⟩ := x_appBk (H0 := H0) (H := H1 ++ [rw_ [.sliceU (H.length + 1) 0 sz 1]]) (p := H.length + 1) (r := H1.length) (row := ⟨true, false, [.sliceU (H.length + 1) 0 sz 1]⟩) ((hbk.base hB1).base Base.one) ((hB.trans hB1).app) (by omega) (Base.one.row hp1) (by omega) (fun j hj => by have := l1 j hj; omega) (fun h => by have := l2 h; omega) (by simp [Vh.rowAt, rw_]) rfl
    simp (disch := omega) only [sN, ↓reduceIte, Nat.reduceEqDiff, Nat.reduceAdd, Nat.reduceMul, Nat.reduceSub, reduceCtorEq, e_none, e_some, e_bindS, h0, h1, h7]
    rw [ea _ _ _ (by simp only [e_upd, e_putS, e_putN, e_t, e_c, Nat.reduceEqDiff, ↓reduceIte, reduceCtorEq, Nat.reduceAdd]) (by simp only [e_upd, e_putS, e_putN, e_t, e_c, Nat.reduceEqDiff, ↓reduceIte, reduceCtorEq, Nat.reduceAdd])]
    simp (disch := omega) only [sN, ↓reduceIte, Nat.reduceEqDiff, Nat.reduceAdd, Nat.reduceMul, Nat.reduceSub, reduceCtorEq, e_none, e_some, e_bindS, h0, h1, h7]
    refine loop_keep (m := n - (i + 1)) (by omega) ⟨i + 1, e + sz, fun j => if j = i then H.length + 1 else f j, q', rfl, hil, by rw [he, Nat.succ_mul], hlt, eb, ?_, ?_, ?_, ?_⟩
    · simp only [e_upd, e_putS, e_putN, e_t, e_c, Nat.reduceEqDiff, ↓reduceIte, reduceCtorEq, Nat.reduceAdd]; exact eg
    · simp only [e_upd, e_putS, e_putN, e_t, e_c, Nat.reduceEqDiff, ↓reduceIte, reduceCtorEq, Nat.reduceAdd, h0]; rfl
    · simp only [e_upd, e_putS, e_putN, e_t, e_c, Nat.reduceEqDiff, ↓reduceIte, reduceCtorEq, Nat.reduceAdd, h1]
    · simp only [e_upd, e_putS, e_putN, e_t, e_c, Nat.reduceEqDiff, ↓reduceIte, reduceCtorEq, Nat.reduceAdd]; congr 1
  · have hdiv : n / sz = i := by
      refine Nat.div_eq_of_lt_le ?_ ?_
      · omega
      · rw [Nat.succ_mul]; omega
    rw [hdiv]
    simp (disch := omega) only [sN, ↓reduceIte, Nat.reduceEqDiff, Nat.reduceAdd, Nat.reduceMul, Nat.reduceSub, reduceCtorEq, e_none, e_some, e_bindS, h0, h1, h7, k_len hk]
    refine ret_keep hB.1 ?_
    rw [show rs_blocks = [.tmp 4, .tmp 5] from rfl, q_tmp2, q_then]
    refine ⟨s 6, f, q, ?_, hB, hbk⟩
    simp only [e_upd, e_putS, e_putN, e_t, e_c, Nat.reduceEqDiff, ↓reduceIte, reduceCtorEq, Nat.reduceAdd]

set_option maxHeartbeats 2000000 in
theorem rBlocks_calls (H0 : AHeap) {κ : SK} {n r : Nat} {l : List Int} {row : ARow} {size : Int} (hk : okS κ n) (hu : κ ≠ .u) (hl : l.length = n) (hn : n ≤ 300) (hr : Vh.rowAt H0 r = some row) (hc : row.cells = ints .i64 l) :
    ACalls Try.prog 36 [mkS κ r 0 n, .int .i64 size] H0 (List.range H0.length) fun v H => ∃ w f q, v = .tuple [w, .int .i64 (bkE n size)] ∧ Base H0 H ∧ Bk H0 H w l size.toNat (bkC n size) f q := by
  refine ACalls.body Try.func36 ent_rBlocks ir_rBlocks_ok rs_rBlocks_ok Try.ntmps36 (by simp) rfl ?_
  unfold ir_rBlocks
  have e0 : s0 [mkS κ r 0 n, .int .i64 size] 0 = mkS κ r 0 n := rfl
  have e1 : s0 [mkS κ r 0 n, .int .i64 size] 1 = .int .i64 size := rfl
  have fin : bkE n size = 3 → ∃ w f q, AV.tuple [.nilslice, .int .i64 3] = .tuple [w, .int .i64 (bkE n size)] ∧ Base H0 H0 ∧ Bk H0 H0 w l size.toNat (bkC n size) f q := fun h => by
    refine ⟨.nilslice, id, 0, by rw [h], Base.refl, ?_⟩
    unfold bkC
    rw [if_neg (by rw [h]; decide)]
    exact Bk.zero
  by_cases h1 : size < 1
  · simp (disch := omega) only [sN, ↓reduceIte, Nat.reduceEqDiff, Nat.reduceAdd, Nat.reduceMul, Nat.reduceSub, reduceCtorEq, e_none, e_some, e_bindS, e0, e1]
    refine ret_keep (by simp) ?_
    rw [show rs_rBlocks = [.tmp 4, .tmp 5] from rfl, q_tmp2, q_then]
    simp only [e_upd, e_putS, e_putN, e_t, e_c, Nat.reduceEqDiff, ↓reduceIte, reduceCtorEq, Nat.reduceAdd]
    exact fin (by unfold bkE; rw [if_neg (by omega)])
  by_cases h2 : size > 512
  · simp (disch := omega) only [sN, ↓reduceIte, Nat.reduceEqDiff, Nat.reduceAdd, Nat.reduceMul, Nat.reduceSub, reduceCtorEq, e_none, e_some, e_bindS, e0, e1]
    refine ret_keep (by simp) ?_
    rw [show rs_rBlocks = [.tmp 4, .tmp 5] from rfl, q_tmp2, q_then]
    simp only [e_upd, e_putS, e_putN, e_t, e_c, Nat.reduceEqDiff, ↓reduceIte, reduceCtorEq, Nat.reduceAdd]
    exact fin (by unfold bkE; rw [if_neg (by omega)])
  have hE : bkE n size = 0 := by unfold bkE; rw [if_pos (by omega)]
  obtain ⟨sz, hsz⟩ : ∃ sz : Nat, size = (sz : Int) := ⟨size.toNat, by omega⟩
  have hC : bkC n size = n / sz := by unfold bkC; rw [if_pos hE, hsz, Int.toNat_natCast]
  rw [hC, hE]
  subst hsz
  rw [Int.toNat_natCast]
  clear fin hE hC
  simp (disch := omega) only [sN, ↓reduceIte, Nat.reduceEqDiff, Nat.reduceAdd, Nat.reduceMul, Nat.reduceSub, reduceCtorEq, e_none, e_some, e_bindS, e0, e1, k_len hk]
  refine ⟨fun t s H => ∃ (i e : Nat) (f : Nat → Nat) (q : Nat), t = n - i ∧ i ≤ n ∧ e = i * sz ∧ e ≤ n ∧ Base H0 H ∧ Bk H0 H (s 6) l sz i f q ∧ s 0 = mkS κ r 0 n ∧ s 1 = .int .i64 (sz : Int) ∧ s 7 = .int .i64 (e : Int), n, ⟨0, 0, id, 0, rfl, by omega, by simp, by omega, Base.refl, ?_, ?_, ?_, ?_⟩, ?_⟩
  · simp only [e_upd, e_putS, e_putN, e_t, e_c, Nat.reduceEqDiff, ↓reduceIte, reduceCtorEq, Nat.reduceAdd]; exact Bk.zero
  · simp only [e_upd, e_putS, e_putN, e_t, e_c, Nat.reduceEqDiff, ↓reduceIte, reduceCtorEq, Nat.reduceAdd, e0]
  · simp only [e_upd, e_putS, e_putN, e_t, e_c, Nat.reduceEqDiff, ↓reduceIte, reduceCtorEq, Nat.reduceAdd, e1]
  · simp only [e_upd, e_putS, e_putN, e_t, e_c, Nat.reduceEqDiff, ↓reduceIte, reduceCtorEq, Nat.reduceAdd]; rfl
  rintro t s H ⟨i, e, f, q, rfl, hi, he, hen, hB, hbk, h0, h1, h7⟩
  by_cases hlt : e + sz ≤ n
  · obtain ⟨c, rfl⟩ : ∃ c, κ = .cap c := by
      cases κ with
      | nil => simp only [okS] at hk; omega
      | cap c => exact ⟨c, rfl⟩
      | u => exact (hu rfl).elim
    have hcn : n ≤ c := hk
    have hm : mkS (.cap c) r 0 n = .slice r 0 n c := rfl
    rw [hm] at h0
    have hx := hsl (r := r) hlt hcn
    have hil : i + 1 ≤ n := by
      have : i ≤ i * sz := Nat.le_mul_of_pos_right i (by omega)
      omega
    have hbl : (l.drop e).take sz = blk l sz i := by unfold blk; rw [he]
    obtain ⟨l1, l2⟩ := hbk.lt
    have hle := hB.1
    simp (disch := omega) only [sN, ↓reduceIte, Nat.reduceEqDiff, Nat.reduceAdd, Nat.reduceMul, Nat.reduceSub, reduceCtorEq, e_none, e_some, e_bindS, h0, h1, h7, alen, Option.map_some]
    rw [x_bs0]
    simp (disch := omega) only [sN, ↓reduceIte, Nat.reduceEqDiff, Nat.reduceAdd, Nat.reduceMul, Nat.reduceSub, reduceCtorEq, e_none, e_some, e_bindS, h0, h1, h7, p_slice, hx]
    rw [x_appP (q := H.length) (r := r) (o := e) (n := sz) (c := c - e) (row := row) (cs := ints .i64 (blk l sz i)) (by simp only [e_upd, e_putS, e_putN, e_t, e_c, Nat.reduceEqDiff, ↓reduceIte, reduceCtorEq, Nat.reduceAdd]) (by simp only [e_upd, e_putS, e_putN, e_t, e_c, Nat.reduceEqDiff, ↓reduceIte, reduceCtorEq, Nat.reduceAdd]) (Base.one.row (hB.row hr)) (by rw [hc, Nat.mul_one, ← hbl]; simp [ints, List.map_drop, List.map_take]) (by rw [hc, ints_length]; omega) intsc (by omega)]
    obtain ⟨H1, hH1⟩ : ∃ h, h = H ++ [rw_ []] ++ [sl (ints .i64 (blk l sz i))] := ⟨_, rfl⟩
    have hB1 : Base H H1 := by rw [hH1]; exact Base.one.app
    have hp1 : Vh.rowAt H1 (H.length + 1) = some ⟨true, true, ints .i64 (blk l sz i)⟩ := by rw [hH1]; simp [Vh.rowAt, rw_, sl]
    have hL1 : H1.length = H.length + 2 := by rw [hH1]; simp
    have hLr : (H ++ [rw_ []]).length = H.length + 1 := by simp
    rw [← hH1, hLr]
    clear hH1
    simp (disch := omega) only [sN, ↓reduceIte, Nat.reduceEqDiff, Nat.reduceAdd, Nat.reduceMul, Nat.reduceSub, reduceCtorEq, e_none, e_some, e_bindS, h0, h1, h7]
    rw [x_bs1 (v := .sliceU (H.length + 1) 0 sz 1) (by simp only [e_upd, e_putS, e_putN, e_t, e_c, Nat.reduceEqDiff, ↓reduceIte, reduceCtorEq, Nat.reduceAdd]) rfl]
    obtain ⟨v', H', q', ea, eg, eb⟩ := x_appBk (H0 := H0) (H := H1 ++ [rw_ [.sliceU (H.length + 1) 0 sz 1]]) (p := H.length + 1) (r := H1.length) (row := ⟨true, false, [.sliceU (H.length + 1) 0 sz 1]⟩) ((hbk.base hB1).base Base.one) ((hB.trans hB1).app) (by omega) (Base.one.row hp1) (by omega) (fun j hj => by have := l1 j hj; omega) (fun h => by have := l2 h; omega) (by simp [Vh.rowAt, rw_]) rfl
    simp (disch := omega) only [sN, ↓reduceIte, Nat.reduceEqDiff, Nat.reduceAdd, Nat.reduceMul, Nat.reduceSub, reduceCtorEq, e_none, e_some, e_bindS, h0, h1, h7]
    rw [ea _ _ _ (by simp only [e_upd, e_putS, e_putN, e_t, e_c, Nat.reduceEqDiff, ↓reduceIte, reduceCtorEq, Nat.reduceAdd]) (by simp only [e_upd, e_putS, e_putN, e_t, e_c, Nat.reduceEqDiff, ↓reduceIte, reduceCtorEq, Nat.reduceAdd])]
    simp (disch := omega) only [sN, ↓reduceIte, Nat.reduceEqDiff, Nat.reduceAdd, Nat.reduceMul, Nat.reduceSub, reduceCtorEq, e_none, e_some, e_bindS, h0, h1, h7]
    refine loop_keep (m := n - (i + 1)) (by omega) ⟨i + 1, e + sz, fun j => if j = i then H.length + 1 else f j, q', rfl, hil, by rw [he, Nat.succ_mul], hlt, eb, ?_, ?_, ?_, ?_⟩
    · simp only [e_upd, e_putS, e_putN, e_t, e_c, Nat.reduceEqDiff, ↓reduceIte, reduceCtorEq, Nat.reduceAdd]; exact eg
    · simp only [e_upd, e_putS, e_putN, e_t, e_c, Nat.reduceEqDiff, ↓reduceIte, reduceCtorEq, Nat.reduceAdd, h0]; rfl
    · simp only [e_upd, e_putS, e_putN, e_t, e_c, Nat.reduceEqDiff, ↓reduceIte, reduceCtorEq, Nat.reduceAdd, h1]
    · simp only [e_upd, e_putS, e_putN, e_t, e_c, Nat.reduceEqDiff, ↓reduceIte, reduceCtorEq, Nat.reduceAdd]; first | done | congr 1
  · have hdiv : n / sz = i := by
      refine Nat.div_eq_of_lt_le ?_ ?_
      · omega
      · rw [Nat.succ_mul]; omega
    rw [hdiv]
    simp (disch := omega) only [sN, ↓reduceIte, Nat.reduceEqDiff, Nat.reduceAdd, Nat.reduceMul, Nat.reduceSub, reduceCtorEq, e_none, e_some, e_bindS, h0, h1, h7, k_len hk]
    refine ret_keep hB.1 ?_
    rw [show rs_rBlocks = [.tmp 4, .tmp 5] from rfl, q_tmp2, q_then]
    refine ⟨s 6, f, q, ?_, hB, hbk⟩
    simp only [e_upd, e_putS, e_putN, e_t, e_c, Nat.reduceEqDiff, ↓reduceIte, reduceCtorEq, Nat.reduceAdd]
end Go.Proofs.Ythbhljolpnbdlaa


/- Contracts of stage 4: the law SiftBlocks, out of contracts for samples. -/
-- NEWSET
namespace Go.Proofs.Ythbhljolpnbdlaa
open Go Go.Vh

set_option maxHeartbeats 1000000 in
theorem ints2_calls (H0 : AHeap) {v v' : AV} {l : List Int} (h1 : Vi H0 v l) (h2 : Vi H0 v' l) (hlen : l.length ≤ 100000) :
    ACalls Try.prog 23 [v, v'] H0 (List.range H0.length) fun w H => w = .bool true ∧ H = H0 := by
  refine ACalls.body Try.func23 ent_ints ir_ints_ok rs_ints_ok Try.ntmps23 (by simp) rfl ?_
  unfold ir_ints
  obtain ⟨κ, q, hk, rfl, hrow⟩ := h1
  obtain ⟨κ', q', hk', rfl, hrow'⟩ := h2
  obtain ⟨n, hn⟩ : ∃ n, l.length = n := ⟨_, rfl⟩
  rw [hn] at hk hk' hlen hrow hrow' ⊢
  have e0 : s0 [mkS κ q 0 n, mkS κ' q' 0 n] 0 = mkS κ q 0 n := rfl
  have e1 : s0 [mkS κ q 0 n, mkS κ' q' 0 n] 1 = mkS κ' q' 0 n := rfl
  simp (disch := omega) only [sN, ↓reduceIte, Nat.reduceEqDiff, Nat.reduceAdd, Nat.reduceMul, Nat.reduceSub, reduceCtorEq, e_none, e_some, e_bindS, e0, e1, k_len hk, k_len hk']
  refine ⟨fun t s H => ∃ i : Nat, t = n - i ∧ i ≤ n ∧ H = H0 ∧ s 0 = mkS κ q 0 n ∧ s 1 = mkS κ' q' 0 n ∧ s 5 = .int .i64 (i : Int), n, ⟨0, rfl, by omega, rfl, ?_, ?_, ?_⟩, ?_⟩
  · simp only [e_upd, e_putS, e_putN, e_t, e_c, Nat.reduceEqDiff, ↓reduceIte, reduceCtorEq, Nat.reduceAdd, e0]
  · simp only [e_upd, e_putS, e_putN, e_t, e_c, Nat.reduceEqDiff, ↓reduceIte, reduceCtorEq, Nat.reduceAdd, e1]
  · simp only [e_upd, e_putS, e_putN, e_t, e_c, Nat.reduceEqDiff, ↓reduceIte, reduceCtorEq, Nat.reduceAdd]; rfl
  rintro t s H ⟨i, rfl, hi, hH, h0, h1, h5⟩
  rw [hH]
  by_cases hlt : i < n
  · obtain ⟨row, hr, hc⟩ := hrow (by omega)
    obtain ⟨row', hr', hc'⟩ := hrow' (by omega)
    have hg : row.cells[i]? = some (.int .i64 (l.getD i 0)) := by rw [hc]; exact ints_get (by omega)
    have hg' : row'.cells[i]? = some (.int .i64 (l.getD i 0)) := by rw [hc']; exact ints_get (by omega)
    have ia : aindexAddr 1 (mkS κ q 0 n) (.int .i64 (i : Int)) = some (.ptr q i) := by
      rw [k_idx hk (Nat.le_refl n) (by omega) (by omega)]; simp
    have ib : aindexAddr 1 (mkS κ' q' 0 n) (.int .i64 (i : Int)) = some (.ptr q' i) := by
      rw [k_idx hk' (Nat.le_refl n) (by omega) (by omega)]; simp
    simp (disch := omega) only [sN, ↓reduceIte, Nat.reduceEqDiff, Nat.reduceAdd, Nat.reduceMul, Nat.reduceSub, reduceCtorEq, e_none, e_some, e_bindS, h0, h1, h5, k_len hk, ia, ib, hr, hr', hg, hg', Option.bind_some]
    refine loop_keep (m := n - (i + 1)) (by omega) ⟨i + 1, rfl, by omega, rfl, ?_, ?_, ?_⟩
    · simp only [e_upd, e_putS, e_putN, e_t, e_c, Nat.reduceEqDiff, ↓reduceIte, reduceCtorEq, Nat.reduceAdd, h0]
    · simp only [e_upd, e_putS, e_putN, e_t, e_c, Nat.reduceEqDiff, ↓reduceIte, reduceCtorEq, Nat.reduceAdd, h1]
    · simp only [e_upd, e_putS, e_putN, e_t, e_c, Nat.reduceEqDiff, ↓reduceIte, reduceCtorEq, Nat.reduceAdd]; first | done | rfl
  · obtain rfl : i = n := by omega
    simp (disch := omega) only [sN, ↓reduceIte, Nat.reduceEqDiff, Nat.reduceAdd, Nat.reduceMul, Nat.reduceSub, reduceCtorEq, e_none, e_some, e_bindS, h0, h1, h5, k_len hk]
    refine ret_keep (by simp) ⟨?_, rfl⟩
    simp only [e_upd, e_putS, e_putN, e_t, e_c, Nat.reduceEqDiff, ↓reduceIte, reduceCtorEq, Nat.reduceAdd]

/-- what stands while the blocks of the first list are spoilt, from the i-th on not yet -/
structure LA (H1 H : AHeap) (l : List Int) (sz c : Nat) (f : Nat → Nat) (q : Nat) (g : Nat → Nat) (q2 i : Nat) : Prop where
  base : Base H1 H
  rq : 0 < c → Vh.rowAt H q = some ⟨true, true, (List.range c).map fun i => .sliceU (f i) 0 sz 1⟩
  rq2 : 0 < c → Vh.rowAt H q2 = some ⟨true, true, (List.range c).map fun i => .sliceU (g i) 0 sz 1⟩
  rf : ∀ j, i ≤ j → j < c → Vh.rowAt H (f j) = some ⟨true, true, ints .i64 (blk l sz j)⟩
  rg : ∀ j, j < c → Vh.rowAt H (g j) = some ⟨true, true, ints .i64 (blk l sz j)⟩
theorem cell_at {f : Nat → Nat} {sz c i : Nat} (h : i < c) : ((List.range c).map fun i => AV.sliceU (f i) 0 sz 1)[i]? = some (.sliceU (f i) 0 sz 1) := by simp [h]

set_option maxHeartbeats 8000000 in
theorem lawBlo_rest {Ww : List Nat} (hw : ACalls Try.prog 11 [] [] Ww fun v _ => v = .bool true) (κ : SK) (n : Nat) (l : List Int) (size N K sd : Int) (hk : okS κ n) (hu : κ ≠ .u) (hl : l.length = n) (hn : n ≤ 300)
    (E : Int) (xs ys : List Int) (hxs : xs.length ≤ 100000) (hys : ys.length ≤ 100000)
    (hS : ∀ H, ACalls Try.prog 37 [.int .i64 N, .int .i64 K, .int .u64 sd] H (List.range H.length) fun v H' => ∃ w w', v = .tuple [w, w', .int .i64 E] ∧ Base H H' ∧ Vi H' w xs ∧ Vi H' w' ys)
    (hR : ∀ H, ACalls Try.prog 38 [.int .i64 N, .int .i64 K, .int .u64 sd] H (List.range H.length) fun v H' => ∃ w w', v = .tuple [w, w', .int .i64 E] ∧ Base H H' ∧ Vi H' w xs ∧ Vi H' w' ys)
    {s : St} {H1 : AHeap} (hlen : 2 ≤ H1.length) (r0 : Vh.rowAt H1 0 = some ⟨false, false, ints .i64 l⟩) (r1 : Vh.rowAt H1 1 = some ⟨true, false, [.int .i64 N, .int .i64 K, .int .u64 sd]⟩)
    (e0 : s 0 = mkS κ 0 0 n) (e1 : s 1 = .int .i64 size) (e5 : s 5 = .ptr 1 0) :
    iwp Try.prog 1 ir_lawBloB (retPost 1 rs_lawBlo fun v _ => v = .bool true) s H1 := by
  unfold ir_lawBloB
  simp (disch := omega) only [sN, ↓reduceIte, Nat.reduceEqDiff, Nat.reduceAdd, Nat.reduceMul, Nat.reduceSub, reduceCtorEq, e_none, e_some, e_bindS, e0, e1, e5, List.map_cons, List.map_nil]
  refine ⟨_, (blocks_calls H1 hk hu hl hn r0 rfl).g.mono ?_⟩
  rintro v H2 ⟨w, f, q, rfl, hB2, hbk⟩
  simp (disch := omega) only [sN, ↓reduceIte, Nat.reduceEqDiff, Nat.reduceAdd, Nat.reduceMul, Nat.reduceSub, reduceCtorEq, e_none, e_some, e_bindS, e0, e1, e5, List.map_cons, List.map_nil, List.getElem?_cons_zero, List.getElem?_cons_succ]
  refine ⟨_, (rBlocks_calls H2 hk hu hl hn (hB2.row r0) rfl).g.mono ?_⟩
  rintro v H3 ⟨w2, g, q2, rfl, hB3, hbk2⟩
  have hbk1 := hbk.base hB3
  obtain ⟨lt1, lt2⟩ := hbk.lt
  have hB13 := hB2.trans hB3
  have hval1 := hbk1.val
  have hval2 := hbk2.val
  have hblk1 := hbk1.blks
  have hblk2 := hbk2.blks
  have hinj := hbk.inj
  have hcn : bkC n size * size.toNat ≤ n ∧ (0 < bkC n size → 1 ≤ size ∧ size ≤ 512) := by
    unfold bkC bkE
    by_cases hx : 1 ≤ size ∧ size ≤ 512
    · simp only [if_pos hx, if_true]
      exact ⟨Nat.div_mul_le_self _ _, fun _ => hx⟩
    · simp only [if_neg hx]
      simp
  clear hbk hbk1 hbk2 hB2
  obtain ⟨c, hc⟩ : ∃ c, c = bkC n size := ⟨_, rfl⟩
  obtain ⟨sz, hsz⟩ : ∃ c, c = size.toNat := ⟨_, rfl⟩
  obtain ⟨F, hF⟩ : ∃ c, c = bkE n size := ⟨_, rfl⟩
  rw [← hc] at lt1 lt2 hval1 hval2 hblk1 hblk2 hinj hcn
  rw [← hsz] at hval1 hval2 hblk1 hblk2 hcn
  rw [← hF]
  obtain ⟨hcn1, hcn2⟩ := hcn
  have hsize : 0 < c → size = (sz : Int) ∧ 0 < sz := fun h => by have := hcn2 h; omega
  have alw : alen w = some c := by
    rcases hval1 with ⟨h1, rfl⟩ | ⟨_, rfl, _⟩
    · rw [h1]; rfl
    · rfl
  have alw2 : alen w2 = some c := by
    rcases hval2 with ⟨h1, rfl⟩ | ⟨_, rfl, _⟩
    · rw [h1]; rfl
    · rfl
  have vw : 0 < c → w = .sliceU q 0 c 1 := fun h => by
    rcases hval1 with ⟨h1, _⟩ | ⟨_, h, _⟩
    · omega
    · exact h
  have vw2 : 0 < c → w2 = .sliceU q2 0 c 1 := fun h => by
    rcases hval2 with ⟨h1, _⟩ | ⟨_, h, _⟩
    · omega
    · exact h
  have q2ge : 0 < c → H2.length ≤ q2 := fun h => by
    rcases hval2 with ⟨h1, _⟩ | ⟨_, _, h, _⟩
    · omega
    · exact h
  have hLA : LA H1 H3 l sz c f q g q2 0 := by
    refine ⟨hB13, fun h => ?_, fun h => ?_, fun j _ hj => (hblk1 j hj).2.2, fun j hj => (hblk2 j hj).2.2⟩
    · rcases hval1 with ⟨h1, _⟩ | ⟨_, _, _, h⟩
      · omega
      · exact h
    · rcases hval2 with ⟨h1, _⟩ | ⟨_, _, _, h⟩
      · omega
      · exact h
  have fge : ∀ i, i < c → H1.length ≤ f i ∧ f i ≠ q := fun i hi => ⟨(hblk1 i hi).1, (hblk1 i hi).2.1⟩
  have gge : ∀ i, i < c → H2.length ≤ g i := fun i hi => (hblk2 i hi).1
  clear hval1 hval2 hblk1 hblk2 hcn2
  have hci : (c : Int) ≤ 300 := by
    rcases Nat.eq_zero_or_pos c with h | h
    · omega
    · have := (hsize h).2
      have h2 : c * 1 ≤ c * sz := Nat.mul_le_mul_left c this
      omega
  simp (disch := omega) only [sN, ↓reduceIte, Nat.reduceEqDiff, Nat.reduceAdd, Nat.reduceMul, Nat.reduceSub, reduceCtorEq, e_none, e_some, e_bindS, e0, e1, e5, alw, alw2, Option.map_some, List.map_cons, List.map_nil, List.getElem?_cons_zero, List.getElem?_cons_succ]
  refine ⟨fun t s H => ∃ i : Nat, t = c - i ∧ i ≤ c ∧ H3.length ≤ H.length ∧ LA H1 H l sz c f q g q2 i ∧ s 0 = mkS κ 0 0 n ∧ s 1 = .int .i64 size ∧ s 5 = .ptr 1 0 ∧ s 7 = w ∧ s 9 = w2 ∧ s 11 = .int .i64 (i : Int), c, ⟨0, rfl, by omega, Nat.le_refl _, hLA, ?_, ?_, ?_, ?_, ?_, ?_⟩, ?_⟩
  · simp only [e_upd, e_putS, e_putN, e_t, e_c, Nat.reduceEqDiff, ↓reduceIte, reduceCtorEq, Nat.reduceAdd, e0]
  · simp only [e_upd, e_putS, e_putN, e_t, e_c, Nat.reduceEqDiff, ↓reduceIte, reduceCtorEq, Nat.reduceAdd, e1]
  · simp only [e_upd, e_putS, e_putN, e_t, e_c, Nat.reduceEqDiff, ↓reduceIte, reduceCtorEq, Nat.reduceAdd, e5]
  · simp only [e_upd, e_putS, e_putN, e_t, e_c, Nat.reduceEqDiff, ↓reduceIte, reduceCtorEq, Nat.reduceAdd]
  · simp only [e_upd, e_putS, e_putN, e_t, e_c, Nat.reduceEqDiff, ↓reduceIte, reduceCtorEq, Nat.reduceAdd]
  · simp only [e_upd, e_putS, e_putN, e_t, e_c, Nat.reduceEqDiff, ↓reduceIte, reduceCtorEq, Nat.reduceAdd]; rfl
  clear hLA
  rintro t s2 H ⟨i, rfl, hi, hLH, hLA, h0, h1, h5, h7, h9, h11⟩
  by_cases hlt : i < c
  · have hc0 : 0 < c := by omega
    obtain ⟨hszI, hsz0⟩ := hsize hc0
    have hsz3 : sz ≤ 300 := by
      have : 1 * sz ≤ c * sz := Nat.mul_le_mul_right sz hc0
      omega
    have hbound : (i + 1) * sz ≤ l.length := by
      have : (i + 1) * sz ≤ c * sz := Nat.mul_le_mul_right sz (by omega)
      omega
    have hbl := blk_len hbound
    have rq := hLA.rq hc0
    have rq2 := hLA.rq2 hc0
    have rfi := hLA.rf i (Nat.le_refl i) hlt
    have rgi := hLA.rg i hlt
    have cf := cell_at (f := f) (sz := sz) hlt
    have cg := cell_at (f := g) (sz := sz) hlt
    rw [vw hc0] at h7
    rw [vw2 hc0] at h9
    have ia : aindexAddr 1 (.sliceU q 0 c 1) (.int .i64 (i : Int)) = some (.ptr q i) := by
      rw [a_idxU (by omega) (by omega)]; simp
    have ib : aindexAddr 1 (.sliceU q2 0 c 1) (.int .i64 (i : Int)) = some (.ptr q2 i) := by
      rw [a_idxU (by omega) (by omega)]; simp
    simp (disch := omega) only [sN, ↓reduceIte, Nat.reduceEqDiff, Nat.reduceAdd, Nat.reduceMul, Nat.reduceSub, reduceCtorEq, e_none, e_some, e_bindS, h0, h1, h5, h7, h9, h11, alen, Option.map_some, ia, ib, rq, rq2, cf, cg, Option.bind_some, List.map_cons, List.map_nil]
    have g1 : Gs H1 H (.sliceU (f i) 0 sz 1) (blk l sz i) := .inr ⟨f i, by omega, by rw [hbl], (fge i hlt).1, rfi⟩
    have g2 : Gs H2 H (.sliceU (g i) 0 sz 1) (blk l sz i) := .inr ⟨g i, by omega, by rw [hbl], gge i hlt, rgi⟩
    refine ⟨_, (ints_calls H g1 g2 (by rw [hbl]; omega)).g.mono ?_⟩
    rintro v H4 ⟨rfl, hH4⟩
    rw [hH4]
    simp (disch := omega) only [sN, ↓reduceIte, Nat.reduceEqDiff, Nat.reduceAdd, Nat.reduceMul, Nat.reduceSub, reduceCtorEq, e_none, e_some, e_bindS, h0, h1, h5, h7, h9, h11]
    refine ⟨fun t s H => ∃ (k : Nat) (cs : List Int), t = sz - k ∧ k ≤ sz ∧ H3.length ≤ H.length ∧ LA H1 H l sz c f q g q2 (i + 1) ∧ Vh.rowAt H (f i) = some ⟨true, true, ints .i64 cs⟩ ∧ cs.length = sz ∧ s 0 = mkS κ 0 0 n ∧ s 1 = .int .i64 size ∧ s 5 = .ptr 1 0 ∧ s 7 = .sliceU q 0 c 1 ∧ s 9 = .sliceU q2 0 c 1 ∧ s 11 = .int .i64 (i : Int) ∧ s 12 = .int .i64 (k : Int), sz, ⟨0, blk l sz i, rfl, by omega, hLH, ⟨hLA.base, hLA.rq, hLA.rq2, fun j hj hj2 => hLA.rf j (by omega) hj2, hLA.rg⟩, rfi, hbl, ?_, ?_, ?_, ?_, ?_, ?_, ?_⟩, ?_⟩
    · simp only [e_upd, e_putS, e_putN, e_t, e_c, Nat.reduceEqDiff, ↓reduceIte, reduceCtorEq, Nat.reduceAdd, h0]
    · simp only [e_upd, e_putS, e_putN, e_t, e_c, Nat.reduceEqDiff, ↓reduceIte, reduceCtorEq, Nat.reduceAdd, h1]
    · simp only [e_upd, e_putS, e_putN, e_t, e_c, Nat.reduceEqDiff, ↓reduceIte, reduceCtorEq, Nat.reduceAdd, h5]
    · simp only [e_upd, e_putS, e_putN, e_t, e_c, Nat.reduceEqDiff, ↓reduceIte, reduceCtorEq, Nat.reduceAdd, h7]
    · simp only [e_upd, e_putS, e_putN, e_t, e_c, Nat.reduceEqDiff, ↓reduceIte, reduceCtorEq, Nat.reduceAdd, h9]
    · simp only [e_upd, e_putS, e_putN, e_t, e_c, Nat.reduceEqDiff, ↓reduceIte, reduceCtorEq, Nat.reduceAdd, h11]
    · simp only [e_upd, e_putS, e_putN, e_t, e_c, Nat.reduceEqDiff, ↓reduceIte, reduceCtorEq, Nat.reduceAdd]; rfl
    clear hLA rq rq2 rfi rgi g1 g2 h0 h1 h5 h7 h9 h11 hLH H4 hH4 H
    rintro t s3 H ⟨k, cs, rfl, hk2, hLH, hLA, rfi, hcs, h0, h1, h5, h7, h9, h11, h12⟩
    have rq := hLA.rq hc0
    have hszc : (sz : Int) ≤ 512 := by
      have : 1 * sz ≤ c * sz := Nat.mul_le_mul_right sz hc0
      omega
    by_cases hlt2 : k < sz
    · have ic : aindexAddr 1 (.sliceU (f i) 0 sz 1) (.int .i64 (k : Int)) = some (.ptr (f i) k) := by
        rw [a_idxU (by omega) (by omega)]; simp
      have hfl := rowAt_lt rfi
      simp (disch := omega) only [sN, ↓reduceIte, Nat.reduceEqDiff, Nat.reduceAdd, Nat.reduceMul, Nat.reduceSub, reduceCtorEq, e_none, e_some, e_bindS, h0, h1, h5, h7, h9, h11, h12, alen, Option.map_some, ia, rq, cf, Option.bind_some, ic]
      rw [x_storeS (r := f i) (off := k) (k := .i64) (b := -1) (l := cs) (sk := true) (by simp only [e_upd, e_putS, e_putN, e_t, e_c, Nat.reduceEqDiff, ↓reduceIte, reduceCtorEq, Nat.reduceAdd]) (by simp only [e_upd, e_putS, e_putN, e_t, e_c, Nat.reduceEqDiff, ↓reduceIte, reduceCtorEq, Nat.reduceAdd]) rfi (by omega)]
      simp (disch := omega) only [sN, ↓reduceIte, Nat.reduceEqDiff, Nat.reduceAdd, Nat.reduceMul, Nat.reduceSub, reduceCtorEq, e_none, e_some, e_bindS, h0, h1, h5, h7, h9, h11, h12]
      have ne1 : ∀ j, j < c → f i ≠ g j := fun j hj => by have := lt1 i hlt; have := gge j hj; omega
      have ne2 : 0 < c → f i ≠ q2 := fun h => by have := lt1 i hlt; have := q2ge h; omega
      refine loop_keep (m := sz - (k + 1)) (by omega) ⟨k + 1, cs.set k (-1), rfl, by omega, by rw [List.length_set]; exact hLH, ⟨hLA.base.set (fge i hlt).1, fun h => ?_, fun h => ?_, fun j hj hj2 => ?_, fun j hj => ?_⟩, ?_, by rw [List.length_set]; exact hcs, ?_, ?_, ?_, ?_, ?_, ?_, ?_⟩
      · rw [row_other0 (fge i hlt).2]; exact hLA.rq h
      · rw [row_other0 (ne2 h)]; exact hLA.rq2 h
      · rw [row_other0 (fun e => by have := hinj i j hlt hj2 e; omega)]; exact hLA.rf j hj hj2
      · rw [row_other0 (ne1 j hj)]; exact hLA.rg j hj
      · rw [row_set0 hfl]
      · simp only [e_upd, e_putS, e_putN, e_t, e_c, Nat.reduceEqDiff, ↓reduceIte, reduceCtorEq, Nat.reduceAdd, h0]
      · simp only [e_upd, e_putS, e_putN, e_t, e_c, Nat.reduceEqDiff, ↓reduceIte, reduceCtorEq, Nat.reduceAdd, h1]
      · simp only [e_upd, e_putS, e_putN, e_t, e_c, Nat.reduceEqDiff, ↓reduceIte, reduceCtorEq, Nat.reduceAdd, h5]
      · simp only [e_upd, e_putS, e_putN, e_t, e_c, Nat.reduceEqDiff, ↓reduceIte, reduceCtorEq, Nat.reduceAdd, h7]
      · simp only [e_upd, e_putS, e_putN, e_t, e_c, Nat.reduceEqDiff, ↓reduceIte, reduceCtorEq, Nat.reduceAdd, h9]
      · simp only [e_upd, e_putS, e_putN, e_t, e_c, Nat.reduceEqDiff, ↓reduceIte, reduceCtorEq, Nat.reduceAdd, h11]
      · simp only [e_upd, e_putS, e_putN, e_t, e_c, Nat.reduceEqDiff, ↓reduceIte, reduceCtorEq, Nat.reduceAdd]; first | done | rfl
    · obtain rfl : k = sz := by omega
      simp (disch := omega) only [sN, ↓reduceIte, Nat.reduceEqDiff, Nat.reduceAdd, Nat.reduceMul, Nat.reduceSub, reduceCtorEq, e_none, e_some, e_bindS, h0, h1, h5, h7, h9, h11, h12, alen, Option.map_some, ia, rq, cf, Option.bind_some]
      refine loop_keep (m := c - (i + 1)) (by omega) ⟨i + 1, rfl, by omega, hLH, hLA, ?_, ?_, ?_, ?_, ?_, ?_⟩
      · simp only [e_upd, e_putS, e_putN, e_t, e_c, Nat.reduceEqDiff, ↓reduceIte, reduceCtorEq, Nat.reduceAdd, h0]
      · simp only [e_upd, e_putS, e_putN, e_t, e_c, Nat.reduceEqDiff, ↓reduceIte, reduceCtorEq, Nat.reduceAdd, h1]
      · simp only [e_upd, e_putS, e_putN, e_t, e_c, Nat.reduceEqDiff, ↓reduceIte, reduceCtorEq, Nat.reduceAdd, h5]
      · rw [vw hc0]; simp only [e_upd, e_putS, e_putN, e_t, e_c, Nat.reduceEqDiff, ↓reduceIte, reduceCtorEq, Nat.reduceAdd, h7]
      · rw [vw2 hc0]; simp only [e_upd, e_putS, e_putN, e_t, e_c, Nat.reduceEqDiff, ↓reduceIte, reduceCtorEq, Nat.reduceAdd, h9]
      · simp only [e_upd, e_putS, e_putN, e_t, e_c, Nat.reduceEqDiff, ↓reduceIte, reduceCtorEq, Nat.reduceAdd]; first | done | rfl
  · obtain rfl : i = c := by omega
    obtain ⟨P, hP⟩ : ∃ P : Nat, P = i * sz := ⟨_, rfl⟩
    have hPn : P ≤ n := by omega
    have hPz : i = 0 → P = 0 := fun h => by rw [hP, h, Nat.zero_mul]
    have hPmul : abin .mul (.int .i64 (i : Int)) (.int .i64 size) = some (.int .i64 (P : Int)) := by
      rcases Nat.eq_zero_or_pos i with h | h
      · simp only [abin, aint, h, hPz h]
        simp [IntKind.wrap, IntKind.signed, IntKind.bits]
      · obtain ⟨h1, h2⟩ := hsize h
        have e : (i : Int) * size = (P : Int) := by rw [h1, hP]; simp
        simp only [abin, aint, if_true, e]
        rw [wrapI (by omega) (by omega)]
    have h7' : alen w = some i := alw
    simp (disch := omega) only [sN, ↓reduceIte, Nat.reduceEqDiff, Nat.reduceAdd, Nat.reduceMul, Nat.reduceSub, reduceCtorEq, e_none, e_some, e_bindS, h0, h1, h5, h7, h9, h11, h7', Option.map_some]
    refine ⟨fun t s H => ∃ k : Nat, t = P - k ∧ k ≤ P ∧ H3.length ≤ H.length ∧ LA H1 H l sz i f q g q2 i ∧ s 0 = mkS κ 0 0 n ∧ s 1 = .int .i64 size ∧ s 5 = .ptr 1 0 ∧ s 7 = w ∧ s 9 = w2 ∧ s 13 = .int .i64 (k : Int), P, ⟨0, rfl, by omega, hLH, hLA, ?_, ?_, ?_, ?_, ?_, ?_⟩, ?_⟩
    · simp only [e_upd, e_putS, e_putN, e_t, e_c, Nat.reduceEqDiff, ↓reduceIte, reduceCtorEq, Nat.reduceAdd, h0]
    · simp only [e_upd, e_putS, e_putN, e_t, e_c, Nat.reduceEqDiff, ↓reduceIte, reduceCtorEq, Nat.reduceAdd, h1]
    · simp only [e_upd, e_putS, e_putN, e_t, e_c, Nat.reduceEqDiff, ↓reduceIte, reduceCtorEq, Nat.reduceAdd, h5]
    · simp only [e_upd, e_putS, e_putN, e_t, e_c, Nat.reduceEqDiff, ↓reduceIte, reduceCtorEq, Nat.reduceAdd, h7]
    · simp only [e_upd, e_putS, e_putN, e_t, e_c, Nat.reduceEqDiff, ↓reduceIte, reduceCtorEq, Nat.reduceAdd, h9]
    · simp only [e_upd, e_putS, e_putN, e_t, e_c, Nat.reduceEqDiff, ↓reduceIte, reduceCtorEq, Nat.reduceAdd]; rfl
    clear hLA h0 h1 h5 h7 h9 h11 hLH H s2
    rintro t s2 H ⟨k, rfl, hkP, hLH, hLA, h0, h1, h5, h7, h9, h13⟩
    by_cases hlt3 : k < P
    · have hc0 : 0 < i := by
        rcases Nat.eq_zero_or_pos i with h | h
        · have := hPz h; omega
        · exact h
      obtain ⟨hszI, hsz0⟩ := hsize hc0
      have hsz3 : sz ≤ 300 := by
        have : 1 * sz ≤ i * sz := Nat.mul_le_mul_right sz hc0
        omega
      obtain ⟨a, ha⟩ : ∃ a, a = k / sz := ⟨_, rfl⟩
      obtain ⟨b, hb⟩ : ∃ b, b = k % sz := ⟨_, rfl⟩
      have hdm : k = a * sz + b := by rw [ha, hb, Nat.mul_comm]; exact (Nat.div_add_mod k sz).symm
      have hbz : b < sz := by rw [hb]; exact Nat.mod_lt _ hsz0
      have hai : a < i := by rw [ha]; exact Nat.div_lt_of_lt_mul (by rw [Nat.mul_comm, ← hP]; exact hlt3)
      have hbound : (a + 1) * sz ≤ l.length := by
        have : (a + 1) * sz ≤ i * sz := Nat.mul_le_mul_right sz (by omega)
        omega
      have hbg := blk_get hbound hbz
      rw [← hdm] at hbg
      have hbl := blk_len hbound
      have rq2 := hLA.rq2 hc0
      have rga := hLA.rg a hai
      have cg := cell_at (f := g) (sz := sz) hai
      have r0' := hLA.base.row r0
      have gs : (ints .i64 l)[k]? = some (.int .i64 (l.getD k 0)) := ints_get (by omega)
      have gm : (ints .i64 (blk l sz a))[b]? = some (.int .i64 (l.getD k 0)) := by rw [ints_get (by omega), hbg]
      rw [vw2 hc0] at h9
      have ia : aindexAddr 1 (mkS κ 0 0 n) (.int .i64 (k : Int)) = some (.ptr 0 k) := by
        rw [k_idx hk (Nat.le_refl n) (by omega) (by omega)]; simp
      have ib : aindexAddr 1 (.sliceU q2 0 i 1) (.int .i64 (a : Int)) = some (.ptr q2 a) := by
        rw [a_idxU (by omega) (by omega)]; simp
      have ic : aindexAddr 1 (.sliceU (g a) 0 sz 1) (.int .i64 (b : Int)) = some (.ptr (g a) b) := by
        rw [a_idxU (by omega) (by omega)]; simp
      have hq : abin .quo (.int .i64 (k : Int)) (.int .i64 size) = some (.int .i64 (a : Int)) := by
        rw [hszI, b_quo (by omega) (by omega), ← Int.natCast_ediv, ← ha, wrapI (by omega) (by omega)]
      have hr : abin .rem (.int .i64 (k : Int)) (.int .i64 size) = some (.int .i64 (b : Int)) := by
        rw [hszI, b_rem (by omega) (by omega), ← Int.natCast_emod, ← hb]
      obtain ⟨y, hy⟩ : ∃ y, y = l.getD k 0 := ⟨_, rfl⟩
      rw [← hy] at gs gm
      have h9l : alen (AV.sliceU q2 0 i 1) = some i := rfl
      simp (disch := omega) only [sN, ↓reduceIte, Nat.reduceEqDiff, Nat.reduceAdd, Nat.reduceMul, Nat.reduceSub, reduceCtorEq, e_none, e_some, e_bindS, h0, h1, h5, h7, h9, h13, h7', Option.map_some, hPmul, hq, hr, ia, ib, ic, r0', gs, rq2, cg, rga, gm, Option.bind_some]
      refine loop_keep (m := P - (k + 1)) (by omega) ⟨k + 1, rfl, by omega, hLH, hLA, ?_, ?_, ?_, ?_, ?_, ?_⟩
      · simp only [e_upd, e_putS, e_putN, e_t, e_c, Nat.reduceEqDiff, ↓reduceIte, reduceCtorEq, Nat.reduceAdd, h0]
      · simp only [e_upd, e_putS, e_putN, e_t, e_c, Nat.reduceEqDiff, ↓reduceIte, reduceCtorEq, Nat.reduceAdd, h1]
      · simp only [e_upd, e_putS, e_putN, e_t, e_c, Nat.reduceEqDiff, ↓reduceIte, reduceCtorEq, Nat.reduceAdd, h5]
      · simp only [e_upd, e_putS, e_putN, e_t, e_c, Nat.reduceEqDiff, ↓reduceIte, reduceCtorEq, Nat.reduceAdd, h7]
      · rw [vw2 hc0]; simp only [e_upd, e_putS, e_putN, e_t, e_c, Nat.reduceEqDiff, ↓reduceIte, reduceCtorEq, Nat.reduceAdd, h9]
      · simp only [e_upd, e_putS, e_putN, e_t, e_c, Nat.reduceEqDiff, ↓reduceIte, reduceCtorEq, Nat.reduceAdd]; first | done | rfl
    · obtain rfl : k = P := by omega
      have r1' := hLA.base.row r1
      have hLL := hLA.base.1
      simp (disch := omega) only [sN, ↓reduceIte, Nat.reduceEqDiff, Nat.reduceAdd, Nat.reduceMul, Nat.reduceSub, reduceCtorEq, e_none, e_some, e_bindS, h0, h1, h5, h7, h9, h13, h7', Option.map_some, hPmul, p_fieldAddr, Nat.zero_add, r1', Option.bind_some, List.getElem?_cons_zero, List.getElem?_cons_succ, List.map_cons, List.map_nil]
      refine ⟨_, (hS H).g.mono ?_⟩
      rintro v H5 ⟨u1, u2, rfl, hB5, v1, v2⟩
      have r1'' := hB5.row r1'
      simp (disch := omega) only [sN, ↓reduceIte, Nat.reduceEqDiff, Nat.reduceAdd, Nat.reduceMul, Nat.reduceSub, reduceCtorEq, e_none, e_some, e_bindS, h0, h1, h5, h7, h9, h13, Option.map_some, p_fieldAddr, Nat.zero_add, r1'', Option.bind_some, List.getElem?_cons_zero, List.getElem?_cons_succ, List.map_cons, List.map_nil]
      refine ⟨_, (hR H5).g.mono ?_⟩
      rintro v H6 ⟨u3, u4, rfl, hB6, v3, v4⟩
      simp (disch := omega) only [sN, ↓reduceIte, Nat.reduceEqDiff, Nat.reduceAdd, Nat.reduceMul, Nat.reduceSub, reduceCtorEq, e_none, e_some, e_bindS, h0, h1, h5, h7, h9, h13, Option.map_some, List.getElem?_cons_zero, List.getElem?_cons_succ, List.map_cons, List.map_nil]
      refine ⟨_, (ints2_calls H6 (v1.base hB6) v3 hxs).g.mono ?_⟩
      rintro v H7 ⟨rfl, hH7⟩
      rw [hH7]
      simp (disch := omega) only [sN, ↓reduceIte, Nat.reduceEqDiff, Nat.reduceAdd, Nat.reduceMul, Nat.reduceSub, reduceCtorEq, e_none, e_some, e_bindS, List.map_cons, List.map_nil]
      refine ⟨_, (ints2_calls H6 (v2.base hB6) v4 hys).g.mono ?_⟩
      rintro v H8 ⟨rfl, hH8⟩
      rw [hH8]
      simp (disch := omega) only [sN, ↓reduceIte, Nat.reduceEqDiff, Nat.reduceAdd, Nat.reduceMul, Nat.reduceSub, reduceCtorEq, e_none, e_some, e_bindS, List.map_nil]
      refine call_true6 hw fun H' => ?_
      simp (disch := omega) only [sN, ↓reduceIte, Nat.reduceEqDiff, Nat.reduceAdd, Nat.reduceMul, Nat.reduceSub, reduceCtorEq, e_none, e_some, e_bindS]
      have h56 := hB5.1
      have h66 := hB6.1
      refine ret_keep (by rw [List.length_append]; omega) ?_
      simp only [q_tmp, q_then, rs_lawBlo, e_upd, e_putS, e_putN, e_t, e_c, Nat.reduceEqDiff, ↓reduceIte, reduceCtorEq, Nat.reduceAdd]

set_option maxHeartbeats 4000000 in
theorem lawBlo_calls {Ww : List Nat} (hw : ACalls Try.prog 11 [] [] Ww fun v _ => v = .bool true) (κ : SK) (n : Nat) (l : List Int) (size N K sd : Int) (hk : okS κ n) (hu : κ ≠ .u) (hl : l.length = n) (hn : n ≤ maxLen)
    (E : Int) (xs ys : List Int) (hxs : xs.length ≤ 100000) (hys : ys.length ≤ 100000)
    (hS : (N ≤ 300 ∨ N > 512) → ∀ H, ACalls Try.prog 37 [.int .i64 N, .int .i64 K, .int .u64 sd] H (List.range H.length) fun v H' => ∃ w w', v = .tuple [w, w', .int .i64 E] ∧ Base H H' ∧ Vi H' w xs ∧ Vi H' w' ys)
    (hR : (N ≤ 300 ∨ N > 512) → ∀ H, ACalls Try.prog 38 [.int .i64 N, .int .i64 K, .int .u64 sd] H (List.range H.length) fun v H' => ∃ w w', v = .tuple [w, w', .int .i64 E] ∧ Base H H' ∧ Vi H' w xs ∧ Vi H' w' ys) :
    ACalls Try.prog 9 [mkS κ 0 0 n, .int .i64 size, .agg [.int .i64 N, .int .i64 K, .int .u64 sd]] [ro (ints .i64 l)] (List.range 1) fun v _ => v = .bool true := by
  refine ACalls.body Try.func9 ent_lawBlo ir_lawBlo_ok rs_lawBlo_ok Try.ntmps9 (by simp) rfl ?_
  unfold ir_lawBlo
  have e0 : s0 [mkS κ 0 0 n, .int .i64 size, .agg [.int .i64 N, .int .i64 K, .int .u64 sd]] 0 = mkS κ 0 0 n := rfl
  have e1 : s0 [mkS κ 0 0 n, .int .i64 size, .agg [.int .i64 N, .int .i64 K, .int .u64 sd]] 1 = .int .i64 size := rfl
  have e2 : s0 [mkS κ 0 0 n, .int .i64 size, .agg [.int .i64 N, .int .i64 K, .int .u64 sd]] 2 = .agg [.int .i64 N, .int .i64 K, .int .u64 sd] := rfl
  have hn' : (n : Int) ≤ 9223372036854775807 := by unfold maxLen at hn; omega
  obtain ⟨B, hB⟩ : ∃ b, b = ir_lawBloB := ⟨_, rfl⟩
  rw [← hB]
  simp (disch := omega) only [sN, ↓reduceIte, Nat.reduceEqDiff, Nat.reduceAdd, Nat.reduceMul, Nat.reduceSub, reduceCtorEq, e_none, e_some, e_bindS, e0, e1, e2]
  rw [x_boxN (l := [.int .i64 N, .int .i64 K, .int .u64 sd]) (by simp only [e_upd, e_putS, e_putN, e_t, e_c, Nat.reduceEqDiff, ↓reduceIte, reduceCtorEq, Nat.reduceAdd, e2]) rfl]
  obtain ⟨H1, hH1⟩ : ∃ h, h = [ro (ints .i64 l)] ++ [rw_ [.int .i64 N, .int .i64 K, .int .u64 sd]] := ⟨_, rfl⟩
  have r0 : Vh.rowAt H1 0 = some ⟨false, false, ints .i64 l⟩ := by rw [hH1]; simp [Vh.rowAt, ro]
  have r1 : Vh.rowAt H1 1 = some ⟨true, false, [.int .i64 N, .int .i64 K, .int .u64 sd]⟩ := by rw [hH1]; simp [Vh.rowAt, ro, rw_]
  have hlen : 2 ≤ H1.length := by rw [hH1]; simp
  rw [← hH1, show ([ro (ints .i64 l)] : AHeap).length = 1 from rfl]
  by_cases hb : n ≤ 300
  case neg =>
    simp (disch := omega) only [sN, ↓reduceIte, Nat.reduceEqDiff, Nat.reduceAdd, Nat.reduceMul, Nat.reduceSub, reduceCtorEq, e_none, e_some, e_bindS, e0, e1, e2, k_len hk, List.map_nil]
    refine call_true6 hw fun H' => ?_
    simp (disch := omega) only [sN, ↓reduceIte, Nat.reduceEqDiff, Nat.reduceAdd, Nat.reduceMul, Nat.reduceSub, reduceCtorEq, e_none, e_some, e_bindS]
    refine ret_keep (by rw [List.length_append]; omega) ?_
    simp only [q_tmp, q_then, rs_lawBlo, e_upd, e_putS, e_putN, e_t, e_c, Nat.reduceEqDiff, ↓reduceIte, reduceCtorEq, Nat.reduceAdd]
  by_cases hN : N ≤ 300
  · simp (disch := omega) only [sN, ↓reduceIte, Nat.reduceEqDiff, Nat.reduceAdd, Nat.reduceMul, Nat.reduceSub, reduceCtorEq, e_none, e_some, e_bindS, e0, e1, e2, k_len hk, p_fieldAddr, Nat.zero_add, r1, Option.bind_some, Option.map_some, List.getElem?_cons_zero, List.map_nil]
    rw [hB]
    refine lawBlo_rest hw κ n l size N K sd hk hu hl hb E xs ys hxs hys (hS (.inl hN)) (hR (.inl hN)) hlen r0 r1 ?_ ?_ ?_
    · simp only [e_upd, e_putS, e_putN, e_t, e_c, Nat.reduceEqDiff, ↓reduceIte, reduceCtorEq, Nat.reduceAdd, e0]
    · simp only [e_upd, e_putS, e_putN, e_t, e_c, Nat.reduceEqDiff, ↓reduceIte, reduceCtorEq, Nat.reduceAdd, e1]
    · simp only [e_upd, e_putS, e_putN, e_t, e_c, Nat.reduceEqDiff, ↓reduceIte, reduceCtorEq, Nat.reduceAdd]
  by_cases hN2 : N ≤ 512
  · simp (disch := omega) only [sN, ↓reduceIte, Nat.reduceEqDiff, Nat.reduceAdd, Nat.reduceMul, Nat.reduceSub, reduceCtorEq, e_none, e_some, e_bindS, e0, e1, e2, k_len hk, p_fieldAddr, Nat.zero_add, r1, Option.bind_some, Option.map_some, List.getElem?_cons_zero, List.map_nil]
    refine call_true6 hw fun H' => ?_
    simp (disch := omega) only [sN, ↓reduceIte, Nat.reduceEqDiff, Nat.reduceAdd, Nat.reduceMul, Nat.reduceSub, reduceCtorEq, e_none, e_some, e_bindS]
    refine ret_keep (by rw [List.length_append]; omega) ?_
    simp only [q_tmp, q_then, rs_lawBlo, e_upd, e_putS, e_putN, e_t, e_c, Nat.reduceEqDiff, ↓reduceIte, reduceCtorEq, Nat.reduceAdd]
  · simp (disch := omega) only [sN, ↓reduceIte, Nat.reduceEqDiff, Nat.reduceAdd, Nat.reduceMul, Nat.reduceSub, reduceCtorEq, e_none, e_some, e_bindS, e0, e1, e2, k_len hk, p_fieldAddr, Nat.zero_add, r1, Option.bind_some, Option.map_some, List.getElem?_cons_zero, List.map_nil]
    rw [hB]
    refine lawBlo_rest hw κ n l size N K sd hk hu hl hb E xs ys hxs hys (hS (.inr (by omega))) (hR (.inr (by omega))) hlen r0 r1 ?_ ?_ ?_
    · simp only [e_upd, e_putS, e_putN, e_t, e_c, Nat.reduceEqDiff, ↓reduceIte, reduceCtorEq, Nat.reduceAdd, e0]
    · simp only [e_upd, e_putS, e_putN, e_t, e_c, Nat.reduceEqDiff, ↓reduceIte, reduceCtorEq, Nat.reduceAdd, e1]
    · simp only [e_upd, e_putS, e_putN, e_t, e_c, Nat.reduceEqDiff, ↓reduceIte, reduceCtorEq, Nat.reduceAdd]
end Go.Proofs.Ythbhljolpnbdlaa


/- Contracts of stage 4: samples. -/
-- NEWSET
namespace Go.Proofs.Ythbhljolpnbdlaa
open Go Go.Vh

theorem q_tmp3 {s : St} {H : AHeap} {a b c : Nat} : ares s H [.tmp a, .tmp b, .tmp c] = some (.tuple [s a, s b, s c]) := rfl
def smE (N K : Int) : Int := if (0 ≤ N ∧ N ≤ 512) ∧ 0 ≤ K ∧ K ≤ N then 0 else 3
def smX (N K : Int) (st : Nat) : List Int := if smE N K = 0 then S2.smp N.toNat K.toNat st else []
def outF (xs : List Int) (i : Nat) : Bool := !decide ((i : Int) ∈ xs)
def smY (N K : Int) (st : Nat) : List Int := if smE N K = 0 then trL (outF (smX N K st)) N.toNat else []
theorem smX_incr {n k st : Nat} (h : k ≤ n) : (S2.smp n k st).Pairwise (· < ·) := by
  rw [List.pairwise_iff_getElem]
  have hl := S2.smp_length (st := st) h
  have step : ∀ d i, i + d + 1 < k → (S2.smp n k st).getD i 0 < (S2.smp n k st).getD (i + d + 1) 0 := by
    intro d
    induction d with
    | zero => intro i hi; exact S2.smp_lt h hi
    | succ d ih =>
      intro i hi
      have h1 := ih i (by omega)
      have h2 := S2.smp_lt (st := st) h (i := i + d + 1) (by omega)
      exact Int.lt_trans h1 h2
  intro i j hi hj hij
  have := step (j - i - 1) i (by omega)
  rw [show i + (j - i - 1) + 1 = j by omega] at this
  rw [List.getD_eq_getElem?_getD, List.getElem?_eq_getElem hi, List.getD_eq_getElem?_getD, List.getElem?_eq_getElem hj] at this
  exact this
theorem smX_len {N K : Int} {st : Nat} (h : N ≤ 512) : (smX N K st).length ≤ 512 := by
  unfold smX
  split
  · rename_i he
    unfold smE at he
    split at he
    · rename_i h1
      rw [S2.smp_length (by omega)]; omega
    · omega
  · simp

theorem smX_len2 {N K : Int} {st : Nat} : (smX N K st).length ≤ 512 := by
  by_cases h : N ≤ 512
  · exact smX_len h
  · unfold smX
    rw [if_neg (by unfold smE; rw [if_neg (by omega)]; decide)]
    simp
theorem smY_len2 {N K : Int} {st : Nat} : (smY N K st).length ≤ 512 := by
  unfold smY
  split
  · rename_i he
    have hN : N ≤ 512 := by
      unfold smE at he
      split at he
      · rename_i h1; exact h1.1.2
      · omega
    have := trL_len (f := outF (smX N K st)) N.toNat
    omega
  · simp

set_option maxHeartbeats 2000000 in
theorem sample_calls (H0 : AHeap) (N K : Int) (st : Nat) (hN : -9223372036854775808 ≤ N ∧ N ≤ 9223372036854775807) (hK : -9223372036854775808 ≤ K ∧ K ≤ 9223372036854775807) :
    ACalls Try.prog 37 [.int .i64 N, .int .i64 K, .int .u64 (st : Int)] H0 (List.range H0.length) fun v H => ∃ w w', v = .tuple [w, w', .int .i64 (smE N K)] ∧ Base H0 H ∧ Vi H w (smX N K st) ∧ Vi H w' (smY N K st) := by
  refine ACalls.body Try.func37 ent_sample ir_sample_ok rs_sample_ok Try.ntmps37 (by simp) rfl ?_
  unfold ir_sample
  have e0 : s0 [.int .i64 N, .int .i64 K, .int .u64 (st : Int)] 0 = .int .i64 N := rfl
  have e1 : s0 [.int .i64 N, .int .i64 K, .int .u64 (st : Int)] 1 = .int .i64 K := rfl
  have e2 : s0 [.int .i64 N, .int .i64 K, .int .u64 (st : Int)] 2 = .int .u64 (st : Int) := rfl
  have fin : ∀ H, Base H0 H → smE N K = 3 → ∃ w w', AV.tuple [.nilslice, .nilslice, .int .i64 3] = .tuple [w, w', .int .i64 (smE N K)] ∧ Base H0 H ∧ Vi H w (smX N K st) ∧ Vi H w' (smY N K st) := fun H hB h => by
    refine ⟨.nilslice, .nilslice, by rw [h], hB, ?_, ?_⟩
    · unfold smX; rw [if_neg (by rw [h]; decide)]; exact ⟨.nil, 0, rfl, rfl, fun h => by simp at h⟩
    · unfold smY; rw [if_neg (by rw [h]; decide)]; exact ⟨.nil, 0, rfl, rfl, fun h => by simp at h⟩
  simp (disch := omega) only [sN, ↓reduceIte, Nat.reduceEqDiff, Nat.reduceAdd, Nat.reduceMul, Nat.reduceSub, reduceCtorEq, e_none, e_some, e_bindS, e0, e1, e2, List.map_cons, List.map_nil]
  refine ⟨_, (checkCount_calls H0 N 512).g.mono ?_⟩
  rintro v H1 ⟨rfl, hH1⟩
  rw [hH1]
  by_cases hn : 0 ≤ N ∧ N ≤ 512
  case neg =>
    rw [if_neg hn]
    simp (disch := omega) only [sN, ↓reduceIte, Nat.reduceEqDiff, Nat.reduceAdd, Nat.reduceMul, Nat.reduceSub, reduceCtorEq, e_none, e_some, e_bindS, e0, e1, e2]
    refine ret_keep (by simp) ?_
    rw [show rs_sample = [.tmp 6, .tmp 7, .tmp 8] from rfl, q_tmp3, q_then]
    simp only [e_upd, e_putS, e_putN, e_t, e_c, Nat.reduceEqDiff, ↓reduceIte, reduceCtorEq, Nat.reduceAdd]
    exact fin H0 Base.refl (by unfold smE; rw [if_neg (fun h => hn h.1)])
  rw [if_pos hn]
  simp (disch := omega) only [sN, ↓reduceIte, Nat.reduceEqDiff, Nat.reduceAdd, Nat.reduceMul, Nat.reduceSub, reduceCtorEq, e_none, e_some, e_bindS, e0, e1, e2, List.map_cons, List.map_nil]
  refine call_do (σ := []) (S2.dNew_calls st) rfl rfl rfl rfl trivial fun v0 H0' ⟨h1, h2⟩ => ?_
  subst h1; subst h2
  rw [show merge H0 [] [] [S2.dr 0 st] = H0 ++ [S2.dr H0.length st] from by
    rw [m_merge, m_nil]
    simp [S2.dr, renRow, renL, AV.ren, sig]]
  rw [show (AV.ptr 0 0).ren (sig [] H0.length) = .ptr H0.length 0 from by simp [AV.ren, sig]]
  obtain ⟨n, rfl⟩ : ∃ n : Nat, N = (n : Int) := ⟨N.toNat, by omega⟩
  have hr : Vh.rowAt (H0 ++ [S2.dr H0.length st]) H0.length = S2.dr H0.length st := by simp [Vh.rowAt]
  simp (disch := omega) only [sN, ↓reduceIte, Nat.reduceEqDiff, Nat.reduceAdd, Nat.reduceMul, Nat.reduceSub, reduceCtorEq, e_none, e_some, e_bindS, e0, e1, e2, List.map_cons, List.map_nil]
  by_cases hk : 0 ≤ K ∧ K ≤ n
  case neg =>
    refine S2.call_drG (r := H0.length) (st := st) (S2.dSampleNo_calls st (n : Int) K hN.1 hN.2 hK.1 hK.2 (by omega)) rfl hr (by simp [renL, AV.ren, sig]) ?_ (fun v H' h => ⟨_, _, h.2⟩)
    rintro v0 st2 new ⟨rfl, h2⟩
    have hnew : new = [] := by simpa using (List.cons.inj h2).2
    subst hnew
    rw [show (AV.tuple [AV.nilslice, AV.int .i64 3]).ren (sig [(H0.length, 0)] (H0 ++ [S2.dr H0.length st]).length) = .tuple [.nilslice, .int .i64 3] from by simp [AV.ren, renL]]
    obtain ⟨H2, hH2⟩ : ∃ h, h = (H0 ++ [S2.dr H0.length st]).set H0.length (S2.dr H0.length st2) ++ List.map (renRow (sig [(H0.length, 0)] (H0 ++ [S2.dr H0.length st]).length)) [] := ⟨_, rfl⟩
    have hB2 : Base H0 H2 := by rw [hH2]; exact (Base.one.set (Nat.le_refl _)).app
    rw [← hH2]
    simp (disch := omega) only [sN, ↓reduceIte, Nat.reduceEqDiff, Nat.reduceAdd, Nat.reduceMul, Nat.reduceSub, reduceCtorEq, e_none, e_some, e_bindS, e0, e1, e2, List.getElem?_cons_zero, List.getElem?_cons_succ]
    refine ret_keep hB2.1 ?_
    rw [show rs_sample = [.tmp 6, .tmp 7, .tmp 8] from rfl, q_tmp3, q_then]
    simp only [e_upd, e_putS, e_putN, e_t, e_c, Nat.reduceEqDiff, ↓reduceIte, reduceCtorEq, Nat.reduceAdd]
    exact fin H2 hB2 (by unfold smE; rw [if_neg (fun h => hk h.2)])
  obtain ⟨k, rfl⟩ : ∃ k : Nat, K = (k : Int) := ⟨K.toNat, by omega⟩
  have hkn : k ≤ n := by omega
  have hE : smE n k = 0 := by unfold smE; rw [if_pos ⟨hn, hk⟩]
  have hX : smX n k st = S2.smp n k st := by unfold smX; rw [if_pos hE]; simp
  have hY : smY n k st = trL (outF (S2.smp n k st)) n := by unfold smY; rw [if_pos hE, hX]; simp
  rw [hE, hX, hY]
  have hinc := smX_incr (st := st) hkn
  have hxl := S2.smp_length (st := st) hkn
  clear fin hE hX hY
  refine S2.call_drG (r := H0.length) (st := st) (S2.dSample_calls st n k (by omega) hkn) rfl hr (by simp [renL, AV.ren, sig]) ?_ (fun v H' ⟨_, _, _, _, h⟩ => ⟨_, _, h⟩)
  rintro v0 st2 new ⟨κ, b, hok, rfl, h2⟩
  obtain ⟨X, hXX⟩ : ∃ x, x = S2.smp n k st := ⟨_, rfl⟩
  have hnew : new = [some ⟨true, b, ints .i64 X⟩] := by rw [hXX]; exact (List.cons.inj h2).2
  subst hnew
  rw [← hXX] at hinc hxl ⊢
  clear h2 hXX
  obtain ⟨H2, hH2⟩ : ∃ h, h = (H0 ++ [S2.dr H0.length st]).set H0.length (S2.dr H0.length st2) ++ List.map (renRow (sig [(H0.length, 0)] (H0 ++ [S2.dr H0.length st]).length)) [some ⟨true, b, ints .i64 X⟩] := ⟨_, rfl⟩
  have hB2 : Base H0 H2 := by rw [hH2]; exact (Base.one.set (Nat.le_refl _)).app
  have rX : Vh.rowAt H2 (H0.length + 1) = some ⟨true, b, ints .i64 X⟩ := by
    rw [hH2]
    simp only [List.map_cons, List.map_nil, m_renSomeRw, ints_ren]
    simp [Vh.rowAt]
  rw [← hH2]
  rw [n_tuple, n_lcons, n_lcons, n_lnil, n_int, n_mkS (r' := H0.length + 1) (d := 0) (by simp [sig])]
  clear hH2
  have hvi : Vi H2 (mkS κ (H0.length + 1) 0 k) X := ⟨κ, H0.length + 1, by rw [hxl]; exact hok, by rw [hxl], fun _ => ⟨_, rX, rfl⟩⟩
  simp (disch := omega) only [sN, ↓reduceIte, Nat.reduceEqDiff, Nat.reduceAdd, Nat.reduceMul, Nat.reduceSub, reduceCtorEq, e_none, e_some, e_bindS, e0, e1, e2, List.getElem?_cons_zero, List.getElem?_cons_succ]
  refine ⟨fun t s H => ∃ i : Nat, t = n - i ∧ i ≤ n ∧ Base H2 H ∧ Gs H2 H (s 12) (trL (outF X) i) ∧ s 10 = mkS κ (H0.length + 1) 0 k ∧ s 32 = .int .i64 n ∧ s 33 = .int .i64 (i : Int), n, ⟨0, rfl, by omega, Base.refl, .inl ⟨rfl, ?_⟩, ?_, ?_, ?_⟩, ?_⟩
  · simp only [e_upd, e_putS, e_putN, e_t, e_c, Nat.reduceEqDiff, ↓reduceIte, reduceCtorEq, Nat.reduceAdd]
  · simp only [e_upd, e_putS, e_putN, e_t, e_c, Nat.reduceEqDiff, ↓reduceIte, reduceCtorEq, Nat.reduceAdd]; first | done | rfl
  · simp only [e_upd, e_putS, e_putN, e_t, e_c, Nat.reduceEqDiff, ↓reduceIte, reduceCtorEq, Nat.reduceAdd]
  · simp only [e_upd, e_putS, e_putN, e_t, e_c, Nat.reduceEqDiff, ↓reduceIte, reduceCtorEq, Nat.reduceAdd]; first | done | rfl
  rintro t s H ⟨i, rfl, hi, hB, hg, h10, h32, h33⟩
  by_cases hlt : i < n
  · have hst : trL (outF X) (i + 1) = trL (outF X) i ++ (if outF X i then [(i : Int)] else []) := rfl
    have hln := trL_len (f := outF X) i
    have hof : outF X i = !decide ((i : Int) ∈ X) := rfl
    simp (disch := omega) only [sN, ↓reduceIte, Nat.reduceEqDiff, Nat.reduceAdd, Nat.reduceMul, Nat.reduceSub, reduceCtorEq, e_none, e_some, e_bindS, h10, h32, h33, List.map_cons, List.map_nil]
    refine ⟨_, (bsearch_calls H (x := (i : Int)) (hvi.base hB) hinc (by omega)).g.mono ?_⟩
    rintro v H6 ⟨⟨z, rfl⟩, hH6⟩
    rw [hH6]
    cases hmem : decide ((i : Int) ∈ X)
    · rw [hmem] at hof
      rw [hof] at hst
      obtain ⟨v', H'', ea, eg, eb⟩ := x_appGs (H0 := H2) (H := H ++ [rw_ [.int .i64 (i : Int)]]) (a := (i : Int)) (r := H.length) (c := 1) (row := ⟨true, false, [.int .i64 (i : Int)]⟩) (hg.base Base.one) (by simp [Vh.rowAt, rw_]) rfl (by omega) hB.app
      simp (disch := omega) only [sN, ↓reduceIte, Nat.reduceEqDiff, Nat.reduceAdd, Nat.reduceMul, Nat.reduceSub, reduceCtorEq, e_none, e_some, e_bindS, h10, h32, h33, List.getElem?_cons_zero, List.getElem?_cons_succ]
      rw [x_bs1 (v := .int .i64 (i : Int)) (by simp only [e_upd, e_putS, e_putN, e_t, e_c, Nat.reduceEqDiff, ↓reduceIte, reduceCtorEq, Nat.reduceAdd]) rfl]
      simp (disch := omega) only [sN, ↓reduceIte, Nat.reduceEqDiff, Nat.reduceAdd, Nat.reduceMul, Nat.reduceSub, reduceCtorEq, e_none, e_some, e_bindS, h10, h32, h33]
      rw [ea _ _ _ (by simp only [e_upd, e_putS, e_putN, e_t, e_c, Nat.reduceEqDiff, ↓reduceIte, reduceCtorEq, Nat.reduceAdd]) (by simp only [e_upd, e_putS, e_putN, e_t, e_c, Nat.reduceEqDiff, ↓reduceIte, reduceCtorEq, Nat.reduceAdd])]
      simp (disch := omega) only [sN, ↓reduceIte, Nat.reduceEqDiff, Nat.reduceAdd, Nat.reduceMul, Nat.reduceSub, reduceCtorEq, e_none, e_some, e_bindS, h10, h32, h33]
      refine loop_keep (m := n - (i + 1)) (by omega) ⟨i + 1, rfl, by omega, eb.1, ?_, ?_, ?_, ?_⟩
      · rw [hst]; simp only [e_upd, e_putS, e_putN, e_t, e_c, Nat.reduceEqDiff, ↓reduceIte, reduceCtorEq, Nat.reduceAdd]; simpa using eg
      · simp only [e_upd, e_putS, e_putN, e_t, e_c, Nat.reduceEqDiff, ↓reduceIte, reduceCtorEq, Nat.reduceAdd, h10]
      · simp only [e_upd, e_putS, e_putN, e_t, e_c, Nat.reduceEqDiff, ↓reduceIte, reduceCtorEq, Nat.reduceAdd, h32]
      · simp only [e_upd, e_putS, e_putN, e_t, e_c, Nat.reduceEqDiff, ↓reduceIte, reduceCtorEq, Nat.reduceAdd]; first | done | rfl
    · rw [hmem] at hof
      rw [hof] at hst
      simp (disch := omega) only [sN, ↓reduceIte, Nat.reduceEqDiff, Nat.reduceAdd, Nat.reduceMul, Nat.reduceSub, reduceCtorEq, e_none, e_some, e_bindS, h10, h32, h33, List.getElem?_cons_zero, List.getElem?_cons_succ]
      refine loop_keep (m := n - (i + 1)) (by omega) ⟨i + 1, rfl, by omega, hB, ?_, ?_, ?_, ?_⟩
      · rw [hst]; simp only [e_upd, e_putS, e_putN, e_t, e_c, Nat.reduceEqDiff, ↓reduceIte, reduceCtorEq, Nat.reduceAdd]; simpa using hg
      · simp only [e_upd, e_putS, e_putN, e_t, e_c, Nat.reduceEqDiff, ↓reduceIte, reduceCtorEq, Nat.reduceAdd, h10]
      · simp only [e_upd, e_putS, e_putN, e_t, e_c, Nat.reduceEqDiff, ↓reduceIte, reduceCtorEq, Nat.reduceAdd, h32]
      · simp only [e_upd, e_putS, e_putN, e_t, e_c, Nat.reduceEqDiff, ↓reduceIte, reduceCtorEq, Nat.reduceAdd]; first | done | rfl
  · obtain rfl : i = n := by omega
    simp (disch := omega) only [sN, ↓reduceIte, Nat.reduceEqDiff, Nat.reduceAdd, Nat.reduceMul, Nat.reduceSub, reduceCtorEq, e_none, e_some, e_bindS, h10, h32, h33]
    refine ret_keep (Nat.le_trans hB2.1 hB.1) ?_
    rw [show rs_sample = [.tmp 6, .tmp 7, .tmp 8] from rfl, q_tmp3, q_then]
    refine ⟨mkS κ (H0.length + 1) 0 k, s 12, ?_, hB2.trans hB, hvi.base hB, hg.vi⟩
    simp only [e_upd, e_putS, e_putN, e_t, e_c, Nat.reduceEqDiff, ↓reduceIte, reduceCtorEq, Nat.reduceAdd]

theorem p_eqI {a b : Int} (h : a = b) : abin .eql (.int .i64 a) (.int .i64 b) = some (.bool true) := by subst h; simp [abin, aint]
theorem p_neI {a b : Int} (h : a ≠ b) : abin .eql (.int .i64 a) (.int .i64 b) = some (.bool false) := by simp [abin, aint, h]

set_option maxHeartbeats 2000000 in
theorem rSample_calls (H0 : AHeap) (N K : Int) (st : Nat) :
    ACalls Try.prog 38 [.int .i64 N, .int .i64 K, .int .u64 (st : Int)] H0 (List.range H0.length) fun v H => ∃ w w', v = .tuple [w, w', .int .i64 (smE N K)] ∧ Base H0 H ∧ Vi H w (smX N K st) ∧ Vi H w' (smY N K st) := by
  refine ACalls.body Try.func38 ent_rSample ir_rSample_ok rs_rSample_ok Try.ntmps38 (by simp) rfl ?_
  unfold ir_rSample
  have e0 : s0 [.int .i64 N, .int .i64 K, .int .u64 (st : Int)] 0 = .int .i64 N := rfl
  have e1 : s0 [.int .i64 N, .int .i64 K, .int .u64 (st : Int)] 1 = .int .i64 K := rfl
  have e2 : s0 [.int .i64 N, .int .i64 K, .int .u64 (st : Int)] 2 = .int .u64 (st : Int) := rfl
  have fin : smE N K = 3 → ∃ w w', AV.tuple [.nilslice, .nilslice, .int .i64 3] = .tuple [w, w', .int .i64 (smE N K)] ∧ Base H0 H0 ∧ Vi H0 w (smX N K st) ∧ Vi H0 w' (smY N K st) := fun h => by
    refine ⟨.nilslice, .nilslice, by rw [h], Base.refl, ?_, ?_⟩
    · unfold smX; rw [if_neg (by rw [h]; decide)]; exact ⟨.nil, 0, rfl, rfl, fun h => by simp at h⟩
    · unfold smY; rw [if_neg (by rw [h]; decide)]; exact ⟨.nil, 0, rfl, rfl, fun h => by simp at h⟩
  simp (disch := omega) only [sN, ↓reduceIte, Nat.reduceEqDiff, Nat.reduceAdd, Nat.reduceMul, Nat.reduceSub, reduceCtorEq, e_none, e_some, e_bindS, e0, e1, e2, List.map_cons, List.map_nil]
  refine ⟨_, (rWithin_calls H0 N 512).g.mono ?_⟩
  rintro v H1 ⟨rfl, hH1⟩
  rw [hH1]
  by_cases hn : 0 ≤ N ∧ N ≤ 512
  case neg =>
    rw [decide_eq_false hn]
    simp (disch := omega) only [sN, ↓reduceIte, Nat.reduceEqDiff, Nat.reduceAdd, Nat.reduceMul, Nat.reduceSub, reduceCtorEq, e_none, e_some, e_bindS, e0, e1, e2]
    refine ret_keep (by simp) ?_
    rw [show rs_rSample = [.tmp 6, .tmp 7, .tmp 8] from rfl, q_tmp3, q_then]
    simp only [e_upd, e_putS, e_putN, e_t, e_c, Nat.reduceEqDiff, ↓reduceIte, reduceCtorEq, Nat.reduceAdd]
    exact fin (by unfold smE; rw [if_neg (fun h => hn h.1)])
  rw [decide_eq_true hn]
  simp (disch := omega) only [sN, ↓reduceIte, Nat.reduceEqDiff, Nat.reduceAdd, Nat.reduceMul, Nat.reduceSub, reduceCtorEq, e_none, e_some, e_bindS, e0, e1, e2, List.map_cons, List.map_nil]
  refine ⟨_, (rWithin_calls H0 K N).g.mono ?_⟩
  rintro v H1 ⟨rfl, hH1⟩
  rw [hH1]
  by_cases hk : 0 ≤ K ∧ K ≤ N
  case neg =>
    rw [decide_eq_false hk]
    simp (disch := omega) only [sN, ↓reduceIte, Nat.reduceEqDiff, Nat.reduceAdd, Nat.reduceMul, Nat.reduceSub, reduceCtorEq, e_none, e_some, e_bindS, e0, e1, e2]
    refine ret_keep (by simp) ?_
    rw [show rs_rSample = [.tmp 6, .tmp 7, .tmp 8] from rfl, q_tmp3, q_then]
    simp only [e_upd, e_putS, e_putN, e_t, e_c, Nat.reduceEqDiff, ↓reduceIte, reduceCtorEq, Nat.reduceAdd]
    exact fin (by unfold smE; rw [if_neg (fun h => hk h.2)])
  rw [decide_eq_true hk]
  obtain ⟨n, rfl⟩ : ∃ n : Nat, N = (n : Int) := ⟨N.toNat, by omega⟩
  obtain ⟨k, rfl⟩ : ∃ k : Nat, K = (k : Int) := ⟨K.toNat, by omega⟩
  have hkn : k ≤ n := by omega
  have hE : smE n k = 0 := by unfold smE; rw [if_pos ⟨hn, hk⟩]
  have hX : smX n k st = S2.smp n k st := by unfold smX; rw [if_pos hE]; simp
  have hY : smY n k st = trL (outF (S2.smp n k st)) n := by unfold smY; rw [if_pos hE, hX]; simp
  rw [hE, hX, hY]
  have hxl := S2.smp_length (st := st) hkn
  clear fin hE hX hY
  simp (disch := omega) only [sN, ↓reduceIte, Nat.reduceEqDiff, Nat.reduceAdd, Nat.reduceMul, Nat.reduceSub, reduceCtorEq, e_none, e_some, e_bindS, e0, e1, e2, List.map_cons, List.map_nil]
  refine call_fr (S2.rSample_calls st n k (by omega) hkn) rfl rfl ?_
  rintro v new ⟨κ, b, hok, rfl, rfl⟩
  obtain ⟨X, hXX⟩ : ∃ x, x = S2.smp n k st := ⟨_, rfl⟩
  rw [← hXX] at hxl ⊢
  clear hXX
  simp only [List.map_cons, List.map_nil, m_renSomeRw, ints_ren]
  rw [n_tuple, n_lcons, n_lcons, n_lnil, n_int, n_mkS (r' := H0.length) (d := 0) (by simp [sig])]
  obtain ⟨H2, hH2⟩ : ∃ h, h = H0 ++ [some (⟨true, b, ints .i64 X⟩ : ARow)] := ⟨_, rfl⟩
  have hB2 : Base H0 H2 := by rw [hH2]; exact Base.one
  have rX : Vh.rowAt H2 H0.length = some ⟨true, b, ints .i64 X⟩ := by rw [hH2]; simp [Vh.rowAt]
  rw [← hH2]
  clear hH2
  have hvi : Vi H2 (mkS κ H0.length 0 k) X := ⟨κ, H0.length, by rw [hxl]; exact hok, by rw [hxl], fun _ => ⟨_, rX, rfl⟩⟩
  simp (disch := omega) only [sN, ↓reduceIte, Nat.reduceEqDiff, Nat.reduceAdd, Nat.reduceMul, Nat.reduceSub, reduceCtorEq, e_none, e_some, e_bindS, e0, e1, e2, List.getElem?_cons_zero, List.getElem?_cons_succ]
  refine ⟨fun t s H => ∃ i : Nat, t = n - i ∧ i ≤ n ∧ Base H2 H ∧ Gs H2 H (s 11) (trL (outF X) i) ∧ s 0 = .int .i64 n ∧ s 10 = mkS κ H0.length 0 k ∧ s 12 = .int .i64 (i : Int), n, ⟨0, rfl, by omega, Base.refl, .inl ⟨rfl, ?_⟩, ?_, ?_, ?_⟩, ?_⟩
  · simp only [e_upd, e_putS, e_putN, e_t, e_c, Nat.reduceEqDiff, ↓reduceIte, reduceCtorEq, Nat.reduceAdd]
  · simp only [e_upd, e_putS, e_putN, e_t, e_c, Nat.reduceEqDiff, ↓reduceIte, reduceCtorEq, Nat.reduceAdd, e0]
  · simp only [e_upd, e_putS, e_putN, e_t, e_c, Nat.reduceEqDiff, ↓reduceIte, reduceCtorEq, Nat.reduceAdd]; first | done | rfl
  · simp only [e_upd, e_putS, e_putN, e_t, e_c, Nat.reduceEqDiff, ↓reduceIte, reduceCtorEq, Nat.reduceAdd]; first | done | rfl
  rintro t s H ⟨i, rfl, hi, hB, hg, h0, h10, h12⟩
  have rXH := hB.row rX
  by_cases hlt : i < n
  · have hst : trL (outF X) (i + 1) = trL (outF X) i ++ (if outF X i then [(i : Int)] else []) := rfl
    have hln := trL_len (f := outF X) i
    have hof : outF X i = !decide ((i : Int) ∈ X) := rfl
    simp (disch := omega) only [sN, ↓reduceIte, Nat.reduceEqDiff, Nat.reduceAdd, Nat.reduceMul, Nat.reduceSub, reduceCtorEq, e_none, e_some, e_bindS, h0, h10, h12]
    refine ⟨fun t s' H' => ∃ j : Nat, t = k - j ∧ j ≤ k ∧ H' = H ∧ s' 0 = .int .i64 n ∧ s' 10 = mkS κ H0.length 0 k ∧ s' 11 = s 11 ∧ s' 12 = .int .i64 (i : Int) ∧ s' 13 = .bool (decide ((i : Int) ∈ X.take j)) ∧ s' 14 = .int .i64 (j : Int), k, ⟨0, rfl, by omega, rfl, ?_, ?_, ?_, ?_, ?_, ?_⟩, ?_⟩
    · simp only [e_upd, e_putS, e_putN, e_t, e_c, Nat.reduceEqDiff, ↓reduceIte, reduceCtorEq, Nat.reduceAdd, h0]
    · simp only [e_upd, e_putS, e_putN, e_t, e_c, Nat.reduceEqDiff, ↓reduceIte, reduceCtorEq, Nat.reduceAdd, h10]
    · simp only [e_upd, e_putS, e_putN, e_t, e_c, Nat.reduceEqDiff, ↓reduceIte, reduceCtorEq, Nat.reduceAdd]
    · simp only [e_upd, e_putS, e_putN, e_t, e_c, Nat.reduceEqDiff, ↓reduceIte, reduceCtorEq, Nat.reduceAdd, h12]
    · simp only [e_upd, e_putS, e_putN, e_t, e_c, Nat.reduceEqDiff, ↓reduceIte, reduceCtorEq, Nat.reduceAdd]; first | done | simp
    · simp only [e_upd, e_putS, e_putN, e_t, e_c, Nat.reduceEqDiff, ↓reduceIte, reduceCtorEq, Nat.reduceAdd]; first | done | rfl
    rintro t s' H' ⟨j, rfl, hj, hH', k0, k10, k11, k12, k13, k14⟩
    rw [hH']
    by_cases hlt2 : j < k
    · have hgx : (ints .i64 X)[j]? = some (.int .i64 (X.getD j 0)) := ints_get (by omega)
      have htk : decide ((i : Int) ∈ X.take (j + 1)) = (decide ((i : Int) ∈ X.take j) || decide (X.getD j 0 = (i : Int))) := by
        rw [List.take_add_one, List.getElem?_eq_getElem (by omega)]
        rw [show X.getD j 0 = X[j]'(by omega) by simp [List.getD_eq_getElem?_getD, show j < X.length by omega]]
        simp only [Option.toList_some, List.mem_append, List.mem_singleton, Bool.decide_or, eq_comm]
      obtain ⟨y, hy⟩ : ∃ y, y = X.getD j 0 := ⟨_, rfl⟩
      rw [← hy] at hgx htk
      have ia : aindexAddr 1 (mkS κ H0.length 0 k) (.int .i64 (j : Int)) = some (.ptr H0.length j) := by
        rw [k_idx hok (Nat.le_refl k) (by omega) (by omega)]; simp
      cases hm : decide ((i : Int) ∈ X.take j)
      · rw [hm] at htk k13
        by_cases hyi : y = (i : Int)
        · rw [decide_eq_true hyi] at htk
          have hpe := p_eqI hyi
          simp (disch := omega) only [sN, ↓reduceIte, Nat.reduceEqDiff, Nat.reduceAdd, Nat.reduceMul, Nat.reduceSub, reduceCtorEq, e_none, e_some, e_bindS, k0, k10, k12, k13, k14, k_len hok, ia, rXH, hgx, hpe, Option.bind_some]
          refine loop_keep (m := k - (j + 1)) (by omega) ⟨j + 1, rfl, by omega, rfl, ?_, ?_, ?_, ?_, ?_, ?_⟩
          · simp only [e_upd, e_putS, e_putN, e_t, e_c, Nat.reduceEqDiff, ↓reduceIte, reduceCtorEq, Nat.reduceAdd, k0]
          · simp only [e_upd, e_putS, e_putN, e_t, e_c, Nat.reduceEqDiff, ↓reduceIte, reduceCtorEq, Nat.reduceAdd, k10]
          · simp only [e_upd, e_putS, e_putN, e_t, e_c, Nat.reduceEqDiff, ↓reduceIte, reduceCtorEq, Nat.reduceAdd, k11]
          · simp only [e_upd, e_putS, e_putN, e_t, e_c, Nat.reduceEqDiff, ↓reduceIte, reduceCtorEq, Nat.reduceAdd, k12]
          · rw [htk]; simp only [e_upd, e_putS, e_putN, e_t, e_c, Nat.reduceEqDiff, ↓reduceIte, reduceCtorEq, Nat.reduceAdd]; try rfl
          · simp only [e_upd, e_putS, e_putN, e_t, e_c, Nat.reduceEqDiff, ↓reduceIte, reduceCtorEq, Nat.reduceAdd]; first | done | rfl
        · rw [decide_eq_false hyi] at htk
          have hpe := p_neI hyi
          simp (disch := omega) only [sN, ↓reduceIte, Nat.reduceEqDiff, Nat.reduceAdd, Nat.reduceMul, Nat.reduceSub, reduceCtorEq, e_none, e_some, e_bindS, k0, k10, k12, k13, k14, k_len hok, ia, rXH, hgx, hpe, Option.bind_some]
          refine loop_keep (m := k - (j + 1)) (by omega) ⟨j + 1, rfl, by omega, rfl, ?_, ?_, ?_, ?_, ?_, ?_⟩
          · simp only [e_upd, e_putS, e_putN, e_t, e_c, Nat.reduceEqDiff, ↓reduceIte, reduceCtorEq, Nat.reduceAdd, k0]
          · simp only [e_upd, e_putS, e_putN, e_t, e_c, Nat.reduceEqDiff, ↓reduceIte, reduceCtorEq, Nat.reduceAdd, k10]
          · simp only [e_upd, e_putS, e_putN, e_t, e_c, Nat.reduceEqDiff, ↓reduceIte, reduceCtorEq, Nat.reduceAdd, k11]
          · simp only [e_upd, e_putS, e_putN, e_t, e_c, Nat.reduceEqDiff, ↓reduceIte, reduceCtorEq, Nat.reduceAdd, k12]
          · rw [htk]; simp only [e_upd, e_putS, e_putN, e_t, e_c, Nat.reduceEqDiff, ↓reduceIte, reduceCtorEq, Nat.reduceAdd]; try rfl
          · simp only [e_upd, e_putS, e_putN, e_t, e_c, Nat.reduceEqDiff, ↓reduceIte, reduceCtorEq, Nat.reduceAdd]; first | done | rfl
      · rw [hm] at htk k13
        simp (disch := omega) only [sN, ↓reduceIte, Nat.reduceEqDiff, Nat.reduceAdd, Nat.reduceMul, Nat.reduceSub, reduceCtorEq, e_none, e_some, e_bindS, k0, k10, k12, k13, k14, k_len hok]
        refine loop_keep (m := k - (j + 1)) (by omega) ⟨j + 1, rfl, by omega, rfl, ?_, ?_, ?_, ?_, ?_, ?_⟩
        · simp only [e_upd, e_putS, e_putN, e_t, e_c, Nat.reduceEqDiff, ↓reduceIte, reduceCtorEq, Nat.reduceAdd, k0]
        · simp only [e_upd, e_putS, e_putN, e_t, e_c, Nat.reduceEqDiff, ↓reduceIte, reduceCtorEq, Nat.reduceAdd, k10]
        · simp only [e_upd, e_putS, e_putN, e_t, e_c, Nat.reduceEqDiff, ↓reduceIte, reduceCtorEq, Nat.reduceAdd, k11]
        · simp only [e_upd, e_putS, e_putN, e_t, e_c, Nat.reduceEqDiff, ↓reduceIte, reduceCtorEq, Nat.reduceAdd, k12]
        · rw [htk]; simp only [e_upd, e_putS, e_putN, e_t, e_c, Nat.reduceEqDiff, ↓reduceIte, reduceCtorEq, Nat.reduceAdd]; try rfl
        · simp only [e_upd, e_putS, e_putN, e_t, e_c, Nat.reduceEqDiff, ↓reduceIte, reduceCtorEq, Nat.reduceAdd]; first | done | rfl
    · obtain rfl : j = k := by omega
      rw [List.take_of_length_le (by omega)] at k13
      cases hmem : decide ((i : Int) ∈ X)
      · rw [hmem] at hof k13
        rw [hof] at hst
        obtain ⟨v', H'', ea, eg, eb⟩ := x_appGs (H0 := H2) (H := H ++ [rw_ [.int .i64 (i : Int)]]) (a := (i : Int)) (r := H.length) (c := 1) (row := ⟨true, false, [.int .i64 (i : Int)]⟩) (hg.base Base.one) (by simp [Vh.rowAt, rw_]) rfl (by omega) hB.app
        simp (disch := omega) only [sN, ↓reduceIte, Nat.reduceEqDiff, Nat.reduceAdd, Nat.reduceMul, Nat.reduceSub, reduceCtorEq, e_none, e_some, e_bindS, k0, k10, k12, k13, k14, k_len hok]
        rw [x_bs1 (v := .int .i64 (i : Int)) (by simp only [e_upd, e_putS, e_putN, e_t, e_c, Nat.reduceEqDiff, ↓reduceIte, reduceCtorEq, Nat.reduceAdd]) rfl]
        simp (disch := omega) only [sN, ↓reduceIte, Nat.reduceEqDiff, Nat.reduceAdd, Nat.reduceMul, Nat.reduceSub, reduceCtorEq, e_none, e_some, e_bindS, k0, k10, k12, k13, k14]
        rw [ea _ _ _ (by simp only [e_upd, e_putS, e_putN, e_t, e_c, Nat.reduceEqDiff, ↓reduceIte, reduceCtorEq, Nat.reduceAdd, k11]) (by simp only [e_upd, e_putS, e_putN, e_t, e_c, Nat.reduceEqDiff, ↓reduceIte, reduceCtorEq, Nat.reduceAdd])]
        simp (disch := omega) only [sN, ↓reduceIte, Nat.reduceEqDiff, Nat.reduceAdd, Nat.reduceMul, Nat.reduceSub, reduceCtorEq, e_none, e_some, e_bindS, k0, k10, k12, k13, k14]
        refine loop_keep (m := n - (i + 1)) (by omega) ⟨i + 1, rfl, by omega, eb.1, ?_, ?_, ?_, ?_⟩
        · rw [hst]; simp only [e_upd, e_putS, e_putN, e_t, e_c, Nat.reduceEqDiff, ↓reduceIte, reduceCtorEq, Nat.reduceAdd]; simpa using eg
        · simp only [e_upd, e_putS, e_putN, e_t, e_c, Nat.reduceEqDiff, ↓reduceIte, reduceCtorEq, Nat.reduceAdd, k0]
        · simp only [e_upd, e_putS, e_putN, e_t, e_c, Nat.reduceEqDiff, ↓reduceIte, reduceCtorEq, Nat.reduceAdd, k10]
        · simp only [e_upd, e_putS, e_putN, e_t, e_c, Nat.reduceEqDiff, ↓reduceIte, reduceCtorEq, Nat.reduceAdd]; first | done | rfl
      · rw [hmem] at hof k13
        rw [hof] at hst
        simp (disch := omega) only [sN, ↓reduceIte, Nat.reduceEqDiff, Nat.reduceAdd, Nat.reduceMul, Nat.reduceSub, reduceCtorEq, e_none, e_some, e_bindS, k0, k10, k12, k13, k14, k_len hok]
        refine loop_keep (m := n - (i + 1)) (by omega) ⟨i + 1, rfl, by omega, hB, ?_, ?_, ?_, ?_⟩
        · rw [hst]; simp only [e_upd, e_putS, e_putN, e_t, e_c, Nat.reduceEqDiff, ↓reduceIte, reduceCtorEq, Nat.reduceAdd, k11]; simpa using hg
        · simp only [e_upd, e_putS, e_putN, e_t, e_c, Nat.reduceEqDiff, ↓reduceIte, reduceCtorEq, Nat.reduceAdd, k0]
        · simp only [e_upd, e_putS, e_putN, e_t, e_c, Nat.reduceEqDiff, ↓reduceIte, reduceCtorEq, Nat.reduceAdd, k10]
        · simp only [e_upd, e_putS, e_putN, e_t, e_c, Nat.reduceEqDiff, ↓reduceIte, reduceCtorEq, Nat.reduceAdd]; first | done | rfl
  · obtain rfl : i = n := by omega
    simp (disch := omega) only [sN, ↓reduceIte, Nat.reduceEqDiff, Nat.reduceAdd, Nat.reduceMul, Nat.reduceSub, reduceCtorEq, e_none, e_some, e_bindS, h0, h10, h12]
    refine ret_keep (Nat.le_trans hB2.1 hB.1) ?_
    rw [show rs_rSample = [.tmp 6, .tmp 7, .tmp 8] from rfl, q_tmp3, q_then]
    refine ⟨mkS κ H0.length 0 k, s 11, ?_, hB2.trans hB, hvi.base hB, hg.vi⟩
    simp only [e_upd, e_putS, e_putN, e_t, e_c, Nat.reduceEqDiff, ↓reduceIte, reduceCtorEq, Nat.reduceAdd]
end Go.Proofs.Ythbhljolpnbdlaa

