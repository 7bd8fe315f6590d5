/- Contracts: strings.Cut at a slash. -/
import Derived.Test.YtjmceapnhmeflaaDoorVX
import Derived.Test.YtjmceapnhmeflaaDoorJC
import Derived.Test.YtjmceapnhmeflaaDoorIrF
import Derived.Test.YtjmceapnhmeflaaDoorJB
import Derived.Test.YtjmceapnhmeflaaDoorED
set_option linter.unusedSimpArgs false
set_option linter.unusedVariables false
-- NEWSET
namespace Go.Proofs.YtjmceapnhmeflaaDoor
open Go Go.Vh

theorem str_at! {l : List Int} {i : Nat} (h : i < l.length) : (strOfNums l)[i]! = UInt8.ofNat (l.getD i 0).toNat := by
  have h1 : i < (strOfNums l).size := by rw [str_size]; exact h
  rw [getElem!_pos (strOfNums l) i h1]
  show (strOfNums l).data[i] = _
  simp [strOfNums, List.getD_eq_getElem?_getD, h]
theorem u8_inj {a b : Int} (ha : 0 ≤ a ∧ a ≤ 255) (hb : 0 ≤ b ∧ b ≤ 255) (h : UInt8.ofNat a.toNat = UInt8.ofNat b.toNat) : a = b := by
  have := congrArg (fun u : UInt8 => ((u.toNat : Nat) : Int)) h
  simp only [u8_nat ha, u8_nat hb] at this
  exact this

theorem fi_at {p q : List Int} (hb : Bytes (p ++ 47 :: q)) (hp : ∀ x ∈ p, x ≠ 47) : firstIdx (strOfNums (p ++ 47 :: q)) 47 = (p.length : Int) := by
  have hf : (List.range (strOfNums (p ++ 47 :: q)).size).find? (fun i => (strOfNums (p ++ 47 :: q))[i]! == 47) = some p.length := by
    rw [List.find?_range_eq_some]
    have hl : (p ++ 47 :: q).length = p.length + q.length + 1 := by simp; omega
    refine ⟨?_, ?_, fun j hj => ?_⟩
    · rw [str_at! (by omega)]
      simp
    · rw [List.mem_range, str_size]; omega
    · rw [str_at! (by omega)]
      have e : (p ++ 47 :: q).getD j 0 = p[j] := by simp [List.getD_eq_getElem?_getD, List.getElem?_append_left hj, hj]
      rw [e]
      simp only [Bool.not_eq_true', beq_eq_false_iff_ne, ne_eq]
      intro h
      refine hp p[j] (List.getElem_mem hj) (u8_inj (hb _ (List.mem_append_left _ (List.getElem_mem hj))) (by omega) h)
  unfold firstIdx
  rw [hf]
theorem fi_no {l : List Int} (hb : Bytes l) (hp : ∀ x ∈ l, x ≠ 47) : firstIdx (strOfNums l) 47 = -1 := by
  have hf : (List.range (strOfNums l).size).find? (fun i => (strOfNums l)[i]! == 47) = none := by
    rw [List.find?_range_eq_none]
    intro j hj
    rw [str_size] at hj
    rw [str_at! hj]
    have e : l.getD j 0 = l[j] := by simp [List.getD_eq_getElem?_getD, hj]
    rw [e]
    simp only [Bool.not_eq_true', beq_eq_false_iff_ne, ne_eq]
    intro h
    exact hp l[j] (List.getElem_mem hj) (u8_inj (hb _ (List.getElem_mem hj)) (by omega) h)
  unfold firstIdx
  rw [hf]

theorem indexByte_calls (b : ByteArray) : ACalls Tryd.prog 141 [.str b, .int .u8 47] [] (List.range 0) fun v H => v = .int .i64 (firstIdx b 47) ∧ H = [] := by
  refine ACalls.body Tryd.func141 ent_indexByte ir_indexByte_ok rs_indexByte_ok Tryd.ntmps141 (by simp) rfl ?_
  unfold ir_indexByte
  have e0 : s0 [.str b, .int .u8 47] 0 = .str b := rfl
  have e1 : s0 [.str b, .int .u8 47] 1 = .int .u8 47 := rfl
  simp (disch := omega) only [sN, ↓reduceIte, Nat.reduceEqDiff, Nat.reduceAdd, Nat.reduceMul, Nat.reduceSub, reduceCtorEq, e_none, e_some, e_bindS, e0, e1, ipure]
  refine ret_keep (by simp) ⟨?_, rfl⟩
  simp only [e_upd, e_putS, e_putN, e_t, e_c, Nat.reduceEqDiff, ↓reduceIte, reduceCtorEq, Nat.reduceAdd]
  rfl

theorem eql_slash {b : ByteArray} : abin .eql (.str ⟨#[47]⟩) (.str b) = some (.bool (decide (b = ⟨#[47]⟩))) := by
  show some (AV.bool ((⟨#[47]⟩ : ByteArray).toList == b.toList)) = _
  congr 2
  rw [ByteArray.toList_eq, ByteArray.toList_eq]
  rw [Bool.eq_iff_iff]
  simp only [beq_iff_eq, decide_eq_true_eq]
  constructor
  · intro h; apply ByteArray.ext; apply Array.ext'; exact h.symm
  · rintro rfl; rfl

theorem fi_slash : firstIdx ⟨#[47]⟩ 47 = 0 := by decide

set_option maxRecDepth 20000 in
theorem index_calls (b : ByteArray) : ACalls Tryd.prog 132 [.str b, .str ⟨#[47]⟩] [] (List.range 0) fun v H => v = .int .i64 (firstIdx b 47) ∧ H = [] := by
  refine ACalls.body Tryd.func132 ent_index ir_index_ok rs_index_ok Tryd.ntmps132 (by simp) rfl ?_
  unfold ir_index
  have e0 : s0 [.str b, .str ⟨#[47]⟩] 0 = .str b := rfl
  have e1 : s0 [.str b, .str ⟨#[47]⟩] 1 = .str ⟨#[47]⟩ := rfl
  have hl : ∀ (s : St) (x : Opd), evo s x = .str ⟨#[47]⟩ → ipure (.lenStr x) s = some (.int .i64 1) := fun s x h => by simp only [ipure, h]; rfl
  simp (disch := omega) only [sN, ↓reduceIte, Nat.reduceEqDiff, Nat.reduceAdd, Nat.reduceMul, Nat.reduceSub, reduceCtorEq, e_none, e_some, e_bindS, e0, e1]
  rw [hl _ _ (by simp only [e_upd, e_putS, e_putN, e_t, e_c, Nat.reduceEqDiff, ↓reduceIte, reduceCtorEq, Nat.reduceAdd, e1])]
  simp (disch := omega) only [sN, ↓reduceIte, Nat.reduceEqDiff, Nat.reduceAdd, Nat.reduceMul, Nat.reduceSub, reduceCtorEq, e_none, e_some, e_bindS, e0, e1, eql_slash]
  by_cases hb : b = ⟨#[47]⟩
  · simp (disch := omega) only [sN, ↓reduceIte, Nat.reduceEqDiff, Nat.reduceAdd, Nat.reduceMul, Nat.reduceSub, reduceCtorEq, e_none, e_some, e_bindS, e0, e1, hb, decide_true]
    refine ret_keep (by simp) ⟨?_, rfl⟩
    simp only [e_upd, e_putS, e_putN, e_t, e_c, Nat.reduceEqDiff, ↓reduceIte, reduceCtorEq, Nat.reduceAdd, fi_slash]
  · have hx : ∀ (s : St) (x : Opd), evo s x = .str ⟨#[47]⟩ → ipure (.indexStr x (.c (.int .i64 0))) s = some (.int .u8 47) := fun s x h => by simp only [ipure, h, e_c]; rfl
    simp (disch := omega) only [sN, ↓reduceIte, Nat.reduceEqDiff, Nat.reduceAdd, Nat.reduceMul, Nat.reduceSub, reduceCtorEq, e_none, e_some, e_bindS, e0, e1, hb, decide_false]
    rw [hx _ _ (by simp only [e_upd, e_putS, e_putN, e_t, e_c, Nat.reduceEqDiff, ↓reduceIte, reduceCtorEq, Nat.reduceAdd, e1])]
    simp (disch := omega) only [sN, ↓reduceIte, Nat.reduceEqDiff, Nat.reduceAdd, Nat.reduceMul, Nat.reduceSub, reduceCtorEq, e_none, e_some, e_bindS, e0, e1, List.map_cons, List.map_nil]
    refine call_sc (indexByte_calls b) rfl rfl (fun _ => rfl) ?_
    simp (disch := omega) only [sN, ↓reduceIte, Nat.reduceEqDiff, Nat.reduceAdd, Nat.reduceMul, Nat.reduceSub, reduceCtorEq, e_none, e_some, e_bindS]
    refine ret_keep (by simp) ⟨?_, rfl⟩
    simp only [e_upd, e_putS, e_putN, e_t, e_c, Nat.reduceEqDiff, ↓reduceIte, reduceCtorEq, Nat.reduceAdd]

/-- What stands before the first slash, behind it, and whether there is one. -/
def cutL : List Int → List Int × List Int × Bool
  | [] => ([], [], false)
  | x :: l => if x = 47 then ([], l, true) else ((x :: (cutL l).1), (cutL l).2)
theorem cutL_yes : ∀ {l : List Int}, (cutL l).2.2 = true → l = (cutL l).1 ++ 47 :: (cutL l).2.1 ∧ ∀ x ∈ (cutL l).1, x ≠ 47
  | [], h => by simp [cutL] at h
  | x :: l, h => by
    unfold cutL at h ⊢
    by_cases e : x = 47
    · simp [e]
    · simp only [e, if_false] at h ⊢
      obtain ⟨h1, h2⟩ := cutL_yes h
      refine ⟨by rw [List.cons_append, ← h1], fun y hy => ?_⟩
      rcases List.mem_cons.1 hy with rfl | hy
      · exact e
      · exact h2 y hy
theorem cutL_no : ∀ {l : List Int}, (cutL l).2.2 = false → (cutL l).1 = l ∧ (cutL l).2.1 = [] ∧ ∀ x ∈ l, x ≠ 47
  | [], h => by simp [cutL]
  | x :: l, h => by
    unfold cutL at h ⊢
    by_cases e : x = 47
    · simp [e] at h
    · simp only [e, if_false] at h ⊢
      obtain ⟨h1, h2, h3⟩ := cutL_no h
      refine ⟨by rw [h1], h2, fun y hy => ?_⟩
      rcases List.mem_cons.1 hy with rfl | hy
      · exact e
      · exact h3 y hy
theorem cutL_at {p q : List Int} (hp : ∀ x ∈ p, x ≠ 47) : cutL (p ++ 47 :: q) = (p, q, true) := by
  induction p with
  | nil => simp [cutL]
  | cons a p ih =>
    rw [List.cons_append, cutL, if_neg (hp a (List.mem_cons_self ..)), ih fun x hx => hp x (List.mem_cons_of_mem _ hx)]

theorem str_take {l : List Int} {k : Nat} (h : k ≤ l.length) : (strOfNums l).extract 0 k = strOfNums (l.take k) := by
  apply ByteArray.ext
  simp [strOfNums, ByteArray.data_extract]
theorem str_drop {l : List Int} {k : Nat} (h : k ≤ l.length) : (strOfNums l).extract k l.length = strOfNums (l.drop k) := by
  apply ByteArray.ext
  simp [strOfNums, ByteArray.data_extract]
  exact List.take_of_length_le (by simp)
theorem p_takeStr {s : St} {x y : Opd} {l : List Int} {k : Nat} (h : evo s x = .str (strOfNums l)) (hy : evo s y = .int .i64 (k : Int)) (hk : k ≤ l.length) : ipure (.sliceStr x none (some y)) s = some (.str (strOfNums (l.take k))) := by
  have := str_take hk
  simp only [ipure, asliceStr, h, hy, Option.map_some, Option.map_none, ahi, abound, str_size]
  rw [if_pos (by omega), Int.toNat_natCast]
  simp [this]
theorem p_dropStr {s : St} {x y : Opd} {l : List Int} {k : Nat} (h : evo s x = .str (strOfNums l)) (hy : evo s y = .int .i64 (k : Int)) (hk : k ≤ l.length) : ipure (.sliceStr x (some y) none) s = some (.str (strOfNums (l.drop k))) := by
  have := str_drop hk
  simp only [ipure, asliceStr, h, hy, Option.map_some, Option.map_none, ahi, abound, str_size]
  simp
  rw [if_pos (by omega)]
  simp [this]

set_option maxRecDepth 20000 in
theorem cutL_calls (l : List Int) (hb : Bytes l) (hm : l.length ≤ 9223372036854775800) : ACalls Tryd.prog 110 [.str (strOfNums l), .str ⟨#[47]⟩] [] (List.range 0) fun v H => v = .tuple [.str (strOfNums (cutL l).1), .str (strOfNums (cutL l).2.1), .bool (cutL l).2.2] ∧ H = [] := by
  refine ACalls.body Tryd.func110 ent_cutL ir_cutL_ok rs_cutL_ok Tryd.ntmps110 (by simp) rfl ?_
  unfold ir_cutL
  have e0 : s0 [.str (strOfNums l), .str ⟨#[47]⟩] 0 = .str (strOfNums l) := rfl
  have e1 : s0 [.str (strOfNums l), .str ⟨#[47]⟩] 1 = .str ⟨#[47]⟩ := rfl
  have hl : ∀ (s : St) (x : Opd), evo s x = .str ⟨#[47]⟩ → ipure (.lenStr x) s = some (.int .i64 1) := fun s x h => by simp only [ipure, h]; rfl
  simp (disch := omega) only [sN, ↓reduceIte, Nat.reduceEqDiff, Nat.reduceAdd, Nat.reduceMul, Nat.reduceSub, reduceCtorEq, e_none, e_some, e_bindS, e0, e1, List.map_cons, List.map_nil]
  refine call_sc (index_calls (strOfNums l)) rfl rfl (fun _ => rfl) ?_
  cases hc : (cutL l).2.2 with
  | true =>
    obtain ⟨h1, h2⟩ := cutL_yes hc
    have hf : firstIdx (strOfNums l) 47 = ((cutL l).1.length : Int) := by
      have := fi_at (p := (cutL l).1) (q := (cutL l).2.1) (h1 ▸ hb) h2
      rw [← h1] at this; exact this
    have hlen : l.length = (cutL l).1.length + (cutL l).2.1.length + 1 := by
      have := congrArg List.length h1
      simp at this; omega
    rw [hf]
    generalize (cutL l).1 = p at *
    generalize (cutL l).2.1 = q at *
    clear hc hf
    subst h1
    have ht : (p ++ 47 :: q).take p.length = p := by simp
    have hd : (p ++ 47 :: q).drop (p.length + 1) = q := by
      rw [show p ++ 47 :: q = (p ++ [47]) ++ q by simp, show p.length + 1 = (p ++ [47]).length by simp]
      simp
    generalize hL : p ++ 47 :: q = l at *
    simp (disch := omega) only [sN, ↓reduceIte, Nat.reduceEqDiff, Nat.reduceAdd, Nat.reduceMul, Nat.reduceSub, reduceCtorEq, e_none, e_some, e_bindS, e0, e1]
    rw [p_takeStr (l := l) (k := p.length) (by simp only [e_upd, e_putS, e_putN, e_t, e_c, Nat.reduceEqDiff, ↓reduceIte, reduceCtorEq, Nat.reduceAdd, e0]) (by simp only [e_upd, e_putS, e_putN, e_t, e_c, Nat.reduceEqDiff, ↓reduceIte, reduceCtorEq, Nat.reduceAdd]) (by omega), ht]
    simp (disch := omega) only [sN, ↓reduceIte, Nat.reduceEqDiff, Nat.reduceAdd, Nat.reduceMul, Nat.reduceSub, reduceCtorEq, e_none, e_some, e_bindS, e0, e1]
    rw [hl _ _ (by simp only [e_upd, e_putS, e_putN, e_t, e_c, Nat.reduceEqDiff, ↓reduceIte, reduceCtorEq, Nat.reduceAdd, e1])]
    simp (disch := omega) only [sN, ↓reduceIte, Nat.reduceEqDiff, Nat.reduceAdd, Nat.reduceMul, Nat.reduceSub, reduceCtorEq, e_none, e_some, e_bindS, e0, e1]
    rw [p_dropStr (l := l) (k := p.length + 1) (by simp only [e_upd, e_putS, e_putN, e_t, e_c, Nat.reduceEqDiff, ↓reduceIte, reduceCtorEq, Nat.reduceAdd, e0]) (by simp only [e_upd, e_putS, e_putN, e_t, e_c, Nat.reduceEqDiff, ↓reduceIte, reduceCtorEq, Nat.reduceAdd]; rfl) (by omega), hd]
    simp (disch := omega) only [sN, ↓reduceIte, Nat.reduceEqDiff, Nat.reduceAdd, Nat.reduceMul, Nat.reduceSub, reduceCtorEq, e_none, e_some, e_bindS, e0, e1]
    refine ret_keep (by simp) ⟨?_, rfl⟩
    simp only [e_upd, e_putS, e_putN, e_t, e_c, Nat.reduceEqDiff, ↓reduceIte, reduceCtorEq, Nat.reduceAdd]
  | false =>
    obtain ⟨h1, h2, h3⟩ := cutL_no hc
    rw [fi_no hb h3, h1, h2]
    simp (disch := omega) only [sN, ↓reduceIte, Nat.reduceEqDiff, Nat.reduceAdd, Nat.reduceMul, Nat.reduceSub, reduceCtorEq, e_none, e_some, e_bindS, e0, e1]
    refine ret_keep (by simp) ⟨?_, rfl⟩
    simp only [e_upd, e_putS, e_putN, e_t, e_c, Nat.reduceEqDiff, ↓reduceIte, reduceCtorEq, Nat.reduceAdd]
    rfl

theorem cut_calls (l : List Int) (hb : Bytes l) (hm : l.length ≤ 9223372036854775800) : ACalls Tryd.prog 70 [.str (strOfNums l), .str ⟨#[47]⟩] [] (List.range 0) fun v H => v = .tuple [.str (strOfNums (cutL l).1), .str (strOfNums (cutL l).2.1), .bool (cutL l).2.2] ∧ H = [] := by
  refine ACalls.body Tryd.func70 ent_cut ir_cut_ok rs_cut_ok Tryd.ntmps70 (by simp) rfl ?_
  unfold ir_cut
  have e0 : s0 [.str (strOfNums l), .str ⟨#[47]⟩] 0 = .str (strOfNums l) := rfl
  have e1 : s0 [.str (strOfNums l), .str ⟨#[47]⟩] 1 = .str ⟨#[47]⟩ := rfl
  simp (disch := omega) only [sN, ↓reduceIte, Nat.reduceEqDiff, Nat.reduceAdd, Nat.reduceMul, Nat.reduceSub, reduceCtorEq, e_none, e_some, e_bindS, e0, e1, List.map_cons, List.map_nil]
  refine call_sc (cutL_calls l hb hm) rfl rfl (fun _ => rfl) ?_
  simp (disch := omega) only [sN, ↓reduceIte, Nat.reduceEqDiff, Nat.reduceAdd, Nat.reduceMul, Nat.reduceSub, reduceCtorEq, e_none, e_some, e_bindS, List.getElem?_cons_zero, List.getElem?_cons_succ]
  refine ret_keep (by simp) ⟨?_, rfl⟩
  simp only [e_upd, e_putS, e_putN, e_t, e_c, Nat.reduceEqDiff, ↓reduceIte, reduceCtorEq, Nat.reduceAdd]
end Go.Proofs.YtjmceapnhmeflaaDoor


/- Contracts: exact's FracParse. -/
-- NEWSET
namespace Go.Proofs.YtjmceapnhmeflaaDoor
open Go Go.Vh

def fpOk (l : List Int) : Bool := (cutL l).2.2 && (isN (cutL l).1 && isN (cutL l).2.1)
def fpX (l : List Int) : Int := vd (cutL l).1 (cutL l).1.length
def fpY (l : List Int) : Int := vd (cutL l).2.1 (cutL l).2.1.length
def fpR (x y : Int) : Int := if x < BB ^ 64 ∧ y < BB ^ 64 then (if ((Nat.gcd x.toNat y.toNat : Nat) : Int) = 1 ∧ y ≠ 0 then 0 else 6) else 8
def fpE (l : List Int) : Int := if fpOk l then fpR (fpX l) (fpY l) else 6
def fpN (l : List Int) : Int := if fpE l = 0 then fpX l else 0
def fpD (l : List Int) : Int := if fpE l = 0 then fpY l else 0

theorem x_bsK {s : St} {H : AHeap} {x y : Opd} {v1 v2 z1 z2 : AV} (h1 : evo s x = v1) (h2 : evo s y = v2) (c1 : v1.cell = true) (c2 : v2.cell = true) (d1 : z1.cell = true) (d2 : z2.cell = true) : ieff (.buildSlice 2 [z1, z2] [(0, (1, x)), (1, (1, y))]) s H = some (.slice H.length 0 2 2, H ++ [rw_ [v1, v2]]) := by
  simp [ieff, h1, h2, afill, aparts_cell c1, aparts_cell c2, c1, c2, anew, rw_]

theorem two_limbs1 : Limbs (two 1) := fun i => by
  rcases i with _ | _ | i <;> simp [two]
theorem one_num : NewNum 1 (.cap 2) ((two 1).take (tz (two 1) (two 1).length)) ⟨true, false, ints .u32 (two 1)⟩ :=
  new_of_trim two_limbs1 (by simp [two, num, nv]) (by decide) rfl rfl

theorem call_one {K : St → AHeap → Prop} {d : Option Nat} {s : St} {H : AHeap} (hK : ∀ R w, NumV (H ++ R) w 1 H.length → K (putI d s w) (H ++ R)) : thenC Tryd.prog K d s H [.int .u64 1] (.func 14 []) := by
  refine call_do (xof_calls 1 (by omega) (by omega)) [] rfl rfl rfl rfl trivial ?_
  rintro v0 H0' ⟨rfl, rfl⟩
  rw [m_merge, m_nil, n_mkS0 (r' := H.length) (by rw [show ([] : List (Nat × Nat)) = [] from rfl]; rfl)]
  refine hK _ _ ?_
  have := NumV.new (H := H ++ [rw_ (ints .u32 (two 1))]) (r := H.length) (m := H.length) (row := ⟨true, false, ints .u32 (two 1)⟩) (by simp [Vh.rowAt, rw_]) (Nat.le_refl _) one_num
  have e : ((two 1).take (tz (two 1) (two 1).length)).length = tz (two 1) 2 := by decide
  rw [e] at this
  simpa [rw_, renRow, ints_ren] using this

theorem NumV.base {H H' : AHeap} {w : AV} {x : Int} {m : Nat} (h : NumV H w x m) (hb : Base H H') : NumV H' w x m := by
  rcases h with h | ⟨κ, l, row, r, h1, h2, h3, h4⟩
  · exact .inl h
  · exact .inr ⟨κ, l, row, r, h1, h2, hb.row h3, h4⟩

theorem cutL_bytes {l : List Int} (hb : Bytes l) : Bytes (cutL l).1 ∧ Bytes (cutL l).2.1 := by
  cases h : (cutL l).2.2 with
  | true =>
    obtain ⟨h1, _⟩ := cutL_yes h
    exact ⟨fun x hx => hb x (by rw [h1]; exact List.mem_append_left _ hx), fun x hx => hb x (by rw [h1]; exact List.mem_append_right _ (List.mem_cons_of_mem _ hx))⟩
  | false =>
    obtain ⟨h1, h2, _⟩ := cutL_no h
    rw [h1, h2]
    exact ⟨hb, fun x hx => by cases hx⟩

set_option maxHeartbeats 2000000 in
theorem xFracParse_calls (H0 : AHeap) {row0 : ARow} (hr0 : Vh.rowAt H0 0 = some row0) (l : List Int) (hb : Bytes l) (hm : l.length ≤ 9223372036854775800) : ACalls Tryd.prog 22 [.str (strOfNums l)] H0 (List.range H0.length) (AnsF (fpN l) (fpD l) (fpE l) H0) := by
  refine ACalls.body Tryd.func22 ent_xFracParse ir_xFracParse_ok rs_xFracParse_ok Tryd.ntmps22 (by simp) rfl ?_
  unfold ir_xFracParse
  have e0 : s0 [.str (strOfNums l)] 0 = .str (strOfNums l) := rfl
  have hz : [AV.nilslice, AV.nilslice].all AV.cell = true := rfl
  simp (disch := omega) only [sN, ↓reduceIte, Nat.reduceEqDiff, Nat.reduceAdd, Nat.reduceMul, Nat.reduceSub, reduceCtorEq, e_none, e_some, e_bindS, e0]
  rw [x_allocA hz]
  have hB1 : Base H0 (H0 ++ [rw_ [AV.nilslice, AV.nilslice]]) := Base.one
  have r2 : Vh.rowAt (H0 ++ [rw_ [AV.nilslice, AV.nilslice]]) H0.length = some ⟨true, false, [.nilslice, .nilslice]⟩ := by simp [Vh.rowAt, rw_]
  generalize H0 ++ [rw_ [AV.nilslice, AV.nilslice]] = H1 at *
  simp (disch := omega) only [sN, ↓reduceIte, Nat.reduceEqDiff, Nat.reduceAdd, Nat.reduceMul, Nat.reduceSub, reduceCtorEq, e_none, e_some, e_bindS, e0, List.map_cons, List.map_nil]
  refine call_sc (cut_calls l hb hm) rfl rfl (fun _ => rfl) ?_
  have bad : fpE l = 6 → ∀ (s : St) (H : AHeap), Base H0 H → s 2 = .ptr H0.length 0 → Vh.rowAt H H0.length = some ⟨true, false, [.nilslice, .nilslice]⟩ → s 3 = .int .i64 6 → retPost H0.length rs_xFracParse (AnsF (fpN l) (fpD l) (fpE l) H0) .ret s H := fun hE s H hB h2 hr h3 => by
    have hN : fpN l = 0 := by unfold fpN; rw [hE]; rfl
    have hD : fpD l = 0 := by unfold fpD; rw [hE]; rfl
    rw [hN, hD, hE]
    refine ret_keep hB.1 ?_
    rw [rs_xFracParse, ares_cell2 (r := H0.length) (row := ⟨true, false, [.nilslice, .nilslice]⟩) (l := [.nilslice, .nilslice]) h2 hr rfl rfl]
    exact ⟨hB, .nilslice, .nilslice, by rw [h3], .nil, .nil⟩
  obtain ⟨hbp, hbq⟩ := cutL_bytes hb
  have hlen : (cutL l).1.length ≤ l.length ∧ (cutL l).2.1.length ≤ l.length := by
    cases h : (cutL l).2.2 with
    | true =>
      have := congrArg List.length (cutL_yes h).1
      simp at this; omega
    | false => obtain ⟨h1, h2, _⟩ := cutL_no h; rw [h1, h2]; simp
  cases hf : (cutL l).2.2 with
  | false =>
    have hE : fpE l = 6 := by unfold fpE fpOk; rw [hf]; rfl
    simp (disch := omega) only [sN, ↓reduceIte, Nat.reduceEqDiff, Nat.reduceAdd, Nat.reduceMul, Nat.reduceSub, reduceCtorEq, e_none, e_some, e_bindS, e0, List.getElem?_cons_zero, List.getElem?_cons_succ, p_build, afill, List.map_cons, List.map_nil, Option.map_some]
    rw [x_storeNA (n := 2) (r := H0.length) (l := [.nilslice, .nilslice]) (l' := [.nilslice, .nilslice]) (by simp only [e_upd, e_putS, e_putN, e_t, e_c, Nat.reduceEqDiff, ↓reduceIte, reduceCtorEq, Nat.reduceAdd]) (by simp only [e_upd, e_putS, e_putN, e_t, e_c, Nat.reduceEqDiff, ↓reduceIte, reduceCtorEq, Nat.reduceAdd]) rfl r2 rfl rfl]
    simp (disch := omega) only [sN, ↓reduceIte, Nat.reduceEqDiff, Nat.reduceAdd, Nat.reduceMul, Nat.reduceSub, reduceCtorEq, e_none, e_some, e_bindS]
    exact bad hE _ _ (hB1.set (Nat.le_refl _)) (by simp only [e_upd, e_putS, e_putN, e_t, e_c, Nat.reduceEqDiff, ↓reduceIte, reduceCtorEq, Nat.reduceAdd]) (by rw [rowAt_set (row_lt r2), if_pos rfl]; rfl) (by simp only [e_upd, e_putS, e_putN, e_t, e_c, Nat.reduceEqDiff, ↓reduceIte, reduceCtorEq, Nat.reduceAdd])
  | true =>
  simp (disch := omega) only [sN, ↓reduceIte, Nat.reduceEqDiff, Nat.reduceAdd, Nat.reduceMul, Nat.reduceSub, reduceCtorEq, e_none, e_some, e_bindS, e0, List.getElem?_cons_zero, List.getElem?_cons_succ, List.map_cons, List.map_nil]
  refine call_sc (isNumber_calls (cutL l).1 hbp (by omega)) rfl rfl (fun _ => rfl) ?_
  cases hp : isN (cutL l).1 with
  | false =>
    have hE : fpE l = 6 := by unfold fpE fpOk; rw [hf, hp]; rfl
    simp (disch := omega) only [sN, ↓reduceIte, Nat.reduceEqDiff, Nat.reduceAdd, Nat.reduceMul, Nat.reduceSub, reduceCtorEq, e_none, e_some, e_bindS, e0, List.getElem?_cons_zero, List.getElem?_cons_succ, p_build, afill, List.map_cons, List.map_nil, Option.map_some]
    rw [x_storeNA (n := 2) (r := H0.length) (l := [.nilslice, .nilslice]) (l' := [.nilslice, .nilslice]) (by simp only [e_upd, e_putS, e_putN, e_t, e_c, Nat.reduceEqDiff, ↓reduceIte, reduceCtorEq, Nat.reduceAdd]) (by simp only [e_upd, e_putS, e_putN, e_t, e_c, Nat.reduceEqDiff, ↓reduceIte, reduceCtorEq, Nat.reduceAdd]) rfl r2 rfl rfl]
    simp (disch := omega) only [sN, ↓reduceIte, Nat.reduceEqDiff, Nat.reduceAdd, Nat.reduceMul, Nat.reduceSub, reduceCtorEq, e_none, e_some, e_bindS]
    exact bad hE _ _ (hB1.set (Nat.le_refl _)) (by simp only [e_upd, e_putS, e_putN, e_t, e_c, Nat.reduceEqDiff, ↓reduceIte, reduceCtorEq, Nat.reduceAdd]) (by rw [rowAt_set (row_lt r2), if_pos rfl]; rfl) (by simp only [e_upd, e_putS, e_putN, e_t, e_c, Nat.reduceEqDiff, ↓reduceIte, reduceCtorEq, Nat.reduceAdd])
  | true =>
  simp (disch := omega) only [sN, ↓reduceIte, Nat.reduceEqDiff, Nat.reduceAdd, Nat.reduceMul, Nat.reduceSub, reduceCtorEq, e_none, e_some, e_bindS, e0, List.map_cons, List.map_nil]
  refine call_sc (isNumber_calls (cutL l).2.1 hbq (by omega)) rfl rfl (fun _ => rfl) ?_
  cases hq : isN (cutL l).2.1 with
  | false =>
    have hE : fpE l = 6 := by unfold fpE fpOk; rw [hf, hp, hq]; rfl
    simp (disch := omega) only [sN, ↓reduceIte, Nat.reduceEqDiff, Nat.reduceAdd, Nat.reduceMul, Nat.reduceSub, reduceCtorEq, e_none, e_some, e_bindS, e0, List.getElem?_cons_zero, List.getElem?_cons_succ, p_build, afill, List.map_cons, List.map_nil, Option.map_some]
    rw [x_storeNA (n := 2) (r := H0.length) (l := [.nilslice, .nilslice]) (l' := [.nilslice, .nilslice]) (by simp only [e_upd, e_putS, e_putN, e_t, e_c, Nat.reduceEqDiff, ↓reduceIte, reduceCtorEq, Nat.reduceAdd]) (by simp only [e_upd, e_putS, e_putN, e_t, e_c, Nat.reduceEqDiff, ↓reduceIte, reduceCtorEq, Nat.reduceAdd]) rfl r2 rfl rfl]
    simp (disch := omega) only [sN, ↓reduceIte, Nat.reduceEqDiff, Nat.reduceAdd, Nat.reduceMul, Nat.reduceSub, reduceCtorEq, e_none, e_some, e_bindS]
    exact bad hE _ _ (hB1.set (Nat.le_refl _)) (by simp only [e_upd, e_putS, e_putN, e_t, e_c, Nat.reduceEqDiff, ↓reduceIte, reduceCtorEq, Nat.reduceAdd]) (by rw [rowAt_set (row_lt r2), if_pos rfl]; rfl) (by simp only [e_upd, e_putS, e_putN, e_t, e_c, Nat.reduceEqDiff, ↓reduceIte, reduceCtorEq, Nat.reduceAdd])
  | true =>
  obtain ⟨⟨_, p2, _⟩, pd⟩ := isN_of hp
  obtain ⟨⟨_, q2, _⟩, qd⟩ := isN_of hq
  have hO : fpOk l = true := by unfold fpOk; rw [hf, hp, hq]; rfl
  have hE : fpE l = fpR (fpX l) (fpY l) := by unfold fpE; rw [if_pos hO]
  simp (disch := omega) only [sN, ↓reduceIte, Nat.reduceEqDiff, Nat.reduceAdd, Nat.reduceMul, Nat.reduceSub, reduceCtorEq, e_none, e_some, e_bindS, e0, List.map_cons, List.map_nil]
  refine ⟨_, (value_calls H1 (hB1.row hr0) (cutL l).1 hbp pd (by omega)).g.mono ?_⟩
  rintro w1 H2 ⟨hB2, n1⟩
  simp (disch := omega) only [sN, ↓reduceIte, Nat.reduceEqDiff, Nat.reduceAdd, Nat.reduceMul, Nat.reduceSub, reduceCtorEq, e_none, e_some, e_bindS, List.map_cons, List.map_nil]
  refine ⟨_, (value_calls H2 (hB2.row (hB1.row hr0)) (cutL l).2.1 hbq qd (by omega)).g.mono ?_⟩
  rintro w2 H3 ⟨hB3, n2⟩
  have hx : 0 ≤ fpX l ∧ fpX l < BB ^ (cutL l).1.length := vd_lt pd (cutL l).1.length (Nat.le_refl _)
  have hy : 0 ≤ fpY l ∧ fpY l < BB ^ (cutL l).2.1.length := vd_lt qd (cutL l).2.1.length (Nat.le_refl _)
  have hB13 := hB2.trans hB3
  have hB03 := hB1.trans hB13
  have a1 : AtN H3 w1 (fpX l) := (n1.norm (hB2.row (hB1.row hr0))).base hB3
  have a2 : AtN H3 w2 (fpY l) := n2.norm (hB03.row hr0)
  have c1 := n1.cell
  have c2 := n2.cell
  have l01 : H0.length < H1.length := row_lt r2
  have n1' : NumV H3 w1 (fpX l) H1.length := n1.base hB3
  have n2' : NumV H3 w2 (fpY l) H1.length := n2.le hB2.1
  have r2' := hB13.row r2
  have r0 := hB03.row hr0
  have l0 : H0.length < H3.length := row_lt r2'
  clear n1 n2 hB2 hB3 hB13
  simp (disch := omega) only [sN, ↓reduceIte, Nat.reduceEqDiff, Nat.reduceAdd, Nat.reduceMul, Nat.reduceSub, reduceCtorEq, e_none, e_some, e_bindS]
  rw [p_build2 (v1 := w1) (v2 := w2) (by simp only [e_upd, e_putS, e_putN, e_t, e_c, Nat.reduceEqDiff, ↓reduceIte, reduceCtorEq, Nat.reduceAdd]) (by simp only [e_upd, e_putS, e_putN, e_t, e_c, Nat.reduceEqDiff, ↓reduceIte, reduceCtorEq, Nat.reduceAdd]) c1 c2]
  simp (disch := omega) only [sN, ↓reduceIte, Nat.reduceEqDiff, Nat.reduceAdd, Nat.reduceMul, Nat.reduceSub, reduceCtorEq, e_none, e_some, e_bindS]
  rw [x_allocA hz]
  simp (disch := omega) only [sN, ↓reduceIte, Nat.reduceEqDiff, Nat.reduceAdd, Nat.reduceMul, Nat.reduceSub, reduceCtorEq, e_none, e_some, e_bindS]
  rw [x_storeNA (n := 2) (r := H3.length) (l := [.nilslice, .nilslice]) (l' := [w1, w2]) (by simp only [e_upd, e_putS, e_putN, e_t, e_c, Nat.reduceEqDiff, ↓reduceIte, reduceCtorEq, Nat.reduceAdd]) (by simp only [e_upd, e_putS, e_putN, e_t, e_c, Nat.reduceEqDiff, ↓reduceIte, reduceCtorEq, Nat.reduceAdd]) (by simp [c1, c2]) (by simp [Vh.rowAt, rw_]) rfl rfl, set_last]
  obtain ⟨H4, hH4⟩ : ∃ h, h = H3 ++ [rw_ [w1, w2]] := ⟨_, rfl⟩
  obtain ⟨p4, hp4⟩ : ∃ p, p = H3.length := ⟨_, rfl⟩
  have r4 : Vh.rowAt H4 p4 = some ⟨true, false, [w1, w2]⟩ := by rw [hH4, hp4]; simp [Vh.rowAt, rw_]
  have hB34 : Base H3 H4 := by rw [hH4]; exact Base.one
  rw [← hH4, ← hp4]
  clear hH4
  have hB04 := hB03.trans hB34
  have b1 := a1.base hB34
  have b2 := a2.base hB34
  have n1 := n1'.base hB34
  have n2 := n2'.base hB34
  have r2 := hB34.row r2'
  have r0 := hB34.row r0
  have l0 : H0.length < H4.length := row_lt r2
  clear a1 a2 n1' n2' r2' hB34 hB03
  simp (disch := omega) only [sN, ↓reduceIte, Nat.reduceEqDiff, Nat.reduceAdd, Nat.reduceMul, Nat.reduceSub, reduceCtorEq, e_none, e_some, e_bindS, r4, p_fieldAddr, Nat.zero_add, Option.bind_some, Option.map_some, List.getElem?_cons_zero, List.getElem?_cons_succ, List.map_cons, List.map_nil]
  rw [x_bsK (v1 := w1) (v2 := w2) (by simp only [e_upd, e_putS, e_putN, e_t, e_c, Nat.reduceEqDiff, ↓reduceIte, reduceCtorEq, Nat.reduceAdd]) (by simp only [e_upd, e_putS, e_putN, e_t, e_c, Nat.reduceEqDiff, ↓reduceIte, reduceCtorEq, Nat.reduceAdd]) c1 c2 rfl rfl]
  simp (disch := omega) only [sN, ↓reduceIte, Nat.reduceEqDiff, Nat.reduceAdd, Nat.reduceMul, Nat.reduceSub, reduceCtorEq, e_none, e_some, e_bindS, List.map_cons, List.map_nil]
  obtain ⟨κ1, t1, row1, s1, i1, i2, i3, i4, i5, i6, i7⟩ := id b1
  obtain ⟨κ2, t2, row2, s2, j1, j2, j3, j4, j5, j6, j7⟩ := id b2
  have g1 : t1.length ≤ 64 ↔ fpX l < BB ^ 64 := by rw [← i6]; exact norm_64 i5 i7
  have g2 : t2.length ≤ 64 ↔ fpY l < BB ^ 64 := by rw [← j6]; exact norm_64 j5 j7
  have m1 : t1.length ≤ 700 := norm_len i5 i7 (by rw [i6]; exact Int.lt_of_lt_of_le hx.2 (BB_mono (by omega)))
  have m2 : t2.length ≤ 700 := norm_len j5 j7 (by rw [j6]; exact Int.lt_of_lt_of_le hy.2 (BB_mono (by omega)))
  have X1 : AtX (H4 ++ [rw_ [w1, w2]]) w1 (fpX l) t1.length := ⟨κ1, t1, row1, s1, i1, i2, by rw [rowAt_append_left (row_lt i3)]; exact i3, i4, i5, i6, rfl⟩
  have X2 : AtX (H4 ++ [rw_ [w1, w2]]) w2 (fpY l) t2.length := ⟨κ2, t2, row2, s2, j1, j2, by rw [rowAt_append_left (row_lt j3)]; exact j3, j4, j5, j6, rfl⟩
  refine call_long2 X1 X2 (by omega) (by omega) (a := H4.length) (row := ⟨true, false, [w1, w2]⟩) (by simp [Vh.rowAt, rw_]) rfl ?_
  have hB05 : Base H0 (H4 ++ [rw_ [w1, w2]]) := hB04.app
  have r2 : Vh.rowAt (H4 ++ [rw_ [w1, w2]]) H0.length = some ⟨true, false, [.nilslice, .nilslice]⟩ := by rw [rowAt_append_left l0]; exact r2
  have r4 : Vh.rowAt (H4 ++ [rw_ [w1, w2]]) p4 = some ⟨true, false, [w1, w2]⟩ := by rw [rowAt_append_left (row_lt r4)]; exact r4
  have r0 : Vh.rowAt (H4 ++ [rw_ [w1, w2]]) 0 = some row0 := by rw [rowAt_append_left (row_lt r0)]; exact r0
  have n1 : NumV (H4 ++ [rw_ [w1, w2]]) w1 (fpX l) H1.length := n1.app
  have n2 : NumV (H4 ++ [rw_ [w1, w2]]) w2 (fpY l) H1.length := n2.app
  have k1 : AtK (H4 ++ [rw_ [w1, w2]]) w1 (fpX l) s1 700 := ⟨κ1, t1, row1, i1, i2, by rw [rowAt_append_left (row_lt i3)]; exact i3, i4, i5, i6, m1⟩
  have k2 : AtK (H4 ++ [rw_ [w1, w2]]) w2 (fpY l) s2 700 := ⟨κ2, t2, row2, j1, j2, by rw [rowAt_append_left (row_lt j3)]; exact j3, j4, j5, j6, m2⟩
  have l0 : H0.length < (H4 ++ [rw_ [w1, w2]]).length := row_lt r2
  generalize H4 ++ [rw_ [w1, w2]] = H5 at *
  have hi : (if t1.length ≤ 64 ∧ t2.length ≤ 64 then (0 : Int) else 4) = if fpX l < BB ^ 64 ∧ fpY l < BB ^ 64 then 0 else 4 := by simp only [g1, g2]
  rw [hi]
  clear X1 X2 i1 i2 i3 i4 i5 i6 i7 j1 j2 j3 j4 j5 j6 j7 b1 b2 hB04
  by_cases hS : fpX l < BB ^ 64 ∧ fpY l < BB ^ 64
  case neg =>
    have hE8 : fpE l = 8 := by rw [hE]; exact if_neg hS
    have hN : fpN l = 0 := by unfold fpN; rw [hE8]; rfl
    have hD : fpD l = 0 := by unfold fpD; rw [hE8]; rfl
    rw [if_neg hS, hN, hD, hE8]
    simp (disch := omega) only [sN, ↓reduceIte, Nat.reduceEqDiff, Nat.reduceAdd, Nat.reduceMul, Nat.reduceSub, reduceCtorEq, e_none, e_some, e_bindS, p_build, afill, List.map_cons, List.map_nil, Option.map_some]
    rw [x_storeNA (n := 2) (r := H0.length) (l := [.nilslice, .nilslice]) (l' := [.nilslice, .nilslice]) (by simp only [e_upd, e_putS, e_putN, e_t, e_c, Nat.reduceEqDiff, ↓reduceIte, reduceCtorEq, Nat.reduceAdd]) (by simp only [e_upd, e_putS, e_putN, e_t, e_c, Nat.reduceEqDiff, ↓reduceIte, reduceCtorEq, Nat.reduceAdd]) rfl r2 rfl rfl]
    simp (disch := omega) only [sN, ↓reduceIte, Nat.reduceEqDiff, Nat.reduceAdd, Nat.reduceMul, Nat.reduceSub, reduceCtorEq, e_none, e_some, e_bindS]
    refine ret_keep (hB05.set (Nat.le_refl _)).1 ?_
    rw [rs_xFracParse, ares_cell2 (r := H0.length) (row := ⟨true, false, [.nilslice, .nilslice]⟩) (l := [.nilslice, .nilslice]) (by simp only [e_upd, e_putS, e_putN, e_t, e_c, Nat.reduceEqDiff, ↓reduceIte, reduceCtorEq, Nat.reduceAdd]) (by rw [rowAt_set l0, if_pos rfl]; rfl) rfl rfl]
    refine ⟨hB05.set (Nat.le_refl _), .nilslice, .nilslice, ?_, .nil, .nil⟩
    simp only [e_upd, e_putS, e_putN, e_t, e_c, Nat.reduceEqDiff, ↓reduceIte, reduceCtorEq, Nat.reduceAdd]
  rw [if_pos hS]
  simp (disch := omega) only [sN, ↓reduceIte, Nat.reduceEqDiff, Nat.reduceAdd, Nat.reduceMul, Nat.reduceSub, reduceCtorEq, e_none, e_some, e_bindS, r4, p_fieldAddr, Nat.zero_add, Option.bind_some, Option.map_some, List.getElem?_cons_zero, List.getElem?_cons_succ, List.map_cons, List.map_nil]
  refine call_in2 in_gcd rfl (k1.mono (by omega)) (k2.mono (by omega)) (hk_N fun R1 w3 n3 => ?_)
  simp (disch := omega) only [sN, ↓reduceIte, Nat.reduceEqDiff, Nat.reduceAdd, Nat.reduceMul, Nat.reduceSub, reduceCtorEq, e_none, e_some, e_bindS, List.map_cons, List.map_nil]
  refine call_one fun R2 w4 n4 => ?_
  simp (disch := omega) only [sN, ↓reduceIte, Nat.reduceEqDiff, Nat.reduceAdd, Nat.reduceMul, Nat.reduceSub, reduceCtorEq, e_none, e_some, e_bindS, List.map_cons, List.map_nil]
  have hgl : ((Nat.gcd (fpX l).toNat (fpY l).toNat : Nat) : Int) < BB ^ 100000 := by
    have hp : (0 : Int) < BB ^ 100000 := Int.lt_of_lt_of_le (show (0 : Int) < BB ^ 0 by decide) (BB_mono (by omega))
    rcases Nat.eq_zero_or_pos (fpY l).toNat with h | h
    · rw [h, Nat.gcd_zero_right, Int.toNat_of_nonneg hx.1]
      exact Int.lt_of_lt_of_le hS.1 (BB_mono (by omega))
    · have h1 : Nat.gcd (fpX l).toNat (fpY l).toNat ≤ (fpY l).toNat := Nat.le_of_dvd h (Nat.gcd_dvd_right _ _)
      have h2 : ((fpY l).toNat : Int) = fpY l := Int.toNat_of_nonneg hy.1
      have h3 : fpY l < BB ^ 100000 := Int.lt_of_lt_of_le hS.2 (BB_mono (by omega))
      generalize (BB : Int) ^ 100000 = U at *
      omega
  obtain ⟨s3, k3⟩ := (n3.app (R := R2)).at (by rw [rowAt_append_left (by simp; omega), rowAt_append_left (row_lt r0)]; exact r0) hgl
  obtain ⟨s4, k4⟩ := n4.at (k := 100000) (by rw [rowAt_append_left (by simp; omega), rowAt_append_left (row_lt r0)]; exact r0) (Int.lt_of_lt_of_le (show (1 : Int) < BB ^ 1 by decide) (BB_mono (by omega)))
  refine call_in2 in_compare rfl k3 k4 (hk_P (fun _ => rfl) fun R3 => ?_)
  have hR : fpE l = if ((Nat.gcd (fpX l).toNat (fpY l).toNat : Nat) : Int) = 1 ∧ fpY l ≠ 0 then 0 else 6 := by rw [hE]; exact if_pos hS
  have app3 : ∀ {i : Nat} {row : ARow}, Vh.rowAt H5 i = some row → Vh.rowAt (H5 ++ R1 ++ R2 ++ R3) i = some row := fun {i row} h => by
    have := row_lt h
    rw [List.append_assoc, List.append_assoc, rowAt_append_left this]; exact h
  have r2 := app3 r2
  have r4 := app3 r4
  have hB06 : Base H0 (H5 ++ R1 ++ R2 ++ R3) := hB05.app.app.app
  have n1 : NumV (H5 ++ R1 ++ R2 ++ R3) w1 (fpX l) H1.length := n1.app.app.app
  have n2 : NumV (H5 ++ R1 ++ R2 ++ R3) w2 (fpY l) H1.length := n2.app.app.app
  have k2 : AtK (H5 ++ R1 ++ R2 ++ R3) w2 (fpY l) s2 700 := k2.app.app.app
  have l0 : H0.length < (H5 ++ R1 ++ R2 ++ R3).length := row_lt r2
  clear k1 k3 k4 n3 n4 hgl hB05
  generalize H5 ++ R1 ++ R2 ++ R3 = H6 at *
  by_cases hg : ((Nat.gcd (fpX l).toNat (fpY l).toNat : Nat) : Int) = 1
  case neg =>
    have hc0 : (cmpI ((Nat.gcd (fpX l).toNat (fpY l).toNat : Nat) : Int) 1 != 0) = true := by
      unfold cmpI
      split
      · rfl
      · split
        · rfl
        · omega
    have hE6 : fpE l = 6 := by rw [hR]; exact if_neg fun h => hg h.1
    simp (disch := omega) only [sN, ↓reduceIte, Nat.reduceEqDiff, Nat.reduceAdd, Nat.reduceMul, Nat.reduceSub, reduceCtorEq, e_none, e_some, e_bindS, hc0, p_build, afill, List.map_cons, List.map_nil, Option.map_some]
    rw [x_storeNA (n := 2) (r := H0.length) (l := [.nilslice, .nilslice]) (l' := [.nilslice, .nilslice]) (by simp only [e_upd, e_putS, e_putN, e_t, e_c, Nat.reduceEqDiff, ↓reduceIte, reduceCtorEq, Nat.reduceAdd]) (by simp only [e_upd, e_putS, e_putN, e_t, e_c, Nat.reduceEqDiff, ↓reduceIte, reduceCtorEq, Nat.reduceAdd]) rfl r2 rfl rfl]
    simp (disch := omega) only [sN, ↓reduceIte, Nat.reduceEqDiff, Nat.reduceAdd, Nat.reduceMul, Nat.reduceSub, reduceCtorEq, e_none, e_some, e_bindS]
    exact bad hE6 _ _ (hB06.set (Nat.le_refl _)) (by simp only [e_upd, e_putS, e_putN, e_t, e_c, Nat.reduceEqDiff, ↓reduceIte, reduceCtorEq, Nat.reduceAdd]) (by rw [rowAt_set l0, if_pos rfl]; rfl) (by simp only [e_upd, e_putS, e_putN, e_t, e_c, Nat.reduceEqDiff, ↓reduceIte, reduceCtorEq, Nat.reduceAdd])
  have hc0 : (cmpI ((Nat.gcd (fpX l).toNat (fpY l).toNat : Nat) : Int) 1 != 0) = false := by rw [hg]; rfl
  simp (disch := omega) only [sN, ↓reduceIte, Nat.reduceEqDiff, Nat.reduceAdd, Nat.reduceMul, Nat.reduceSub, reduceCtorEq, e_none, e_some, e_bindS, hc0, r4, p_fieldAddr, Nat.zero_add, Option.bind_some, Option.map_some, List.getElem?_cons_zero, List.getElem?_cons_succ, List.map_cons, List.map_nil]
  refine call_in1 in_isZero rfl (k2.mono (by omega)) (hk_P (fun _ => rfl) fun R4 => ?_)
  have r2 : Vh.rowAt (H6 ++ R4) H0.length = some ⟨true, false, [.nilslice, .nilslice]⟩ := by rw [rowAt_append_left (row_lt r2)]; exact r2
  have r4 : Vh.rowAt (H6 ++ R4) p4 = some ⟨true, false, [w1, w2]⟩ := by rw [rowAt_append_left (row_lt r4)]; exact r4
  have hB07 : Base H0 (H6 ++ R4) := hB06.app
  have n1 : NumV (H6 ++ R4) w1 (fpX l) H1.length := n1.app
  have n2 : NumV (H6 ++ R4) w2 (fpY l) H1.length := n2.app
  have l0 : H0.length < (H6 ++ R4).length := row_lt r2
  clear k2 hB06
  generalize H6 ++ R4 = H7 at *
  by_cases hy0 : fpY l = 0
  · have hE6 : fpE l = 6 := by rw [hR]; exact if_neg fun h => h.2 hy0
    have hd : decide (fpY l = 0) = true := by simp [hy0]
    simp (disch := omega) only [sN, ↓reduceIte, Nat.reduceEqDiff, Nat.reduceAdd, Nat.reduceMul, Nat.reduceSub, reduceCtorEq, e_none, e_some, e_bindS, hd, p_build, afill, List.map_cons, List.map_nil, Option.map_some]
    rw [x_storeNA (n := 2) (r := H0.length) (l := [.nilslice, .nilslice]) (l' := [.nilslice, .nilslice]) (by simp only [e_upd, e_putS, e_putN, e_t, e_c, Nat.reduceEqDiff, ↓reduceIte, reduceCtorEq, Nat.reduceAdd]) (by simp only [e_upd, e_putS, e_putN, e_t, e_c, Nat.reduceEqDiff, ↓reduceIte, reduceCtorEq, Nat.reduceAdd]) rfl r2 rfl rfl]
    simp (disch := omega) only [sN, ↓reduceIte, Nat.reduceEqDiff, Nat.reduceAdd, Nat.reduceMul, Nat.reduceSub, reduceCtorEq, e_none, e_some, e_bindS]
    exact bad hE6 _ _ (hB07.set (Nat.le_refl _)) (by simp only [e_upd, e_putS, e_putN, e_t, e_c, Nat.reduceEqDiff, ↓reduceIte, reduceCtorEq, Nat.reduceAdd]) (by rw [rowAt_set l0, if_pos rfl]; rfl) (by simp only [e_upd, e_putS, e_putN, e_t, e_c, Nat.reduceEqDiff, ↓reduceIte, reduceCtorEq, Nat.reduceAdd])
  · have hE0 : fpE l = 0 := by rw [hR]; exact if_pos ⟨hg, hy0⟩
    have hd : decide (fpY l = 0) = false := by simp [hy0]
    have hN : fpN l = fpX l := by unfold fpN; rw [if_pos hE0]
    have hD : fpD l = fpY l := by unfold fpD; rw [if_pos hE0]
    rw [hN, hD, hE0]
    simp (disch := omega) only [sN, ↓reduceIte, Nat.reduceEqDiff, Nat.reduceAdd, Nat.reduceMul, Nat.reduceSub, reduceCtorEq, e_none, e_some, e_bindS, hd]
    rw [x_loadNA (n := 2) (r := p4) (l := [w1, w2]) (by simp only [e_upd, e_putS, e_putN, e_t, e_c, Nat.reduceEqDiff, ↓reduceIte, reduceCtorEq, Nat.reduceAdd]) r4 rfl rfl]
    simp (disch := omega) only [sN, ↓reduceIte, Nat.reduceEqDiff, Nat.reduceAdd, Nat.reduceMul, Nat.reduceSub, reduceCtorEq, e_none, e_some, e_bindS]
    rw [x_storeNA (n := 2) (r := H0.length) (l := [.nilslice, .nilslice]) (l' := [w1, w2]) (by simp only [e_upd, e_putS, e_putN, e_t, e_c, Nat.reduceEqDiff, ↓reduceIte, reduceCtorEq, Nat.reduceAdd]) (by simp only [e_upd, e_putS, e_putN, e_t, e_c, Nat.reduceEqDiff, ↓reduceIte, reduceCtorEq, Nat.reduceAdd]) (by simp [c1, c2]) r2 rfl rfl]
    simp (disch := omega) only [sN, ↓reduceIte, Nat.reduceEqDiff, Nat.reduceAdd, Nat.reduceMul, Nat.reduceSub, reduceCtorEq, e_none, e_some, e_bindS]
    refine ret_keep (hB07.set (Nat.le_refl _)).1 ?_
    rw [rs_xFracParse, ares_cell2 (r := H0.length) (row := ⟨true, false, [w1, w2]⟩) (l := [w1, w2]) (by simp only [e_upd, e_putS, e_putN, e_t, e_c, Nat.reduceEqDiff, ↓reduceIte, reduceCtorEq, Nat.reduceAdd]) (by rw [rowAt_set l0, if_pos rfl]; rfl) rfl rfl]
    refine ⟨hB07.set (Nat.le_refl _), w1, w2, ?_, (n1.set l01).le hB1.1, (n2.set l01).le hB1.1⟩
    simp only [e_upd, e_putS, e_putN, e_t, e_c, Nat.reduceEqDiff, ↓reduceIte, reduceCtorEq, Nat.reduceAdd]
end Go.Proofs.YtjmceapnhmeflaaDoor


/- A number is read from its text. -/
-- NEWSET
namespace Go.Proofs.YtjmceapnhmeflaaDoor
open Go Go.Vh

theorem tb_rev (d : Int) (D : List Int) : (tb (d :: D)).reverse = (tb D).reverse ++ [48 + d] := by
  simp [tb]

theorem vd_app (r s : List Int) : ∀ k, k ≤ r.length → vd (r ++ s) k = vd r k
  | 0, _ => rfl
  | k + 1, h => by
    simp only [vd]
    rw [vd_app r s k (by omega)]
    have : (r ++ s).getD k 0 = r.getD k 0 := by simp [List.getD_eq_getElem?_getD, List.getElem?_append_left (show k < r.length by omega)]
    rw [this]
theorem vd_snoc (r : List Int) (x : Int) : vd (r ++ [x]) (r ++ [x]).length = vd r r.length * 10 + (x - 48) := by
  have : (r ++ [x]).length = r.length + 1 := by simp
  rw [this]
  simp only [vd]
  rw [vd_app r [x] r.length (Nat.le_refl _)]
  simp [List.getD_eq_getElem?_getD]
theorem vd_tb : ∀ D : List Int, vd (tb D).reverse (tb D).reverse.length = Dt.num D
  | [] => rfl
  | d :: D => by
    rw [tb_rev, vd_snoc, vd_tb D, Dt.num_cons]
    omega

theorem txN_bytes (n : Nat) : Bytes (txN n) := by
  unfold txN
  split
  · intro x hx; simp at hx; omega
  · intro x hx; exact tb_bytes (Dt.dg_dl n) x (List.mem_reverse.1 hx)
theorem txN_digit {n : Nat} {x : Int} (h : x ∈ txN n) : 48 ≤ x ∧ x ≤ 57 := by
  unfold txN at h
  split at h
  · simp at h; omega
  · rw [List.mem_reverse] at h
    simp only [tb, List.mem_map] at h
    obtain ⟨y, hy, rfl⟩ := h
    obtain ⟨i, hi⟩ := List.mem_iff_getElem?.1 hy
    have := Dt.dg_dl n i
    rw [List.getD_eq_getElem?_getD, hi] at this
    simp only [Option.getD_some] at this
    omega
theorem vd_txN (n : Nat) : vd (txN n) (txN n).length = (n : Int) := by
  unfold txN
  split
  · rename_i h; subst h; rfl
  · rw [vd_tb, Dt.dg_num]
end Go.Proofs.YtjmceapnhmeflaaDoor


/- Contracts: the reference's read, result and Parse. -/
-- NEWSET
namespace Go.Proofs.YtjmceapnhmeflaaDoor
open Go Go.Vh

theorem eql_nil : abin .eql (.str (strOfNums [])) (.str ⟨#[]⟩) = some (.bool true) := by
  show some (AV.bool ((strOfNums []).toList == (⟨#[]⟩ : ByteArray).toList)) = _
  rw [ByteArray.toList_eq, ByteArray.toList_eq]; rfl
theorem dg_pow {x : Nat} {i : Nat} (h : (x : Int) < BB ^ i) : (Dg.dg x).length ≤ 4 * i := by
  refine Dg.dg_len_le ?_
  have e : ((256 ^ (4 * i) : Nat) : Int) = BB ^ i := by
    rw [Nat.pow_mul, Int.natCast_pow]; rfl
  omega
set_option maxHeartbeats 2000000 in
theorem kread_calls (H0 : AHeap) {row0 : ARow} (hr0 : Vh.rowAt H0 0 = some row0) (l : List Int) (hb : Bytes l) (hm : l.length ≤ 9223372036854775800) : ACalls Tryd.prog 68 [.str (strOfNums l)] H0 (List.range H0.length) fun v H => Base H0 H ∧ ((isN l = true ∧ ∃ w r, v = .tuple [w, .bool true] ∧ AtD H w (vd l l.length).toNat r ∧ w.cell = true) ∨ (isN l = false ∧ v = .tuple [.nilslice, .bool false])) := by
  refine ACalls.body Tryd.func68 ent_kread ir_kread_ok rs_kread_ok Tryd.ntmps68 (by simp) rfl ?_
  unfold ir_kread
  have e0 : s0 [.str (strOfNums l)] 0 = .str (strOfNums l) := rfl
  have bad : isN l = false → ∀ (s : St) (H : AHeap), Base H0 H → s 2 = .nilslice → s 3 = .bool false → retPost H0.length rs_kread (fun v H => Base H0 H ∧ ((isN l = true ∧ ∃ w r, v = .tuple [w, .bool true] ∧ AtD H w (vd l l.length).toNat r ∧ w.cell = true) ∨ (isN l = false ∧ v = .tuple [.nilslice, .bool false]))) .ret s H := fun hn s H hB h2 h3 => by
    refine ret_keep hB.1 ?_
    rw [rs_kread, q_tmp2, q_then]
    exact ⟨hB, .inr ⟨hn, by rw [h2, h3]⟩⟩
  simp (disch := omega) only [sN, ↓reduceIte, Nat.reduceEqDiff, Nat.reduceAdd, Nat.reduceMul, Nat.reduceSub, reduceCtorEq, e_none, e_some, e_bindS, e0]
  by_cases h0 : l = []
  · have he : abin .eql (.str (strOfNums l)) (.str ⟨#[]⟩) = some (.bool true) := by rw [h0]; exact eql_nil
    simp (disch := omega) only [sN, ↓reduceIte, Nat.reduceEqDiff, Nat.reduceAdd, Nat.reduceMul, Nat.reduceSub, reduceCtorEq, e_none, e_some, e_bindS, e0, he]
    exact bad (isN_no (by rw [h0]; simp)) _ _ Base.refl (by simp only [e_upd, e_putS, e_putN, e_t, e_c, Nat.reduceEqDiff, ↓reduceIte, reduceCtorEq, Nat.reduceAdd]) (by simp only [e_upd, e_putS, e_putN, e_t, e_c, Nat.reduceEqDiff, ↓reduceIte, reduceCtorEq, Nat.reduceAdd])
  have hl0 : 0 < l.length := List.length_pos_iff.2 h0
  simp (disch := omega) only [sN, ↓reduceIte, Nat.reduceEqDiff, Nat.reduceAdd, Nat.reduceMul, Nat.reduceSub, reduceCtorEq, e_none, e_some, e_bindS, e0, eql_empty h0]
  rw [p_lenStrN (l := l) (by simp only [e_upd, e_putS, e_putN, e_t, e_c, Nat.reduceEqDiff, ↓reduceIte, reduceCtorEq, Nat.reduceAdd, e0])]
  by_cases h1 : l.length ≤ 617
  case neg =>
    simp (disch := omega) only [sN, ↓reduceIte, Nat.reduceEqDiff, Nat.reduceAdd, Nat.reduceMul, Nat.reduceSub, reduceCtorEq, e_none, e_some, e_bindS, e0]
    exact bad (isN_no (by omega)) _ _ Base.refl (by simp only [e_upd, e_putS, e_putN, e_t, e_c, Nat.reduceEqDiff, ↓reduceIte, reduceCtorEq, Nat.reduceAdd]) (by simp only [e_upd, e_putS, e_putN, e_t, e_c, Nat.reduceEqDiff, ↓reduceIte, reduceCtorEq, Nat.reduceAdd])
  simp (disch := omega) only [sN, ↓reduceIte, Nat.reduceEqDiff, Nat.reduceAdd, Nat.reduceMul, Nat.reduceSub, reduceCtorEq, e_none, e_some, e_bindS, e0]
  rw [p_idxStrN (l := l) (i := 0) (k := .i64) (by simp only [e_upd, e_putS, e_putN, e_t, e_c, Nat.reduceEqDiff, ↓reduceIte, reduceCtorEq, Nat.reduceAdd, e0]) (by simp only [e_upd, e_putS, e_putN, e_t, e_c, Nat.reduceEqDiff, ↓reduceIte, reduceCtorEq, Nat.reduceAdd]; rfl) hb hl0]
  by_cases h3 : l.getD 0 0 = 48
  · have hq : (l.getD 0 0 == (48 : Int)) = true := by rw [h3]; rfl
    simp (disch := omega) only [sN, ↓reduceIte, Nat.reduceEqDiff, Nat.reduceAdd, Nat.reduceMul, Nat.reduceSub, reduceCtorEq, e_none, e_some, e_bindS, e0, hq]
    rw [p_lenStrN (l := l) (by simp only [e_upd, e_putS, e_putN, e_t, e_c, Nat.reduceEqDiff, ↓reduceIte, reduceCtorEq, Nat.reduceAdd, e0])]
    by_cases h2 : l.length = 1
    case neg =>
      simp (disch := omega) only [sN, ↓reduceIte, Nat.reduceEqDiff, Nat.reduceAdd, Nat.reduceMul, Nat.reduceSub, reduceCtorEq, e_none, e_some, e_bindS, e0]
      exact bad (isN_no (by omega)) _ _ Base.refl (by simp only [e_upd, e_putS, e_putN, e_t, e_c, Nat.reduceEqDiff, ↓reduceIte, reduceCtorEq, Nat.reduceAdd]) (by simp only [e_upd, e_putS, e_putN, e_t, e_c, Nat.reduceEqDiff, ↓reduceIte, reduceCtorEq, Nat.reduceAdd])
    simp (disch := omega) only [sN, ↓reduceIte, Nat.reduceEqDiff, Nat.reduceAdd, Nat.reduceMul, Nat.reduceSub, reduceCtorEq, e_none, e_some, e_bindS, e0]
    refine ⟨fun m s H => ∃ (i : Nat) (w : AV) (r : Nat), m = l.length - i ∧ i ≤ l.length ∧ (∀ j, j < i → 48 ≤ l.getD j 0 ∧ l.getD j 0 ≤ 57) ∧ Base H0 H ∧ AtD H w (vd l i).toNat r ∧ w.cell = true ∧ 0 ≤ vd l i ∧ vd l i < BB ^ i ∧ s 0 = .str (strOfNums l) ∧ s 4 = w ∧ s 5 = .int .i64 (i : Int), l.length, ⟨0, .nilslice, 0, rfl, by omega, fun j h => by omega, Base.refl, AtD.zero hr0, rfl, Int.le_refl _, by show (0 : Int) < BB ^ 0; decide, ?_, ?_, ?_⟩, ?_⟩
    · simp only [e_upd, e_putS, e_putN, e_t, e_c, Nat.reduceEqDiff, ↓reduceIte, reduceCtorEq, Nat.reduceAdd, e0]
    · simp only [e_upd, e_putS, e_putN, e_t, e_c, Nat.reduceEqDiff, ↓reduceIte, reduceCtorEq, Nat.reduceAdd]
    · simp only [e_upd, e_putS, e_putN, e_t, e_c, Nat.reduceEqDiff, ↓reduceIte, reduceCtorEq, Nat.reduceAdd]; rfl
    rintro m s H ⟨i, w, r, rfl, hi, hall, hB, hA, hc, v0, v1, k0, k4, k5⟩
    simp (disch := omega) only [sN, ↓reduceIte, Nat.reduceEqDiff, Nat.reduceAdd, Nat.reduceMul, Nat.reduceSub, reduceCtorEq, e_none, e_some, e_bindS, k0, k4, k5]
    rw [p_lenStrN (l := l) (by simp only [e_upd, e_putS, e_putN, e_t, e_c, Nat.reduceEqDiff, ↓reduceIte, reduceCtorEq, Nat.reduceAdd, k0])]
    by_cases hlt : i < l.length
    · have hbi := bytes_at hb hlt
      simp (disch := omega) only [sN, ↓reduceIte, Nat.reduceEqDiff, Nat.reduceAdd, Nat.reduceMul, Nat.reduceSub, reduceCtorEq, e_none, e_some, e_bindS, k0, k4, k5]
      rw [p_idxStrN (l := l) (i := i) (k := .i64) (by simp only [e_upd, e_putS, e_putN, e_t, e_c, Nat.reduceEqDiff, ↓reduceIte, reduceCtorEq, Nat.reduceAdd, k0]) (by simp only [e_upd, e_putS, e_putN, e_t, e_c, Nat.reduceEqDiff, ↓reduceIte, reduceCtorEq, Nat.reduceAdd, k5]) hb hlt]
      by_cases q1 : 48 ≤ l.getD i 0
      · simp (disch := omega) only [sN, ↓reduceIte, Nat.reduceEqDiff, Nat.reduceAdd, Nat.reduceMul, Nat.reduceSub, reduceCtorEq, e_none, e_some, e_bindS, k0, k4, k5]
        rw [p_idxStrN (l := l) (i := i) (k := .i64) (by simp only [e_upd, e_putS, e_putN, e_t, e_c, Nat.reduceEqDiff, ↓reduceIte, reduceCtorEq, Nat.reduceAdd, k0]) (by simp only [e_upd, e_putS, e_putN, e_t, e_c, Nat.reduceEqDiff, ↓reduceIte, reduceCtorEq, Nat.reduceAdd, k5]) hb hlt]
        by_cases q2 : l.getD i 0 ≤ 57
        · simp (disch := omega) only [sN, ↓reduceIte, Nat.reduceEqDiff, Nat.reduceAdd, Nat.reduceMul, Nat.reduceSub, reduceCtorEq, e_none, e_some, e_bindS, k0, k4, k5]
          rw [p_idxStrN (l := l) (i := i) (k := .i64) (by simp only [e_upd, e_putS, e_putN, e_t, e_c, Nat.reduceEqDiff, ↓reduceIte, reduceCtorEq, Nat.reduceAdd, k0]) (by simp only [e_upd, e_putS, e_putN, e_t, e_c, Nat.reduceEqDiff, ↓reduceIte, reduceCtorEq, Nat.reduceAdd, k5]) hb hlt]
          have w1 : IntKind.u8.wrap (l.getD i 0 - 48) = l.getD i 0 - 48 := by rw [IntKind.wrap_u8]; omega
          simp (disch := omega) only [sN, ↓reduceIte, Nat.reduceEqDiff, Nat.reduceAdd, Nat.reduceMul, Nat.reduceSub, reduceCtorEq, e_none, e_some, e_bindS, k0, k4, k5, w1, List.map_cons, List.map_nil]
          obtain ⟨c, hcd⟩ : ∃ c : Nat, (c : Int) = l.getD i 0 - 48 := ⟨(l.getD i 0 - 48).toNat, by omega⟩
          have hb1 : (Dg.dg (vd l i).toNat).length ≤ 2468 := Nat.le_trans (dg_pow (i := i) (by omega)) (by omega)
          have hb2 : (Dg.dg 10).length ≤ 4 := dg_pow (i := 1) (by decide)
          have hb3 : (Dg.dg c).length ≤ 4 := dg_pow (i := 1) (Int.lt_of_le_of_lt (show (c : Int) ≤ 9 by omega) (by decide))
          have v2 : (((vd l i).toNat * 10 : Nat) : Int) < BB ^ (i + 1) := by
            have e : (BB : Int) ^ (i + 1) = BB ^ i * 4294967296 := Int.pow_succ _ _
            rw [e]
            generalize (BB : Int) ^ i = U at *
            omega
          have hb4 : (Dg.dg ((vd l i).toNat * 10)).length ≤ 3000 := Nat.le_trans (dg_pow (i := i + 1) v2) (by omega)
          refine call_small (n := 10) (by omega) fun wa ra _ _ ha ca => ?_
          simp (disch := omega) only [sN, ↓reduceIte, Nat.reduceEqDiff, Nat.reduceAdd, Nat.reduceMul, Nat.reduceSub, reduceCtorEq, e_none, e_some, e_bindS, k0, k4, k5, List.map_cons, List.map_nil]
          refine call_mul (x := (vd l i).toNat) (y := 10) (by omega) (by omega) (hA.base (Base.one (R := [some _]))) ha fun wb rb _ _ hb' cb => ?_
          simp (disch := omega) only [sN, ↓reduceIte, Nat.reduceEqDiff, Nat.reduceAdd, Nat.reduceMul, Nat.reduceSub, reduceCtorEq, e_none, e_some, e_bindS, k0, k4, k5, List.map_cons, List.map_nil]
          rw [← hcd]
          refine call_small (n := c) (by omega) fun wc rc _ _ hc' cc => ?_
          simp (disch := omega) only [sN, ↓reduceIte, Nat.reduceEqDiff, Nat.reduceAdd, Nat.reduceMul, Nat.reduceSub, reduceCtorEq, e_none, e_some, e_bindS, k0, k4, k5, List.map_cons, List.map_nil]
          refine call_add (x := (vd l i).toNat * 10) (y := c) (by omega) (by omega) (hb'.base (Base.one (R := [some _]))) hc' fun wd rd _ _ hd' cd => ?_
          have ev : (vd l i).toNat * 10 + c = (vd l (i + 1)).toNat := by
            simp only [vd]; omega
          have ev0 : 0 ≤ vd l (i + 1) := by simp only [vd]; omega
          have ev1 : vd l (i + 1) < BB ^ (i + 1) := by
            have e : (BB : Int) ^ (i + 1) = BB ^ i * 4294967296 := Int.pow_succ _ _
            rw [e]
            simp only [vd]
            generalize (BB : Int) ^ i = U at *
            omega
          rw [ev] at hd'
          simp (disch := omega) only [sN, ↓reduceIte, Nat.reduceEqDiff, Nat.reduceAdd, Nat.reduceMul, Nat.reduceSub, reduceCtorEq, e_none, e_some, e_bindS, k0, k4, k5]
          refine loop_keep (m := l.length - (i + 1)) (by omega) ⟨i + 1, wd, _, rfl, by omega, fun j hj => ?_, hB.app.app.app.app, hd', cd, ev0, ev1, ?_, ?_, ?_⟩
          · rcases Nat.lt_or_ge j i with h | h
            · exact hall j h
            · obtain rfl : j = i := by omega
              exact ⟨q1, q2⟩
          · simp only [e_upd, e_putS, e_putN, e_t, e_c, Nat.reduceEqDiff, ↓reduceIte, reduceCtorEq, Nat.reduceAdd, k0]
          · simp only [e_upd, e_putS, e_putN, e_t, e_c, Nat.reduceEqDiff, ↓reduceIte, reduceCtorEq, Nat.reduceAdd]
          · simp only [e_upd, e_putS, e_putN, e_t, e_c, Nat.reduceEqDiff, ↓reduceIte, reduceCtorEq, Nat.reduceAdd]; rfl
        · simp (disch := omega) only [sN, ↓reduceIte, Nat.reduceEqDiff, Nat.reduceAdd, Nat.reduceMul, Nat.reduceSub, reduceCtorEq, e_none, e_some, e_bindS, k0, k4, k5]
          exact bad (dgs_no hlt (by omega)) _ _ hB (by simp only [e_upd, e_putS, e_putN, e_t, e_c, Nat.reduceEqDiff, ↓reduceIte, reduceCtorEq, Nat.reduceAdd]) (by simp only [e_upd, e_putS, e_putN, e_t, e_c, Nat.reduceEqDiff, ↓reduceIte, reduceCtorEq, Nat.reduceAdd])
      · simp (disch := omega) only [sN, ↓reduceIte, Nat.reduceEqDiff, Nat.reduceAdd, Nat.reduceMul, Nat.reduceSub, reduceCtorEq, e_none, e_some, e_bindS, k0, k4, k5]
        exact bad (dgs_no hlt (by omega)) _ _ hB (by simp only [e_upd, e_putS, e_putN, e_t, e_c, Nat.reduceEqDiff, ↓reduceIte, reduceCtorEq, Nat.reduceAdd]) (by simp only [e_upd, e_putS, e_putN, e_t, e_c, Nat.reduceEqDiff, ↓reduceIte, reduceCtorEq, Nat.reduceAdd])
    · obtain rfl : i = l.length := by omega
      simp (disch := omega) only [sN, ↓reduceIte, Nat.reduceEqDiff, Nat.reduceAdd, Nat.reduceMul, Nat.reduceSub, reduceCtorEq, e_none, e_some, e_bindS, k0, k4, k5]
      refine ret_keep hB.1 ?_
      rw [rs_kread, q_tmp2, q_then]
      have hd : dgs l = true := decide_eq_true fun j hj => hall j hj
      have hN : isN l = true := by unfold isN; rw [hd, Bool.and_true]; exact decide_eq_true ⟨hl0, h1, .inl h2⟩
      refine ⟨hB, .inl ⟨hN, w, r, ?_, hA, hc⟩⟩
      simp only [e_upd, e_putS, e_putN, e_t, e_c, Nat.reduceEqDiff, ↓reduceIte, reduceCtorEq, Nat.reduceAdd, k4]
  · have hq : (l.getD 0 0 == (48 : Int)) = false := by simpa using h3
    simp (disch := omega) only [sN, ↓reduceIte, Nat.reduceEqDiff, Nat.reduceAdd, Nat.reduceMul, Nat.reduceSub, reduceCtorEq, e_none, e_some, e_bindS, e0, hq]
    refine ⟨fun m s H => ∃ (i : Nat) (w : AV) (r : Nat), m = l.length - i ∧ i ≤ l.length ∧ (∀ j, j < i → 48 ≤ l.getD j 0 ∧ l.getD j 0 ≤ 57) ∧ Base H0 H ∧ AtD H w (vd l i).toNat r ∧ w.cell = true ∧ 0 ≤ vd l i ∧ vd l i < BB ^ i ∧ s 0 = .str (strOfNums l) ∧ s 4 = w ∧ s 5 = .int .i64 (i : Int), l.length, ⟨0, .nilslice, 0, rfl, by omega, fun j h => by omega, Base.refl, AtD.zero hr0, rfl, Int.le_refl _, by show (0 : Int) < BB ^ 0; decide, ?_, ?_, ?_⟩, ?_⟩
    · simp only [e_upd, e_putS, e_putN, e_t, e_c, Nat.reduceEqDiff, ↓reduceIte, reduceCtorEq, Nat.reduceAdd, e0]
    · simp only [e_upd, e_putS, e_putN, e_t, e_c, Nat.reduceEqDiff, ↓reduceIte, reduceCtorEq, Nat.reduceAdd]
    · simp only [e_upd, e_putS, e_putN, e_t, e_c, Nat.reduceEqDiff, ↓reduceIte, reduceCtorEq, Nat.reduceAdd]; rfl
    rintro m s H ⟨i, w, r, rfl, hi, hall, hB, hA, hc, v0, v1, k0, k4, k5⟩
    simp (disch := omega) only [sN, ↓reduceIte, Nat.reduceEqDiff, Nat.reduceAdd, Nat.reduceMul, Nat.reduceSub, reduceCtorEq, e_none, e_some, e_bindS, k0, k4, k5]
    rw [p_lenStrN (l := l) (by simp only [e_upd, e_putS, e_putN, e_t, e_c, Nat.reduceEqDiff, ↓reduceIte, reduceCtorEq, Nat.reduceAdd, k0])]
    by_cases hlt : i < l.length
    · have hbi := bytes_at hb hlt
      simp (disch := omega) only [sN, ↓reduceIte, Nat.reduceEqDiff, Nat.reduceAdd, Nat.reduceMul, Nat.reduceSub, reduceCtorEq, e_none, e_some, e_bindS, k0, k4, k5]
      rw [p_idxStrN (l := l) (i := i) (k := .i64) (by simp only [e_upd, e_putS, e_putN, e_t, e_c, Nat.reduceEqDiff, ↓reduceIte, reduceCtorEq, Nat.reduceAdd, k0]) (by simp only [e_upd, e_putS, e_putN, e_t, e_c, Nat.reduceEqDiff, ↓reduceIte, reduceCtorEq, Nat.reduceAdd, k5]) hb hlt]
      by_cases q1 : 48 ≤ l.getD i 0
      · simp (disch := omega) only [sN, ↓reduceIte, Nat.reduceEqDiff, Nat.reduceAdd, Nat.reduceMul, Nat.reduceSub, reduceCtorEq, e_none, e_some, e_bindS, k0, k4, k5]
        rw [p_idxStrN (l := l) (i := i) (k := .i64) (by simp only [e_upd, e_putS, e_putN, e_t, e_c, Nat.reduceEqDiff, ↓reduceIte, reduceCtorEq, Nat.reduceAdd, k0]) (by simp only [e_upd, e_putS, e_putN, e_t, e_c, Nat.reduceEqDiff, ↓reduceIte, reduceCtorEq, Nat.reduceAdd, k5]) hb hlt]
        by_cases q2 : l.getD i 0 ≤ 57
        · simp (disch := omega) only [sN, ↓reduceIte, Nat.reduceEqDiff, Nat.reduceAdd, Nat.reduceMul, Nat.reduceSub, reduceCtorEq, e_none, e_some, e_bindS, k0, k4, k5]
          rw [p_idxStrN (l := l) (i := i) (k := .i64) (by simp only [e_upd, e_putS, e_putN, e_t, e_c, Nat.reduceEqDiff, ↓reduceIte, reduceCtorEq, Nat.reduceAdd, k0]) (by simp only [e_upd, e_putS, e_putN, e_t, e_c, Nat.reduceEqDiff, ↓reduceIte, reduceCtorEq, Nat.reduceAdd, k5]) hb hlt]
          have w1 : IntKind.u8.wrap (l.getD i 0 - 48) = l.getD i 0 - 48 := by rw [IntKind.wrap_u8]; omega
          simp (disch := omega) only [sN, ↓reduceIte, Nat.reduceEqDiff, Nat.reduceAdd, Nat.reduceMul, Nat.reduceSub, reduceCtorEq, e_none, e_some, e_bindS, k0, k4, k5, w1, List.map_cons, List.map_nil]
          obtain ⟨c, hcd⟩ : ∃ c : Nat, (c : Int) = l.getD i 0 - 48 := ⟨(l.getD i 0 - 48).toNat, by omega⟩
          have hb1 : (Dg.dg (vd l i).toNat).length ≤ 2468 := Nat.le_trans (dg_pow (i := i) (by omega)) (by omega)
          have hb2 : (Dg.dg 10).length ≤ 4 := dg_pow (i := 1) (by decide)
          have hb3 : (Dg.dg c).length ≤ 4 := dg_pow (i := 1) (Int.lt_of_le_of_lt (show (c : Int) ≤ 9 by omega) (by decide))
          have v2 : (((vd l i).toNat * 10 : Nat) : Int) < BB ^ (i + 1) := by
            have e : (BB : Int) ^ (i + 1) = BB ^ i * 4294967296 := Int.pow_succ _ _
            rw [e]
            generalize (BB : Int) ^ i = U at *
            omega
          have hb4 : (Dg.dg ((vd l i).toNat * 10)).length ≤ 3000 := Nat.le_trans (dg_pow (i := i + 1) v2) (by omega)
          refine call_small (n := 10) (by omega) fun wa ra _ _ ha ca => ?_
          simp (disch := omega) only [sN, ↓reduceIte, Nat.reduceEqDiff, Nat.reduceAdd, Nat.reduceMul, Nat.reduceSub, reduceCtorEq, e_none, e_some, e_bindS, k0, k4, k5, List.map_cons, List.map_nil]
          refine call_mul (x := (vd l i).toNat) (y := 10) (by omega) (by omega) (hA.base (Base.one (R := [some _]))) ha fun wb rb _ _ hb' cb => ?_
          simp (disch := omega) only [sN, ↓reduceIte, Nat.reduceEqDiff, Nat.reduceAdd, Nat.reduceMul, Nat.reduceSub, reduceCtorEq, e_none, e_some, e_bindS, k0, k4, k5, List.map_cons, List.map_nil]
          rw [← hcd]
          refine call_small (n := c) (by omega) fun wc rc _ _ hc' cc => ?_
          simp (disch := omega) only [sN, ↓reduceIte, Nat.reduceEqDiff, Nat.reduceAdd, Nat.reduceMul, Nat.reduceSub, reduceCtorEq, e_none, e_some, e_bindS, k0, k4, k5, List.map_cons, List.map_nil]
          refine call_add (x := (vd l i).toNat * 10) (y := c) (by omega) (by omega) (hb'.base (Base.one (R := [some _]))) hc' fun wd rd _ _ hd' cd => ?_
          have ev : (vd l i).toNat * 10 + c = (vd l (i + 1)).toNat := by
            simp only [vd]; omega
          have ev0 : 0 ≤ vd l (i + 1) := by simp only [vd]; omega
          have ev1 : vd l (i + 1) < BB ^ (i + 1) := by
            have e : (BB : Int) ^ (i + 1) = BB ^ i * 4294967296 := Int.pow_succ _ _
            rw [e]
            simp only [vd]
            generalize (BB : Int) ^ i = U at *
            omega
          rw [ev] at hd'
          simp (disch := omega) only [sN, ↓reduceIte, Nat.reduceEqDiff, Nat.reduceAdd, Nat.reduceMul, Nat.reduceSub, reduceCtorEq, e_none, e_some, e_bindS, k0, k4, k5]
          refine loop_keep (m := l.length - (i + 1)) (by omega) ⟨i + 1, wd, _, rfl, by omega, fun j hj => ?_, hB.app.app.app.app, hd', cd, ev0, ev1, ?_, ?_, ?_⟩
          · rcases Nat.lt_or_ge j i with h | h
            · exact hall j h
            · obtain rfl : j = i := by omega
              exact ⟨q1, q2⟩
          · simp only [e_upd, e_putS, e_putN, e_t, e_c, Nat.reduceEqDiff, ↓reduceIte, reduceCtorEq, Nat.reduceAdd, k0]
          · simp only [e_upd, e_putS, e_putN, e_t, e_c, Nat.reduceEqDiff, ↓reduceIte, reduceCtorEq, Nat.reduceAdd]
          · simp only [e_upd, e_putS, e_putN, e_t, e_c, Nat.reduceEqDiff, ↓reduceIte, reduceCtorEq, Nat.reduceAdd]; rfl
        · simp (disch := omega) only [sN, ↓reduceIte, Nat.reduceEqDiff, Nat.reduceAdd, Nat.reduceMul, Nat.reduceSub, reduceCtorEq, e_none, e_some, e_bindS, k0, k4, k5]
          exact bad (dgs_no hlt (by omega)) _ _ hB (by simp only [e_upd, e_putS, e_putN, e_t, e_c, Nat.reduceEqDiff, ↓reduceIte, reduceCtorEq, Nat.reduceAdd]) (by simp only [e_upd, e_putS, e_putN, e_t, e_c, Nat.reduceEqDiff, ↓reduceIte, reduceCtorEq, Nat.reduceAdd])
      · simp (disch := omega) only [sN, ↓reduceIte, Nat.reduceEqDiff, Nat.reduceAdd, Nat.reduceMul, Nat.reduceSub, reduceCtorEq, e_none, e_some, e_bindS, k0, k4, k5]
        exact bad (dgs_no hlt (by omega)) _ _ hB (by simp only [e_upd, e_putS, e_putN, e_t, e_c, Nat.reduceEqDiff, ↓reduceIte, reduceCtorEq, Nat.reduceAdd]) (by simp only [e_upd, e_putS, e_putN, e_t, e_c, Nat.reduceEqDiff, ↓reduceIte, reduceCtorEq, Nat.reduceAdd])
    · obtain rfl : i = l.length := by omega
      simp (disch := omega) only [sN, ↓reduceIte, Nat.reduceEqDiff, Nat.reduceAdd, Nat.reduceMul, Nat.reduceSub, reduceCtorEq, e_none, e_some, e_bindS, k0, k4, k5]
      refine ret_keep hB.1 ?_
      rw [rs_kread, q_tmp2, q_then]
      have hd : dgs l = true := decide_eq_true fun j hj => hall j hj
      have hN : isN l = true := by unfold isN; rw [hd, Bool.and_true]; exact decide_eq_true ⟨hl0, h1, .inr h3⟩
      refine ⟨hB, .inl ⟨hN, w, r, ?_, hA, hc⟩⟩
      simp only [e_upd, e_putS, e_putN, e_t, e_c, Nat.reduceEqDiff, ↓reduceIte, reduceCtorEq, Nat.reduceAdd, k4]

end Go.Proofs.YtjmceapnhmeflaaDoor

