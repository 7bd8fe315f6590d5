/- From a contract to a row: a law with plain arguments. -/
import Derived.Test.YthbhljolpnbdlaaV6
import Derived.ProofKit
import Derived.ChangeSame
import Derived.OpenShut
import Derived.Carry
import Derived.ChangeSlices
set_option linter.unusedSimpArgs false
set_option linter.unusedVariables false
namespace Go.Vh
open Go Go.ChangeShapes Go.WideShapes Go.RowKit Go.ChangeAt

/-- Old blocks are as they were. -/
theorem keptBut_of_frm {w w' : World} (h : Frm w.heap.size (fun _ => False) w w') (may : MemPlace → Prop) : w.keptBut w' may := by
  refine ⟨h.os, h.output, fun i hi => ?_⟩
  rw [h.block i hi id]
  cases w.heap[i]? with
  | none => rfl
  | some o => cases o <;> simp

section
variable {P : Program} {H : Type} {enc : TypeId × Value → H}

/-- 'post_of_same', where old blocks alone count. -/
theorem post_of_old {f : Func} {s : ChangeSpec} {apart fresh handsOn again : Bool} {W W' : World} {args : Array Value} {v : Value} {ds gs : List (DataW H)} {before pa pv : List MemPlace}
    (hW : DataW.Whole enc P f.params.toList s.vars apart W args.toList ds gs before)
    (hres : ∀ (b : Nat) (sp : Nat → Bool) (hd : Bool), DataW.TrodAll enc P W' b sp hd f.resultTypes.toList (v.resultList f.resultTypes.size) (s.fn H (ds ++ gs)).results [])
    (hargs : ∀ sp : Nat → Bool, (∀ p ∈ before, sp p.block = true) → DataW.TrodAll enc P W' 0 sp true f.params.toList args.toList (s.fn H (ds ++ gs)).args pa)
    (hvars : ∀ sp : Nat → Bool, (∀ p ∈ before, sp p.block = true) → DataW.TrodVars enc P W' sp s.vars (s.fn H (ds ++ gs)).vars pv)
    (hps : before = pa ++ pv) (hf : Frm W.heap.size (fun _ => False) W W')
    (hok : ∀ (j : Nat) (t : TypeId) (r : Value), f.resultTypes[j]? = some t → (v.resultList f.resultTypes.size)[j]? = some r → Value.okWide P W' .any 0 t r) :
    s.post enc P f apart fresh handsOn again W args v W' := by
  have hold : ∀ p ∈ before, (fun b => decide (b < W.heap.size)) p.block = true := fun p hp => by simpa using hW.lt p hp
  have hlt := hW.lt
  refine ⟨ds, gs, before, [], pa, pv, hW, hres _ _ _, hargs _ hold, hvars _ hold, World.keptBut_mono (fun p hp => ⟨hp, ?_⟩) (keptBut_of_frm hf (· ∈ before)), fun _ => ?_⟩
  · rw [hps, List.mem_append] at hp
    exact Or.inr hp
  · obtain ⟨_, _, _, _, _, hz, hn⟩ := hW
    refine ⟨hok, _, _, ([] ++ pa) ++ pv, ⟨[] ++ pa, pv, trodAll_append (hargs _ (fun _ _ => rfl)) (hres _ _ _), hvars _ (fun _ _ => rfl), rfl, ?_, ?_⟩, ?_⟩
    · intro b off hp
      have hm : MemPlace.cell b off ∈ before := by rw [hps]; simpa using hp
      have hb : b < W.heap.size := hlt _ hm
      rw [World.frozen?_of_block (w := W) (hf.block b hb id)]
      exact hz b off hm
    · intro ha
      have := hn ha
      rw [hps] at this
      simpa using this
    · intro p hp _
      rw [hps]
      simpa using hp
end

/-- A call with arguments that reach nothing. -/
theorem ACalls.plain {P : Program} {f : FuncId} {args : List AV} {W : List Nat} {R : AV → AHeap → Prop} (h : ACalls P f args [] W R) {vs : List Value} (hv : VRelL (fun _ => none) args vs) (w : World) :
    Calls P f vs.toArray w fun e w' => ∃ v v' ρ' H', e = .returned v' ∧ R v H' ∧ VRel ρ' v v' ∧ Frm w.heap.size (fun _ => False) w w' := by
  have no : ∀ {r row}, rowAt ([] : AHeap) r = some row → False := fun h => by simp [rowAt] at h
  have hs : Sim w.heap.size (exOf (fun _ => none) []) (fun _ => none) [] w :=
    ⟨fun _ _ => rfl, fun _ _ h => (no h).elim, fun _ _ _ h => (no h).elim, fun _ _ _ h => (no h).elim, fun _ _ _ _ _ _ h => (no h).elim, fun _ _ _ h => (no h).elim⟩
  refine (h.calls _ w vs hs hv fun _ => .any _).mono fun e w' ⟨v, v', ρ', H', h1, h2, _, h4, _, h6, _⟩ => ⟨v, v', ρ', H', h1, h2, h4, ⟨h6.os, h6.tape, h6.output, h6.size, fun k hk _ => h6.block k hk fun ⟨r, row, x, _, q, _⟩ => no q⟩⟩

end Go.Vh


/- Slices of integers, whether their capacity is known or not; calls that read such a slice. -/
namespace Go.Vh
open Go

/-- What is known of a slice's capacity. -/
inductive SK where
  | nil
  | cap (c : Nat)
  | u

def mkS (κ : SK) (r off n : Nat) : AV := match κ with
  | .nil => .nilslice
  | .cap c => .slice r off n c
  | .u => .sliceU r off n 1

def okS (κ : SK) (n : Nat) : Prop := match κ with
  | .nil => n = 0
  | .cap c => n ≤ c
  | .u => True

theorem okS.le {κ : SK} {n m : Nat} (h : okS κ n) (hm : m ≤ n) : okS κ m := by
  cases κ <;> simp_all [okS] <;> omega

theorem k_len {κ : SK} {N n r off : Nat} (hk : okS κ N) (h : n ≤ N) : alen (mkS κ r off n) = some n := by
  cases κ with
  | nil => simp only [okS] at hk; simp [mkS, alen]; omega
  | cap c => rfl
  | u => rfl
theorem k_idx {κ : SK} {N n r off : Nat} {k : IntKind} {x : Int} (hk : okS κ N) (h : n ≤ N) (h0 : 0 ≤ x) (h1 : x < n) : aindexAddr 1 (mkS κ r off n) (.int k x) = some (.ptr r (off + x.toNat)) := by
  cases κ with
  | nil => simp only [okS] at hk; omega
  | cap c => simp [mkS, aindexAddr, h0, h1]
  | u => simp [mkS, aindexAddr, h0, h1]
theorem n_mkS {κ : SK} {σ : Sig} {r off n r' d : Nat} (h : σ r = some (r', d)) : AV.ren σ (mkS κ r off n) = mkS κ r' (d + off) n := by
  cases κ with
  | nil => rfl
  | cap c => exact n_slice h
  | u => exact n_sliceU h

/-- A value that names no row. -/
def AV.flat : AV → Bool
  | .int _ _ | .bool _ | .str _ | .nilslice => true
  | _ => false
theorem AV.flat_ren {σ : Sig} {v : AV} (h : v.flat = true) : v.ren σ = v := by
  cases v <;> first | rfl | (simp [AV.flat] at h; done)
theorem flatL_ren {σ : Sig} : ∀ {l : List AV}, l.all AV.flat = true → renL σ l = l
  | [], _ => rfl
  | v :: l, h => by
    simp only [List.all_cons, Bool.and_eq_true] at h
    rw [n_lcons, AV.flat_ren h.1, flatL_ren h.2]
theorem AV.flat_under {n : Nat} {v : AV} (h : v.flat = true) : v.under n = true := by
  cases v <;> first | rfl | (simp [AV.flat] at h; done)
theorem flatL_under {n : Nat} : ∀ {l : List AV}, l.all AV.flat = true → underL n l = true
  | [], _ => rfl
  | v :: l, h => by
    simp only [List.all_cons, Bool.and_eq_true] at h
    simp [underL, AV.flat_under h.1, flatL_under h.2]
theorem ints_flat {k : IntKind} {l : List Int} : (ints k l).all AV.flat = true := by simp [ints, AV.flat]
theorem mkS_under {κ : SK} {r off n m : Nat} (h : r < m) : (mkS κ r off n).under m = true := by
  cases κ <;> simp [mkS, AV.under, h]

section
variable {P : Program} {f : FuncId} {W0 : List Nat} {R0 : AV → AHeap → Prop} {K : St → AHeap → Prop} {d : Option Nat} {s : St} {H : AHeap} {args caps rest : List AV} {κ : SK} {n : Nat} {k : IntKind} {l : List Int}

end
end Go.Vh


/- Equations for slices that are built and appended to; division. -/
namespace Go.Vh
open Go

theorem aparts_cell {v : AV} (h : v.cell = true) : aparts v = [v] := by
  cases v <;> first | rfl | (simp [AV.cell] at h; done)
theorem c_int {k n} : (AV.int k n).cell = true := rfl
theorem c_mkS {κ r o n} : (mkS κ r o n).cell = true := by cases κ <;> rfl
section
variable {s : St} {H : AHeap}
theorem x_bs2 {x y : Opd} {z z' v u : AV} (h : evo s x = v) (h' : evo s y = u) (hc : v.cell = true) (hc' : u.cell = true) (hz : z'.cell = true) : ieff (.buildSlice 2 [z, z'] [(0, (1, x)), (1, (1, y))]) s H = some (.slice H.length 0 2 2, H ++ [rw_ [v, u]]) := by
  simp [ieff, h, h', afill, aparts_cell hc, aparts_cell hc', hc, hc', anew, rw_]
theorem src_at {r m c : Nat} {row : ARow} {xs : List AV} (hrow : rowAt H r = some row) (hc : row.cells.take m = xs) (hm : m ≤ row.cells.length) : asrc 1 (.slice r 0 m c) H = some xs := by
  by_cases h0 : m = 0
  · subst h0; simp at hc; subst hc; simp [asrc]
  · simp [asrc, h0, cellsAt, hrow, hm, hc]

/-- An append to nil. -/
theorem x_appN {bytes : Nat} {x y : Opd} {r m c : Nat} {row : ARow} {xs : List AV} (hx : evo s x = .nilslice) (hy : evo s y = .slice r 0 m c) (hrow : rowAt H r = some row) (hc : row.cells.take m = xs) (hm : m ≤ row.cells.length)
    (hb : m * bytes ≤ 70368744177664) (hcell : xs.all AV.cell = true) : ieff (.append 1 bytes x y) s H = some (.sliceU H.length 0 m 1, H ++ [sl xs]) := by
  simp only [ieff, hx, hy, l_slice, src_at hrow hc hm, Option.bind_some, aappend, if_pos hb, anew, hcell, if_true, Option.map_some]
  rfl
/-- An append to a slice that was appended to. -/
theorem x_appU {bytes : Nat} {x y : Opd} {q n r m c : Nat} {row : ARow} {xs old : List AV} (hx : evo s x = .sliceU q 0 n 1) (hy : evo s y = .slice r 0 m c) (hq : rowAt H q = some ⟨true, true, old⟩) (hn : old.length = n)
    (hrow : rowAt H r = some row) (hc : row.cells.take m = xs) (hm : m ≤ row.cells.length) (hb : (n + m) * bytes ≤ 70368744177664) (hcell : xs.all AV.cell = true) :
    ieff (.append 1 bytes x y) s H = some (.sliceU H.length 0 (n + m) 1, H.set q none ++ [sl (old ++ xs)]) := by
  have h1 : (n + m) * bytes ≤ 70368744177664 ∧ (1 : Nat) = 1 := ⟨hb, rfl⟩
  simp only [ieff, hx, hy, l_slice, src_at hrow hc hm, Option.bind_some, aappend, if_pos h1, hq]
  simp [hn, hcell, sl, hb]

end
end Go.Vh


/- From a contract to a row: arguments that are slices of integers. -/
namespace Go.Vh
open Go Go.ChangeShapes Go.WideShapes Go.RowKit Go.ChangeAt

theorem Frm.below {w w' : World} (h : Frm w.heap.size (fun _ => False) w w') : Below w.heap.size w w' :=
  ⟨h.os, h.tape, h.output, h.size, fun k hk => h.block k hk id⟩

section
variable {P : Program} {H : Type} {enc : TypeId × Value → H}

theorem trodAll_stays (hl : laidOutB P = true) {W W' : World} (hb : Below W.heap.size W W') {sp' : Nat → Bool} : ∀ {ts : List TypeId} {vs : List Value} {ds : List (DataW H)} {ps : List MemPlace},
    (∀ t ∈ ts, P.readableRec t = true ∧ t < P.types.size) → DataW.TrodAll enc P W 0 (fun _ => true) true ts vs ds ps → (∀ x ∈ ps, x.block < W.heap.size) → (∀ x ∈ ps, sp' x.block = true) → DataW.TrodAll enc P W' 0 sp' true ts vs ds ps
  | [], _, _, _, _, h, _, _ => by
    obtain ⟨rfl, rfl, rfl⟩ := trodAll_nil h
    exact trodAll_mk0
  | t :: ts, _, _, _, ht, h, hlt, hsp => by
    obtain ⟨v, vs, d, ds, p, q, rfl, rfl, rfl, h1, h2⟩ := trodAll_cons h
    obtain ⟨k1, k2⟩ := ht t (by simp)
    exact trodAll_cons_mk (WideElems.Trod_stays hl k1 k2 h1 (fun x hx => hb.same (hlt x (by simp [hx]))) (fun x hx => hsp x (by simp [hx])))
      (trodAll_stays hl hb (fun u hu => ht u (by simp [hu])) h2 (fun x hx => hlt x (by simp [hx])) (fun x hx => hsp x (by simp [hx])))

/-- What a law's row asks behind the call. -/
theorem law_post {f : Func} {s : ChangeSpec} {W W' : World} {args : Array Value} {ds : List (DataW H)} {before : List MemPlace} {tb : TypeId}
    (hl : laidOutB P = true) (hts : ∀ t ∈ f.params.toList, P.readableRec t = true ∧ t < P.types.size) (hr : f.resultTypes = #[tb]) (htb : P.underlying tb = some .bool)
    (hs : (s.fn H ds).results = [.lit (.bool true)]) (hsa : (s.fn H ds).args = ds) (hsv : (s.fn H ds).vars = []) (hv : s.vars = [])
    (hW : DataW.Whole enc P f.params.toList s.vars false W args.toList ds [] before) (hf : Frm W.heap.size (fun _ => False) W W') : s.post enc P f false true false false W args (.bool true) W' := by
  have hlt := hW.lt
  have hW' := hW
  obtain ⟨p, q, hA, hV, rfl, _, _⟩ := hW
  rw [hv] at hV
  obtain ⟨_, rfl⟩ := trodVars_none hV
  rw [List.append_nil] at hlt hW'
  have e : ds ++ ([] : List (DataW H)) = ds := List.append_nil _
  refine post_of_old (pa := p) (pv := []) hW' (fun b sp hd => ?_) (fun sp hsp => ?_) (fun sp _ => ?_) (by simp) hf (ok_one hr rfl (okWide_bool_mk htb _))
  · rw [e, hs, hr]
    exact trodAll_cons_mk (shut_bool htb _) trodAll_mk0
  · rw [e, hsa]
    exact trodAll_stays hl hf.below hts hA hlt hsp
  · rw [e, hsv, hv]
    rfl
end

/-- Rows of integers, with where they lie. -/
structure IRow where
  k : IntKind
  l : List Int
  x : Loc

def irows (rs : List IRow) : AHeap := rs.map fun r => ro (ints r.k r.l)
def ilocs (rs : List IRow) : RMap := fun i => (rs[i]?).map (·.x)
def IRow.at (r : IRow) (w : World) : Prop := r.x.n ≠ 0 ∧ ∀ i, i < r.l.length → w.cell? ⟨r.x.b, r.x.d + i, none⟩ = some (.int r.k (r.l.getD i 0))

theorem irows_at {rs : List IRow} {i : Nat} {row : ARow} (h : rowAt (irows rs) i = some row) : ∃ r, rs[i]? = some r ∧ row = ⟨false, false, ints r.k r.l⟩ := by
  rw [rowAt_some, irows, List.getElem?_map, Option.map_eq_some_iff] at h
  obtain ⟨r, h1, h2⟩ := h
  exact ⟨r, h1, by cases h2; rfl⟩

theorem Sim.ints {rs : List IRow} {w : World} {B : Nat} {ex : Nat → Prop} (h : ∀ r ∈ rs, r.at w) : Sim B ex (ilocs rs) (irows rs) w := by
  refine ⟨fun i hi => ?_, fun i row hi => ?_, fun i row x hi hx j c hc => ?_, fun i row x hi ho => ?_, fun i j a b x y hi _ ho => ?_, fun i row x hi hx hne => ?_⟩
  · simp only [irows, List.length_map] at hi
    simp [ilocs, List.getElem?_eq_none hi]
  · obtain ⟨r, h1, rfl⟩ := irows_at hi
    exact ⟨r.x, by simp [ilocs, h1]⟩
  · obtain ⟨r, h1, rfl⟩ := irows_at hi
    have hx' : r.x = x := by simpa [ilocs, h1] using hx
    subst hx'
    obtain ⟨_, h3⟩ := h r (List.mem_of_getElem? h1)
    rcases Nat.lt_or_ge j r.l.length with hj | hj
    · have : (Go.Vh.ints r.k r.l)[j]? = some (.int r.k (r.l.getD j 0)) := ints_get hj
      rw [this] at hc
      cases hc
      exact ⟨rfl, _, h3 j hj, .int _ _⟩
    · have : (Go.Vh.ints r.k r.l)[j]? = none := List.getElem?_eq_none (by rw [ints_length]; exact hj)
      rw [this] at hc; cases hc
  · obtain ⟨r, h1, rfl⟩ := irows_at hi
    cases ho
  · obtain ⟨r, h1, rfl⟩ := irows_at hi
    cases ho
  · obtain ⟨r, h1, rfl⟩ := irows_at hi
    have hx' : r.x = x := by simpa [ilocs, h1] using hx
    subst hx'
    exact (h r (List.mem_of_getElem? h1)).1

section
variable {P : Program} {H : Type} {enc : TypeId × Value → H} {W : World}

end
end Go.Vh

