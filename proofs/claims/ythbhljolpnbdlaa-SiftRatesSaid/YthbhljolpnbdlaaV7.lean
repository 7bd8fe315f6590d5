/- From a contract to a row: a law with plain arguments. -/
import Derived.Test.YthbhljolpnbdlaaV6
import Derived.ProofKit
import Derived.ChangeSame
import Derived.OpenShut
import Derived.Carry
import Derived.ChangeSlices
set_option linter.unusedSimpArgs false
set_option linter.unusedVariables false
namespace Go.Vh
open Go Go.ChangeShapes Go.WideShapes Go.RowKit Go.ChangeAt

/-- Old blocks are as they were. -/
theorem keptBut_of_frm {w w' : World} (h : Frm w.heap.size (fun _ => False) w w') (may : MemPlace → Prop) : w.keptBut w' may := by
  refine ⟨h.os, h.output, fun i hi => ?_⟩
  rw [h.block i hi id]
  cases w.heap[i]? with
  | none => rfl
  | some o => cases o <;> simp

section
variable {P : Program} {H : Type} {enc : TypeId × Value → H}

/-- 'post_of_same', where old blocks alone count. -/
theorem post_of_old {f : Func} {s : ChangeSpec} {apart fresh handsOn again : Bool} {W W' : World} {args : Array Value} {v : Value} {ds gs : List (DataW H)} {before pa pv : List MemPlace}
    (hW : DataW.Whole enc P f.params.toList s.vars apart W args.toList ds gs before)
    (hres : ∀ (b : Nat) (sp : Nat → Bool) (hd : Bool), DataW.TrodAll enc P W' b sp hd f.resultTypes.toList (v.resultList f.resultTypes.size) (s.fn H (ds ++ gs)).results [])
    (hargs : ∀ sp : Nat → Bool, (∀ p ∈ before, sp p.block = true) → DataW.TrodAll enc P W' 0 sp true f.params.toList args.toList (s.fn H (ds ++ gs)).args pa)
    (hvars : ∀ sp : Nat → Bool, (∀ p ∈ before, sp p.block = true) → DataW.TrodVars enc P W' sp s.vars (s.fn H (ds ++ gs)).vars pv)
    (hps : before = pa ++ pv) (hf : Frm W.heap.size (fun _ => False) W W')
    (hok : ∀ (j : Nat) (t : TypeId) (r : Value), f.resultTypes[j]? = some t → (v.resultList f.resultTypes.size)[j]? = some r → Value.okWide P W' .any 0 t r) :
    s.post enc P f apart fresh handsOn again W args v W' := by
  have hold : ∀ p ∈ before, (fun b => decide (b < W.heap.size)) p.block = true := fun p hp => by simpa using hW.lt p hp
  have hlt := hW.lt
  refine ⟨ds, gs, before, [], pa, pv, hW, hres _ _ _, hargs _ hold, hvars _ hold, World.keptBut_mono (fun p hp => ⟨hp, ?_⟩) (keptBut_of_frm hf (· ∈ before)), fun _ => ?_⟩
  · rw [hps, List.mem_append] at hp
    exact Or.inr hp
  · obtain ⟨_, _, _, _, _, hz, hn⟩ := hW
    refine ⟨hok, _, _, ([] ++ pa) ++ pv, ⟨[] ++ pa, pv, trodAll_append (hargs _ (fun _ _ => rfl)) (hres _ _ _), hvars _ (fun _ _ => rfl), rfl, ?_, ?_⟩, ?_⟩
    · intro b off hp
      have hm : MemPlace.cell b off ∈ before := by rw [hps]; simpa using hp
      have hb : b < W.heap.size := hlt _ hm
      rw [World.frozen?_of_block (w := W) (hf.block b hb id)]
      exact hz b off hm
    · intro ha
      have := hn ha
      rw [hps] at this
      simpa using this
    · intro p hp _
      rw [hps]
      simpa using hp
end

/-- A call with arguments that reach nothing. -/
theorem ACalls.plain {P : Program} {f : FuncId} {args : List AV} {W : List Nat} {R : AV → AHeap → Prop} (h : ACalls P f args [] W R) {vs : List Value} (hv : VRelL (fun _ => none) args vs) (w : World) :
    Calls P f vs.toArray w fun e w' => ∃ v v' ρ' H', e = .returned v' ∧ R v H' ∧ VRel ρ' v v' ∧ Frm w.heap.size (fun _ => False) w w' := by
  have no : ∀ {r row}, rowAt ([] : AHeap) r = some row → False := fun h => by simp [rowAt] at h
  have hs : Sim w.heap.size (exOf (fun _ => none) []) (fun _ => none) [] w :=
    ⟨fun _ _ => rfl, fun _ _ h => (no h).elim, fun _ _ _ h => (no h).elim, fun _ _ _ h => (no h).elim, fun _ _ _ _ _ _ h => (no h).elim, fun _ _ _ h => (no h).elim⟩
  refine (h.calls _ w vs hs hv fun _ => .any _).mono fun e w' ⟨v, v', ρ', H', h1, h2, _, h4, _, h6, _⟩ => ⟨v, v', ρ', H', h1, h2, h4, ⟨h6.os, h6.tape, h6.output, h6.size, fun k hk _ => h6.block k hk fun ⟨r, row, x, _, q, _⟩ => no q⟩⟩

end Go.Vh


/- Slices of integers, whether their capacity is known or not; calls that read such a slice. -/
namespace Go.Vh
open Go

/-- What is known of a slice's capacity. -/
inductive SK where
  | nil
  | cap (c : Nat)
  | u

def mkS (κ : SK) (r off n : Nat) : AV := match κ with
  | .nil => .nilslice
  | .cap c => .slice r off n c
  | .u => .sliceU r off n 1

def okS (κ : SK) (n : Nat) : Prop := match κ with
  | .nil => n = 0
  | .cap c => n ≤ c
  | .u => True

theorem okS_u {n : Nat} : okS .u n := trivial
theorem okS_cap {c n : Nat} (h : n ≤ c) : okS (.cap c) n := h
theorem okS.le {κ : SK} {n m : Nat} (h : okS κ n) (hm : m ≤ n) : okS κ m := by
  cases κ <;> simp_all [okS] <;> omega

theorem k_len {κ : SK} {N n r off : Nat} (hk : okS κ N) (h : n ≤ N) : alen (mkS κ r off n) = some n := by
  cases κ with
  | nil => simp only [okS] at hk; simp [mkS, alen]; omega
  | cap c => rfl
  | u => rfl
theorem k_idx {κ : SK} {N n r off : Nat} {k : IntKind} {x : Int} (hk : okS κ N) (h : n ≤ N) (h0 : 0 ≤ x) (h1 : x < n) : aindexAddr 1 (mkS κ r off n) (.int k x) = some (.ptr r (off + x.toNat)) := by
  cases κ with
  | nil => simp only [okS] at hk; omega
  | cap c => simp [mkS, aindexAddr, h0, h1]
  | u => simp [mkS, aindexAddr, h0, h1]
theorem k_sl {κ : SK} {N n r off : Nat} {k : IntKind} {x : Int} (hk : okS κ N) (h : n ≤ N) (h0 : 0 ≤ x) (h1 : x ≤ n) : aslice 1 (mkS κ r off n) none (some (.int k x)) = some (mkS κ r off x.toNat) := by
  cases κ with
  | nil => simp only [okS] at hk; have : x = 0 := by omega
           subst this; simp [mkS, aslice, ahi, abound]
  | cap c => simp only [okS] at hk; have h2 : x ≤ (c : Int) := by omega
             simp [mkS, aslice, ahi, abound, h0, h2]
  | u => simp [mkS, aslice, ahi, abound, h0, h1]

theorem n_mkS {κ : SK} {σ : Sig} {r off n r' d : Nat} (h : σ r = some (r', d)) : AV.ren σ (mkS κ r off n) = mkS κ r' (d + off) n := by
  cases κ with
  | nil => rfl
  | cap c => exact n_slice h
  | u => exact n_sliceU h

/-- A value that names no row. -/
def AV.flat : AV → Bool
  | .int _ _ | .bool _ | .str _ | .nilslice => true
  | _ => false
theorem AV.flat_ren {σ : Sig} {v : AV} (h : v.flat = true) : v.ren σ = v := by
  cases v <;> first | rfl | (simp [AV.flat] at h; done)
theorem flatL_ren {σ : Sig} : ∀ {l : List AV}, l.all AV.flat = true → renL σ l = l
  | [], _ => rfl
  | v :: l, h => by
    simp only [List.all_cons, Bool.and_eq_true] at h
    rw [n_lcons, AV.flat_ren h.1, flatL_ren h.2]
theorem AV.flat_under {n : Nat} {v : AV} (h : v.flat = true) : v.under n = true := by
  cases v <;> first | rfl | (simp [AV.flat] at h; done)
theorem flatL_under {n : Nat} : ∀ {l : List AV}, l.all AV.flat = true → underL n l = true
  | [], _ => rfl
  | v :: l, h => by
    simp only [List.all_cons, Bool.and_eq_true] at h
    simp [underL, AV.flat_under h.1, flatL_under h.2]
theorem ints_flat {k : IntKind} {l : List Int} : (ints k l).all AV.flat = true := by simp [ints, AV.flat]
theorem ints_ren {σ : Sig} {k : IntKind} {l : List Int} : renL σ (ints k l) = ints k l := flatL_ren ints_flat
theorem mkS_under {κ : SK} {r off n m : Nat} (h : r < m) : (mkS κ r off n).under m = true := by
  cases κ <;> simp [mkS, AV.under, h]

section
variable {P : Program} {f : FuncId} {W0 : List Nat} {R0 : AV → AHeap → Prop} {K : St → AHeap → Prop} {d : Option Nat} {s : St} {H : AHeap} {args caps rest : List AV} {κ : SK} {n : Nat} {k : IntKind} {l : List Int}

/-- A call that reads one slice of integers. -/
theorem call_ints {r : Nat} {row : ARow} (h : ACalls P f (mkS κ 0 0 n :: rest) [ro (ints k l)] W0 R0) (hrest : rest.all AV.flat = true) (hrow : rowAt H r = some row) (hc : row.cells.take l.length = ints k l)
    (hargs : args ++ caps = mkS κ r 0 n :: rest) (hK : ∀ v0 H0', R0 v0 H0' → K (putI d s (v0.ren (sig [(r, 0)] H.length))) (H ++ (H0'.drop 1).map (renRow (sig [(r, 0)] H.length)))) : thenC P K d s H args (.func f caps) := by
  have hs : sig [(r, 0)] H.length 0 = some (r, 0) := rfl
  have hlen := congrArg List.length hc
  simp only [List.length_take, ints_length] at hlen
  refine call_do h [(r, 0)] rfl ?_ rfl ?_ ⟨seen_ro hrow (by simp only [ints_length]; omega) (by rw [ints_ren, ints_length, List.drop_zero, hc]) (flatL_under ints_flat), trivial⟩ fun v0 H0' h0 => ?_
  · simp [underL, mkS_under, flatL_under hrest]
  · rw [hargs, n_lcons, n_mkS hs, flatL_ren hrest]
  · have := hK v0 H0' h0
    rw [m_merge, m_ro, m_nil]
    exact this
theorem call_ints0 {r : Nat} {row : ARow} (h : ACalls P f (mkS κ 0 0 n :: rest) [ro (ints k l)] W0 R0) (hrest : rest.all AV.flat = true) (hrow : rowAt H r = some row) (hc : row.cells.take l.length = ints k l)
    (hargs : args ++ caps = mkS κ r 0 n :: rest) (hK : ∀ v0 H0', R0 v0 H0' → K (putI d s (v0.ren (sig [(r, 0)] H.length))) (H ++ (H0'.drop 1).map (renRow (sig [(r, 0)] H.length)))) : thenC0 P K d s H args (.func f caps) := by
  have hs : sig [(r, 0)] H.length 0 = some (r, 0) := rfl
  have hlen := congrArg List.length hc
  simp only [List.length_take, ints_length] at hlen
  refine call_do0 h [(r, 0)] rfl ?_ rfl rfl ?_ ⟨seen_ro hrow (by simp only [ints_length]; omega) (by rw [ints_ren, ints_length, List.drop_zero, hc]) (flatL_under ints_flat), trivial⟩ fun v0 H0' h0 => ?_
  · simp [underL, mkS_under, flatL_under hrest]
  · rw [hargs, n_lcons, n_mkS hs, flatL_ren hrest]
  · have := hK v0 H0' h0
    rw [m_merge, m_ro, m_nil]
    exact this
end
end Go.Vh


/- Equations for slices that are built and appended to; division. -/
namespace Go.Vh
open Go

theorem aparts_cell {v : AV} (h : v.cell = true) : aparts v = [v] := by
  cases v <;> first | rfl | (simp [AV.cell] at h; done)
theorem c_int {k n} : (AV.int k n).cell = true := rfl
theorem c_mkS {κ r o n} : (mkS κ r o n).cell = true := by cases κ <;> rfl
section
variable {s : St} {H : AHeap}
theorem x_bs1 {x : Opd} {z v : AV} (h : evo s x = v) (hc : v.cell = true) : ieff (.buildSlice 1 [z] [(0, (1, x))]) s H = some (.slice H.length 0 1 1, H ++ [rw_ [v]]) := by
  simp [ieff, h, afill, aparts_cell hc, hc, anew, rw_]
theorem x_bs2 {x y : Opd} {z z' v u : AV} (h : evo s x = v) (h' : evo s y = u) (hc : v.cell = true) (hc' : u.cell = true) (hz : z'.cell = true) : ieff (.buildSlice 2 [z, z'] [(0, (1, x)), (1, (1, y))]) s H = some (.slice H.length 0 2 2, H ++ [rw_ [v, u]]) := by
  simp [ieff, h, h', afill, aparts_cell hc, aparts_cell hc', hc, hc', anew, rw_]
theorem x_bs4 {x1 x2 x3 x4 : Opd} {z1 z2 z3 z4 v1 v2 v3 v4 : AV} (h1 : evo s x1 = v1) (h2 : evo s x2 = v2) (h3 : evo s x3 = v3) (h4 : evo s x4 = v4) (c1 : v1.cell = true) (c2 : v2.cell = true) (c3 : v3.cell = true) (c4 : v4.cell = true) :
    ieff (.buildSlice 4 [z1, z2, z3, z4] [(0, (1, x1)), (1, (1, x2)), (2, (1, x3)), (3, (1, x4))]) s H = some (.slice H.length 0 4 4, H ++ [rw_ [v1, v2, v3, v4]]) := by
  simp [ieff, h1, h2, h3, h4, afill, aparts_cell, c1, c2, c3, c4, anew, rw_]

theorem src_at {r m c : Nat} {row : ARow} {xs : List AV} (hrow : rowAt H r = some row) (hc : row.cells.take m = xs) (hm : m ≤ row.cells.length) : asrc 1 (.slice r 0 m c) H = some xs := by
  by_cases h0 : m = 0
  · subst h0; simp at hc; subst hc; simp [asrc]
  · simp [asrc, h0, cellsAt, hrow, hm, hc]

/-- An append to nil. -/
theorem x_appN {bytes : Nat} {x y : Opd} {r m c : Nat} {row : ARow} {xs : List AV} (hx : evo s x = .nilslice) (hy : evo s y = .slice r 0 m c) (hrow : rowAt H r = some row) (hc : row.cells.take m = xs) (hm : m ≤ row.cells.length)
    (hb : m * bytes ≤ 70368744177664) (hcell : xs.all AV.cell = true) : ieff (.append 1 bytes x y) s H = some (.sliceU H.length 0 m 1, H ++ [sl xs]) := by
  simp only [ieff, hx, hy, l_slice, src_at hrow hc hm, Option.bind_some, aappend, if_pos hb, anew, hcell, if_true, Option.map_some]
  rfl
/-- An append to a slice that was appended to. -/
theorem x_appU {bytes : Nat} {x y : Opd} {q n r m c : Nat} {row : ARow} {xs old : List AV} (hx : evo s x = .sliceU q 0 n 1) (hy : evo s y = .slice r 0 m c) (hq : rowAt H q = some ⟨true, true, old⟩) (hn : old.length = n)
    (hrow : rowAt H r = some row) (hc : row.cells.take m = xs) (hm : m ≤ row.cells.length) (hb : (n + m) * bytes ≤ 70368744177664) (hcell : xs.all AV.cell = true) :
    ieff (.append 1 bytes x y) s H = some (.sliceU H.length 0 (n + m) 1, H.set q none ++ [sl (old ++ xs)]) := by
  have h1 : (n + m) * bytes ≤ 70368744177664 ∧ (1 : Nat) = 1 := ⟨hb, rfl⟩
  simp only [ieff, hx, hy, l_slice, src_at hrow hc hm, Option.bind_some, aappend, if_pos h1, hq]
  simp [hn, hcell, sl, hb]

theorem b_rem {k : IntKind} {a b : Int} (ha : 0 ≤ a) (hb : 0 < b) : abin .rem (.int k a) (.int k b) = some (.int k (a % b)) := by
  have : b ≠ 0 := by omega
  simp [abin, aint, this, Int.tmod_eq_emod_of_nonneg ha]
theorem b_quo {k : IntKind} {a b : Int} (ha : 0 ≤ a) (hb : 0 < b) : abin .quo (.int k a) (.int k b) = some (.int k (k.wrap (a / b))) := by
  have : b ≠ 0 := by omega
  simp [abin, aint, this, Int.tdiv_eq_ediv_of_nonneg ha]
theorem b_shr {k k' : IntKind} {a : Int} {n : Nat} (hn : n ≤ k.bits) : abin .shr (.int k a) (.int k' n) = some (.int k (a / 2 ^ n)) := by
  have h2 : (0 : Int) < 2 ^ n := Int.pow_pos (by decide)
  have : min ((n : Int)).toNat k.bits = n := by simp; omega
  simp only [abin, ashift]
  rw [if_neg (by omega), this, Int.fdiv_eq_ediv_of_nonneg _ (by omega)]
theorem b_shl {k k' : IntKind} {a : Int} {n : Nat} (hn : n ≤ k.bits) : abin .shl (.int k a) (.int k' n) = some (.int k (k.wrap (a * 2 ^ n))) := by
  have : min ((n : Int)).toNat k.bits = n := by simp; omega
  simp only [abin, ashift]
  rw [if_neg (by omega), this]

theorem gc_at {keep : List Nat} {s : St} {t : Nat} {v v' : AV} (h : s t = v) (hv : v.ren (gcSig keep) = v') : gcS keep s t = v' := by
  unfold gcS; rw [h, hv]
end
end Go.Vh


/- From a contract to a row: arguments that are slices of integers. -/
namespace Go.Vh
open Go Go.ChangeShapes Go.WideShapes Go.RowKit Go.ChangeAt

theorem Frm.below {w w' : World} (h : Frm w.heap.size (fun _ => False) w w') : Below w.heap.size w w' :=
  ⟨h.os, h.tape, h.output, h.size, fun k hk => h.block k hk id⟩

section
variable {P : Program} {H : Type} {enc : TypeId × Value → H}

theorem trodAll_stays (hl : laidOutB P = true) {W W' : World} (hb : Below W.heap.size W W') {sp' : Nat → Bool} : ∀ {ts : List TypeId} {vs : List Value} {ds : List (DataW H)} {ps : List MemPlace},
    (∀ t ∈ ts, P.readableRec t = true ∧ t < P.types.size) → DataW.TrodAll enc P W 0 (fun _ => true) true ts vs ds ps → (∀ x ∈ ps, x.block < W.heap.size) → (∀ x ∈ ps, sp' x.block = true) → DataW.TrodAll enc P W' 0 sp' true ts vs ds ps
  | [], _, _, _, _, h, _, _ => by
    obtain ⟨rfl, rfl, rfl⟩ := trodAll_nil h
    exact trodAll_mk0
  | t :: ts, _, _, _, ht, h, hlt, hsp => by
    obtain ⟨v, vs, d, ds, p, q, rfl, rfl, rfl, h1, h2⟩ := trodAll_cons h
    obtain ⟨k1, k2⟩ := ht t (by simp)
    exact trodAll_cons_mk (WideElems.Trod_stays hl k1 k2 h1 (fun x hx => hb.same (hlt x (by simp [hx]))) (fun x hx => hsp x (by simp [hx])))
      (trodAll_stays hl hb (fun u hu => ht u (by simp [hu])) h2 (fun x hx => hlt x (by simp [hx])) (fun x hx => hsp x (by simp [hx])))

/-- What a law's row asks behind the call. -/
theorem law_post {f : Func} {s : ChangeSpec} {W W' : World} {args : Array Value} {ds : List (DataW H)} {before : List MemPlace} {tb : TypeId}
    (hl : laidOutB P = true) (hts : ∀ t ∈ f.params.toList, P.readableRec t = true ∧ t < P.types.size) (hr : f.resultTypes = #[tb]) (htb : P.underlying tb = some .bool)
    (hs : (s.fn H ds).results = [.lit (.bool true)]) (hsa : (s.fn H ds).args = ds) (hsv : (s.fn H ds).vars = []) (hv : s.vars = [])
    (hW : DataW.Whole enc P f.params.toList s.vars false W args.toList ds [] before) (hf : Frm W.heap.size (fun _ => False) W W') : s.post enc P f false true false false W args (.bool true) W' := by
  have hlt := hW.lt
  have hW' := hW
  obtain ⟨p, q, hA, hV, rfl, _, _⟩ := hW
  rw [hv] at hV
  obtain ⟨_, rfl⟩ := trodVars_none hV
  rw [List.append_nil] at hlt hW'
  have e : ds ++ ([] : List (DataW H)) = ds := List.append_nil _
  refine post_of_old (pa := p) (pv := []) hW' (fun b sp hd => ?_) (fun sp hsp => ?_) (fun sp _ => ?_) (by simp) hf (ok_one hr rfl (okWide_bool_mk htb _))
  · rw [e, hs, hr]
    exact trodAll_cons_mk (shut_bool htb _) trodAll_mk0
  · rw [e, hsa]
    exact trodAll_stays hl hf.below hts hA hlt hsp
  · rw [e, hsv, hv]
    rfl
end

/-- Rows of integers, with where they lie. -/
structure IRow where
  k : IntKind
  l : List Int
  x : Loc

def irows (rs : List IRow) : AHeap := rs.map fun r => ro (ints r.k r.l)
def ilocs (rs : List IRow) : RMap := fun i => (rs[i]?).map (·.x)
def IRow.at (r : IRow) (w : World) : Prop := r.x.n ≠ 0 ∧ ∀ i, i < r.l.length → w.cell? ⟨r.x.b, r.x.d + i, none⟩ = some (.int r.k (r.l.getD i 0))

theorem irows_at {rs : List IRow} {i : Nat} {row : ARow} (h : rowAt (irows rs) i = some row) : ∃ r, rs[i]? = some r ∧ row = ⟨false, false, ints r.k r.l⟩ := by
  rw [rowAt_some, irows, List.getElem?_map, Option.map_eq_some_iff] at h
  obtain ⟨r, h1, h2⟩ := h
  exact ⟨r, h1, by cases h2; rfl⟩

theorem Sim.ints {rs : List IRow} {w : World} {B : Nat} {ex : Nat → Prop} (h : ∀ r ∈ rs, r.at w) : Sim B ex (ilocs rs) (irows rs) w := by
  refine ⟨fun i hi => ?_, fun i row hi => ?_, fun i row x hi hx j c hc => ?_, fun i row x hi ho => ?_, fun i j a b x y hi _ ho => ?_, fun i row x hi hx hne => ?_⟩
  · simp only [irows, List.length_map] at hi
    simp [ilocs, List.getElem?_eq_none hi]
  · obtain ⟨r, h1, rfl⟩ := irows_at hi
    exact ⟨r.x, by simp [ilocs, h1]⟩
  · obtain ⟨r, h1, rfl⟩ := irows_at hi
    have hx' : r.x = x := by simpa [ilocs, h1] using hx
    subst hx'
    obtain ⟨_, h3⟩ := h r (List.mem_of_getElem? h1)
    rcases Nat.lt_or_ge j r.l.length with hj | hj
    · have : (Go.Vh.ints r.k r.l)[j]? = some (.int r.k (r.l.getD j 0)) := ints_get hj
      rw [this] at hc
      cases hc
      exact ⟨rfl, _, h3 j hj, .int _ _⟩
    · have : (Go.Vh.ints r.k r.l)[j]? = none := List.getElem?_eq_none (by rw [ints_length]; exact hj)
      rw [this] at hc; cases hc
  · obtain ⟨r, h1, rfl⟩ := irows_at hi
    cases ho
  · obtain ⟨r, h1, rfl⟩ := irows_at hi
    cases ho
  · obtain ⟨r, h1, rfl⟩ := irows_at hi
    have hx' : r.x = x := by simpa [ilocs, h1] using hx
    subst hx'
    exact (h r (List.mem_of_getElem? h1)).1

/-- A call whose arguments reach rows of integers alone. -/
theorem ACalls.onInts {P : Program} {f : FuncId} {args : List AV} {rs : List IRow} {W : List Nat} {R : AV → AHeap → Prop} (h : ACalls P f args (irows rs) W R) {w : World} (hrs : ∀ r ∈ rs, r.at w) {vs : List Value} (hv : VRelL (ilocs rs) args vs) :
    Calls P f vs.toArray w fun e w' => ∃ v v' ρ' H', e = .returned v' ∧ R v H' ∧ VRel ρ' v v' ∧ Frm w.heap.size (fun _ => False) w w' := by
  refine (h.calls _ w vs (Sim.ints hrs) hv fun _ => .any _).mono fun e w' ⟨v, v', ρ', H', h1, h2, _, h4, _, h6, _⟩ => ⟨v, v', ρ', H', h1, h2, h4, ⟨h6.os, h6.tape, h6.output, h6.size, fun k hk _ => h6.block k hk fun ⟨r, row, x, _, q, ho, _⟩ => ?_⟩⟩
  obtain ⟨_, _, rfl⟩ := irows_at q
  cases ho

section
variable {P : Program} {H : Type} {enc : TypeId × Value → H} {W : World}

end
end Go.Vh


/- The equations of a walk, as one. -/
namespace Go.Vh
open Go
theorem sS : type_of% (And.intro (And.intro (And.intro (And.intro (And.intro (And.intro (@e_skip) (@e_ops)) (And.intro (@e_dops) (And.intro (@e_seq) (@e_cond)))) (And.intro (And.intro (@e_block) (And.intro (@e_exit) (@e_ret))) (And.intro (@e_seqN) (And.intro (@e_seqE) (@e_seqR))))) (And.intro (And.intro (And.intro (@e_blockN) (And.intro (@e_blockR) (@e_blockE))) (And.intro (@e_condT) (And.intro (@e_condF) (@e_condB)))) (And.intro (And.intro (@e_nil) (And.intro (@e_consN) (@e_consG))) (And.intro (@e_nilD) (And.intro (@e_consDN) (@e_consDG)))))) (And.intro (And.intro (And.intro (And.intro (@e_guardB) (And.intro (@e_guardTT) (@e_guardTF))) (And.intro (@e_guardFT) (And.intro (@e_guardFF) (@e_guardU)))) (And.intro (And.intro (@e_pure) (And.intro (@e_eff) (@e_call))) (And.intro (@e_pureD) (And.intro (@e_effD1) (@e_effD2))))) (And.intro (And.intro (And.intro (@e_effD3) (And.intro (@e_callD2) (@e_callD3))) (And.intro (@e_thenP) (And.intro (@e_thenE) (@e_thenL)))) (And.intro (And.intro (@e_putS) (And.intro (@e_putN) (@e_upd))) (And.intro (@e_t) (And.intro (@e_c) (@p_move))))))) (And.intro (And.intro (And.intro (And.intro (And.intro (@p_bin) (And.intro (@p_len) (@p_conv))) (And.intro (@p_pick) (And.intro (@p_indexAddr) (@p_slice)))) (And.intro (And.intro (@p_extract) (And.intro (@p_not) (@b_add))) (And.intro (@b_sub) (And.intro (@b_mul) (@b_eql))))) (And.intro (And.intro (And.intro (@b_neq) (And.intro (@b_lss) (@b_leq))) (And.intro (@b_gtr) (And.intro (@b_geq) (@l_nil)))) (And.intro (And.intro (@l_slice) (And.intro (@l_sliceU) (@x_load1))) (And.intro (@Nat.zero_add) (And.intro (@Nat.add_zero) (@Nat.mul_one)))))) (And.intro (And.intro (And.intro (And.intro (@w64) (And.intro (@wu32) (@wu64))) (And.intro (@beqT) (And.intro (@beqF) (@bneT)))) (And.intro (And.intro (@bneF) (And.intro (@dT) (@dF))) (And.intro (@a_idx) (And.intro (@a_idxU) (@a_hi))))) (And.intro (And.intro (And.intro (@a_hiN) (And.intro (@a_sl) (@r_ro0))) (And.intro (@r_rw0) (And.intro (@r_sl0) (@r_succ)))) (And.intro (And.intro (@ints_get) (And.intro (@toNat_sub1) (@nat_toNat))) (And.intro (@Nat.add_sub_cancel) (And.intro (@q_tmp) (@q_then)))))))) := And.intro (And.intro (And.intro (And.intro (And.intro (And.intro (@e_skip) (@e_ops)) (And.intro (@e_dops) (And.intro (@e_seq) (@e_cond)))) (And.intro (And.intro (@e_block) (And.intro (@e_exit) (@e_ret))) (And.intro (@e_seqN) (And.intro (@e_seqE) (@e_seqR))))) (And.intro (And.intro (And.intro (@e_blockN) (And.intro (@e_blockR) (@e_blockE))) (And.intro (@e_condT) (And.intro (@e_condF) (@e_condB)))) (And.intro (And.intro (@e_nil) (And.intro (@e_consN) (@e_consG))) (And.intro (@e_nilD) (And.intro (@e_consDN) (@e_consDG)))))) (And.intro (And.intro (And.intro (And.intro (@e_guardB) (And.intro (@e_guardTT) (@e_guardTF))) (And.intro (@e_guardFT) (And.intro (@e_guardFF) (@e_guardU)))) (And.intro (And.intro (@e_pure) (And.intro (@e_eff) (@e_call))) (And.intro (@e_pureD) (And.intro (@e_effD1) (@e_effD2))))) (And.intro (And.intro (And.intro (@e_effD3) (And.intro (@e_callD2) (@e_callD3))) (And.intro (@e_thenP) (And.intro (@e_thenE) (@e_thenL)))) (And.intro (And.intro (@e_putS) (And.intro (@e_putN) (@e_upd))) (And.intro (@e_t) (And.intro (@e_c) (@p_move))))))) (And.intro (And.intro (And.intro (And.intro (And.intro (@p_bin) (And.intro (@p_len) (@p_conv))) (And.intro (@p_pick) (And.intro (@p_indexAddr) (@p_slice)))) (And.intro (And.intro (@p_extract) (And.intro (@p_not) (@b_add))) (And.intro (@b_sub) (And.intro (@b_mul) (@b_eql))))) (And.intro (And.intro (And.intro (@b_neq) (And.intro (@b_lss) (@b_leq))) (And.intro (@b_gtr) (And.intro (@b_geq) (@l_nil)))) (And.intro (And.intro (@l_slice) (And.intro (@l_sliceU) (@x_load1))) (And.intro (@Nat.zero_add) (And.intro (@Nat.add_zero) (@Nat.mul_one)))))) (And.intro (And.intro (And.intro (And.intro (@w64) (And.intro (@wu32) (@wu64))) (And.intro (@beqT) (And.intro (@beqF) (@bneT)))) (And.intro (And.intro (@bneF) (And.intro (@dT) (@dF))) (And.intro (@a_idx) (And.intro (@a_idxU) (@a_hi))))) (And.intro (And.intro (And.intro (@a_hiN) (And.intro (@a_sl) (@r_ro0))) (And.intro (@r_rw0) (And.intro (@r_sl0) (@r_succ)))) (And.intro (And.intro (@ints_get) (And.intro (@toNat_sub1) (@nat_toNat))) (And.intro (@Nat.add_sub_cancel) (And.intro (@q_tmp) (@q_then)))))))
end Go.Vh

