/- From a contract to a row: arguments that are slices of integers. -/
import Derived.Test.YtleicopofpompaaDoorVh21
import Derived.Carry
import Derived.ChangeSlices
set_option linter.unusedSimpArgs false
set_option linter.unusedVariables false
namespace Go.Vh
open Go Go.ChangeShapes Go.WideShapes Go.RowKit Go.ChangeAt

theorem Frm.below {w w' : World} (h : Frm w.heap.size (fun _ => False) w w') : Below w.heap.size w w' :=
  ⟨h.os, h.tape, h.output, h.size, fun k hk => h.block k hk id⟩

section
variable {P : Program} {H : Type} {enc : TypeId × Value → H}

theorem trodAll_stays (hl : laidOutB P = true) {W W' : World} (hb : Below W.heap.size W W') {sp' : Nat → Bool} : ∀ {ts : List TypeId} {vs : List Value} {ds : List (DataW H)} {ps : List MemPlace},
    (∀ t ∈ ts, P.readableRec t = true ∧ t < P.types.size) → DataW.TrodAll enc P W 0 (fun _ => true) true ts vs ds ps → (∀ x ∈ ps, x.block < W.heap.size) → (∀ x ∈ ps, sp' x.block = true) → DataW.TrodAll enc P W' 0 sp' true ts vs ds ps
  | [], _, _, _, _, h, _, _ => by
    obtain ⟨rfl, rfl, rfl⟩ := trodAll_nil h
    exact trodAll_mk0
  | t :: ts, _, _, _, ht, h, hlt, hsp => by
    obtain ⟨v, vs, d, ds, p, q, rfl, rfl, rfl, h1, h2⟩ := trodAll_cons h
    obtain ⟨k1, k2⟩ := ht t (by simp)
    exact trodAll_cons_mk (WideElems.Trod_stays hl k1 k2 h1 (fun x hx => hb.same (hlt x (by simp [hx]))) (fun x hx => hsp x (by simp [hx])))
      (trodAll_stays hl hb (fun u hu => ht u (by simp [hu])) h2 (fun x hx => hlt x (by simp [hx])) (fun x hx => hsp x (by simp [hx])))

/-- What a law's row asks behind the call. -/
theorem law_post {f : Func} {s : ChangeSpec} {W W' : World} {args : Array Value} {ds : List (DataW H)} {before : List MemPlace} {tb : TypeId}
    (hl : laidOutB P = true) (hts : ∀ t ∈ f.params.toList, P.readableRec t = true ∧ t < P.types.size) (hr : f.resultTypes = #[tb]) (htb : P.underlying tb = some .bool)
    (hs : (s.fn H ds).results = [.lit (.bool true)]) (hsa : (s.fn H ds).args = ds) (hsv : (s.fn H ds).vars = []) (hv : s.vars = [])
    (hW : DataW.Whole enc P f.params.toList s.vars false W args.toList ds [] before) (hf : Frm W.heap.size (fun _ => False) W W') : s.post enc P f false true false false W args (.bool true) W' := by
  have hlt := hW.lt
  have hW' := hW
  obtain ⟨p, q, hA, hV, rfl, _, _⟩ := hW
  rw [hv] at hV
  obtain ⟨_, rfl⟩ := trodVars_none hV
  rw [List.append_nil] at hlt hW'
  have e : ds ++ ([] : List (DataW H)) = ds := List.append_nil _
  refine post_of_old (pa := p) (pv := []) hW' (fun b sp hd => ?_) (fun sp hsp => ?_) (fun sp _ => ?_) (by simp) hf (ok_one hr rfl (okWide_bool_mk htb _))
  · rw [e, hs, hr]
    exact trodAll_cons_mk (shut_bool htb _) trodAll_mk0
  · rw [e, hsa]
    exact trodAll_stays hl hf.below hts hA hlt hsp
  · rw [e, hsv, hv]
    rfl
end

/-- Rows of integers, with where they lie. -/
structure IRow where
  k : IntKind
  l : List Int
  x : Loc

def irows (rs : List IRow) : AHeap := rs.map fun r => ro (ints r.k r.l)
def ilocs (rs : List IRow) : RMap := fun i => (rs[i]?).map (·.x)
def IRow.at (r : IRow) (w : World) : Prop := r.x.n ≠ 0 ∧ ∀ i, i < r.l.length → w.cell? ⟨r.x.b, r.x.d + i, none⟩ = some (.int r.k (r.l.getD i 0))

theorem irows_at {rs : List IRow} {i : Nat} {row : ARow} (h : rowAt (irows rs) i = some row) : ∃ r, rs[i]? = some r ∧ row = ⟨false, false, ints r.k r.l⟩ := by
  rw [rowAt_some, irows, List.getElem?_map, Option.map_eq_some_iff] at h
  obtain ⟨r, h1, h2⟩ := h
  exact ⟨r, h1, by cases h2; rfl⟩

theorem Sim.ints {rs : List IRow} {w : World} {B : Nat} {ex : Nat → Prop} (h : ∀ r ∈ rs, r.at w) : Sim B ex (ilocs rs) (irows rs) w := by
  refine ⟨fun i hi => ?_, fun i row hi => ?_, fun i row x hi hx j c hc => ?_, fun i row x hi ho => ?_, fun i j a b x y hi _ ho => ?_, fun i row x hi hx hne => ?_⟩
  · simp only [irows, List.length_map] at hi
    simp [ilocs, List.getElem?_eq_none hi]
  · obtain ⟨r, h1, rfl⟩ := irows_at hi
    exact ⟨r.x, by simp [ilocs, h1]⟩
  · obtain ⟨r, h1, rfl⟩ := irows_at hi
    have hx' : r.x = x := by simpa [ilocs, h1] using hx
    subst hx'
    obtain ⟨_, h3⟩ := h r (List.mem_of_getElem? h1)
    rcases Nat.lt_or_ge j r.l.length with hj | hj
    · have : (Go.Vh.ints r.k r.l)[j]? = some (.int r.k (r.l.getD j 0)) := ints_get hj
      rw [this] at hc
      cases hc
      exact ⟨rfl, _, h3 j hj, .int _ _⟩
    · have : (Go.Vh.ints r.k r.l)[j]? = none := List.getElem?_eq_none (by rw [ints_length]; exact hj)
      rw [this] at hc; cases hc
  · obtain ⟨r, h1, rfl⟩ := irows_at hi
    cases ho
  · obtain ⟨r, h1, rfl⟩ := irows_at hi
    cases ho
  · obtain ⟨r, h1, rfl⟩ := irows_at hi
    have hx' : r.x = x := by simpa [ilocs, h1] using hx
    subst hx'
    exact (h r (List.mem_of_getElem? h1)).1

/-- A call whose arguments reach rows of integers alone. -/
theorem ACalls.onInts {P : Program} {f : FuncId} {args : List AV} {rs : List IRow} {W : List Nat} {R : AV → AHeap → Prop} (h : ACalls P f args (irows rs) W R) {w : World} (hrs : ∀ r ∈ rs, r.at w) {vs : List Value} (hv : VRelL (ilocs rs) args vs) :
    Calls P f vs.toArray w fun e w' => ∃ v v' ρ' H', e = .returned v' ∧ R v H' ∧ VRel ρ' v v' ∧ Frm w.heap.size (fun _ => False) w w' := by
  refine (h.calls _ w vs (Sim.ints hrs) hv fun _ => .any _).mono fun e w' ⟨v, v', ρ', H', h1, h2, _, h4, _, h6, _⟩ => ⟨v, v', ρ', H', h1, h2, h4, ⟨h6.os, h6.tape, h6.output, h6.size, fun k hk _ => h6.block k hk fun ⟨r, row, x, _, q, ho, _⟩ => ?_⟩⟩
  obtain ⟨_, _, rfl⟩ := irows_at q
  cases ho

section
variable {P : Program} {H : Type} {enc : TypeId × Value → H} {W : World}

/-- An argument that is a slice of integers. -/
theorem open_row_ints {t e : TypeId} {k : IntKind} {v : Value} {d : DataW H} {ps : List MemPlace} {base : Nat} {r0 : Reach} (ht : P.underlying t = some (.slice e)) (he : P.underlying e = some (.int k)) (hc : P.cellsOf e = 1)
    (hval : Value.okWide P W r0 base t v) (h : DataW.Trod enc P W 0 (fun _ => true) true t v d ps) :
    ∃ (κ : SK) (r : IRow), r.k = k ∧ r.at W ∧ okS κ r.l.length ∧ r.l.length ≤ maxLen ∧ (∀ n ∈ r.l, (Lit.int k n).wf = true) ∧ ∀ (ρ : RMap) (i : Nat), ρ i = some r.x → VRel ρ (mkS κ i 0 r.l.length) v := by
  obtain ⟨a0, len0, cap0, rfl⟩ := okWide_slice ht hval
  obtain ⟨fuel, hf⟩ := h
  rcases open_ints ht he hc hf with ⟨hcs, _⟩ | ⟨a, len, cap, zs, hcs, _, hle, hmax, hz, _, hcell, hw⟩
  · simp [Value.cells] at hcs
    obtain ⟨rfl, rfl, rfl⟩ := hcs
    exact ⟨.nil, ⟨k, [], ⟨0, 0, 1⟩⟩, rfl, ⟨by simp, fun i hi => by simp at hi⟩, rfl, by simp, fun n hn => by simp at hn, fun ρ i _ => .nilslice⟩
  · simp [Value.cells] at hcs
    obtain ⟨rfl, rfl, rfl⟩ := hcs
    simp only [if_true] at hz
    refine ⟨.cap cap0, ⟨k, zs.take len0, ⟨a.block, a.off, 1⟩⟩, rfl, ⟨by simp, fun i hi => ?_⟩, ?_, ?_, fun n hn => hw n (List.mem_of_mem_take hn), fun ρ i hx => ?_⟩
    · simp only [List.length_take] at hi
      have h0 := hcell i (by omega)
      have hsp := hcell 0 (by omega)
      obtain ⟨b, off, spot⟩ := a
      have hspot : spot = none := by simpa [Addr.add] using World.cell?_spot hsp
      subst hspot
      rw [add_plain] at h0
      simp only
      rw [h0]
      simp [List.getD_eq_getElem?_getD, List.getElem?_take, show i < len0 by omega]
    · simp only [okS, List.length_take]; omega
    · simp only [List.length_take]; omega
    · have hl : (zs.take len0).length = len0 := by rw [List.length_take]; omega
      simp only [hl, mkS]
      rcases Nat.eq_zero_or_pos cap0 with h0 | h0
      · have : len0 = 0 := by omega
        subst this; subst h0
        exact .slice0 _ _ _
      · have hsp := hcell 0 (by omega)
        obtain ⟨b, off, spot⟩ := a
        have hspot : spot = none := by simpa [Addr.add] using World.cell?_spot hsp
        subst hspot
        have := VRel.slice (ρ := ρ) i 0 len0 cap0 _ hx hle
        simpa using this
end
end Go.Vh
