/- A function's contract out of its body; rows that are no longer wanted. -/
import Derived.Test.YthbhljolpnbdlaaV4
import Derived.IntWalk
set_option linter.unusedSimpArgs false
set_option linter.unusedVariables false
namespace Go.Vh
open Go

inductive IRes where
  | tmp (t : Nat)
  | cell (t n : Nat) (agg : Bool)
  deriving Inhabited

def resOf (P : Program) : ResultVar → Option IRes
  | .tmp t => if t < 1048576 then some (.tmp t) else none
  | .cell a ty => if a < 1048576 then (match P.underlying ty, sizeA P ty with
    | some d, some n => some (.cell a n (aggD d))
    | _, _ => none) else none

def ares1 (s : St) (H : AHeap) : IRes → Option AV
  | .tmp t => some (s t)
  | .cell t n agg => match s t with
    | .ptr r off => if agg = true then (cellsAt H r off n).map .agg else (rowAt H r).bind fun row => row.cells[off]?
    | _ => none

def aresL (s : St) (H : AHeap) : List IRes → Option (List AV)
  | [] => some []
  | r :: l => (ares1 s H r).bind fun v => (aresL s H l).map fun vs => v :: vs

def ares (s : St) (H : AHeap) (l : List IRes) : Option AV :=
  match l with
  | [r] => ares1 s H r
  | l => (aresL s H l).map .tuple

def thenR (R : AV → AHeap → Prop) (H : AHeap) : Option AV → Prop
  | some v => R v H
  | none => False

def retPost (n0 : Nat) (rs : List IRes) (R : AV → AHeap → Prop) : AExit → St → AHeap → Prop
  | .exit _, _, _ => False
  | _, s, H => ∃ s' H', Weak n0 s H s' H' ∧ H'.length ≥ n0 ∧ thenR R H' (ares s' H' rs)

def s0G (γ : Nat → AV) (args : List AV) : St := fun t => match args[t]? with
  | some v => v
  | none => if t < 1048576 then unv else γ (t - 1048576)
abbrev s0 (args : List AV) : St := s0G noG args
/-- A result, read. -/
def readRes (tmps : Array Value) : ResultVar → Sem Value
  | .tmp t => pure (tmps.getD t undef)
  | .cell x t => do loadVar t (← asAddr (tmps.getD x undef))

theorem results_eq (fn : Func) (tmps : Array Value) : results fn tmps = (do
    let vs ← fn.results.mapM (readRes tmps)
    pure (if h : vs.size = 1 then vs[0] else .tuple vs)) := by
  unfold results
  congr 2

section
variable {P : Program} {w0 : World} {ex : Nat → Prop} {N n0 : Nat} {R0 : RMap}

theorem ares1_ok {ρ : RMap} {s : St} {H : AHeap} {a : Act} {w : World} (rel : Rel w0 ex N R0 ρ s H a w) {rv : ResultVar} {r : IRes} (hr : resOf P rv = some r) {v : AV} (h : ares1 s H r = some v) :
    ∃ v', VRel ρ v v' ∧ (readRes a.tmps rv).run P w = .ok v' w := by
  cases rv with
  | tmp t =>
    simp only [resOf] at hr
    split at hr
    · rename_i hlt
      simp only [Option.some.injEq] at hr; subst hr
      simp only [ares1, Option.some.injEq] at h; subst h
      have := rel.tmps t
      rw [tv_lt hlt] at this
      exact ⟨_, this, rfl⟩
    · cases hr
  | cell x ty =>
    simp only [resOf] at hr
    split at hr
    case isFalse => cases hr
    rename_i hlt
    split at hr
    · rename_i d n hd hn
      simp only [Option.some.injEq] at hr; subst hr
      simp only [ares1] at h
      have rt := rel.tmps x
      rw [tv_lt hlt] at rt
      split at h
      · rename_i r off hx
        rw [hx] at rt
        obtain ⟨y, hy, hv⟩ := rt.ptr_inv
        split at h
        · rename_i hagg
          simp only [Option.map_eq_some_iff] at h
          obtain ⟨l, hl, rfl⟩ := h
          obtain ⟨row, hr, hle, rfl⟩ := cellsAt_spec hl
          obtain ⟨vs, k1, k2, k3, k4⟩ := rel.inv.sim.read hr hy hle
          refine ⟨.agg vs.toArray, .agg _ _ (by simpa using k2), ?_⟩
          have hl := run_loadCells_list (P := P) w ⟨y.b, y.d + off, none⟩ vs k4
          rw [k1] at hl
          simp only [readRes, hv]
          simp [asAddr, loadVar, run_isAgg hd, hagg, run_size hn, hl]
        · rename_i hagg
          simp only [Option.bind_eq_some_iff] at h
          obtain ⟨row, hr, hcell⟩ := h
          obtain ⟨_, u, hu, hru⟩ := rel.inv.sim.cells r row y hr hy off v hcell
          refine ⟨u, hru, ?_⟩
          simp only [readRes, hv]
          simp [asAddr, loadVar, run_isAgg hd, hagg, run_load, hu]
      · cases h
    · cases hr

theorem aresL_ok {ρ : RMap} {s : St} {H : AHeap} {a : Act} {w : World} (rel : Rel w0 ex N R0 ρ s H a w) : ∀ {rvs : List ResultVar} {rs : List IRes}, rvs.mapM (resOf P) = some rs → ∀ {l : List AV}, aresL s H rs = some l →
    ∃ vs, VRelL ρ l vs ∧ (rvs.mapM (readRes a.tmps)).run P w = .ok vs w
  | [], rs, hr, l, h => by
    simp at hr; subst hr
    simp only [aresL, Option.some.injEq] at h; subst h
    exact ⟨[], .nil, by simp⟩
  | rv :: rvs, rs, hr, l, h => by
    simp only [List.mapM_cons, Option.pure_def, Option.bind_eq_bind, Option.bind_eq_some_iff] at hr
    obtain ⟨r, hr1, rs', hrs, e⟩ := hr
    simp only [Option.some.injEq] at e; subst e
    simp only [aresL, Option.bind_eq_some_iff, Option.map_eq_some_iff] at h
    obtain ⟨v, hv, vs, hvs, rfl⟩ := h
    obtain ⟨v', k1, k2⟩ := ares1_ok rel hr1 hv
    obtain ⟨vs', k3, k4⟩ := aresL_ok rel hrs hvs
    refine ⟨v' :: vs', .cons _ _ _ _ k1 k3, ?_⟩
    rw [List.mapM_cons, Sem.run_bind, k2]
    simp [k4]

theorem ares_ok {ρ : RMap} {s : St} {H : AHeap} {a : Act} {w : World} (rel : Rel w0 ex N R0 ρ s H a w) {fn : Func} {rs : List IRes} (hr : fn.results.toList.mapM (resOf P) = some rs) {v : AV} (h : ares s H rs = some v) :
    ∃ v', VRel ρ v v' ∧ (results fn a.tmps).run P w = .ok v' w := by
  have run : ∀ vs, (fn.results.toList.mapM (readRes a.tmps)).run P w = .ok vs w →
      (results fn a.tmps).run P w = .ok (if h : vs.toArray.size = 1 then vs.toArray[0] else .tuple vs.toArray) w := fun vs hvs => by
    rw [results_eq, Array.mapM_eq_mapM_toList, Sem.run_bind, Sem.run_map, hvs]
    rfl
  unfold ares at h
  split at h
  · rename_i r
    obtain ⟨vs, k1, k2⟩ := aresL_ok rel hr (l := [v]) (by simp [aresL, h])
    have := run vs k2
    cases k1
    rename_i u t hu ht
    cases ht
    exact ⟨u, hu, by rw [this]; simp⟩
  · rename_i hne
    simp only [Option.map_eq_some_iff] at h
    obtain ⟨l, hl, rfl⟩ := h
    obtain ⟨vs, k1, k2⟩ := aresL_ok rel hr hl
    have hlen : vs.length ≠ 1 := fun e => by
      have e1 := VRelL.length k1
      have : l.length = rs.length := by
        clear hne k1 k2 e e1 run hr
        induction rs generalizing l with
        | nil => simp [aresL] at hl; subst hl; rfl
        | cons r rs ih =>
          simp only [aresL, Option.bind_eq_some_iff, Option.map_eq_some_iff] at hl
          obtain ⟨_, _, _, h2, rfl⟩ := hl
          simp [ih _ h2]
      match rs, hne, this with
      | [r], hne, _ => exact hne r rfl
      | [], _, this => simp only [List.length_nil] at this; omega
      | _ :: _ :: _, _, this => simp only [List.length_cons] at this; omega
    refine ⟨.tuple vs.toArray, .tuple _ _ (by simpa using k1), ?_⟩
    rw [run vs k2, dif_neg (by simpa using hlen)]

/-- **A contract, out of the body.** -/
theorem ACallsG.intro {γ : Nat → AV} {f : FuncId} {fn : Func} {c : Code} {ir : IR} {rs : List IRes} {args : List AV} {H : AHeap} {R : AV → AHeap → Prop} (hf : P.funcs[f]? = some fn) (hb : fn.body = some c) (hent : enters P f = true) (hG : fn.ntmps ≤ 1048576)
    (hir : irOf P fn.ntmps c = some ir) (hrs : fn.results.toList.mapM (resOf P) = some rs) (hargs : args.length ≤ fn.ntmps) (h : iwp P H.length ir (retPost H.length rs R) (s0G γ args) H) : ACallsG P γ f args H (List.range H.length) R := by
  refine ⟨hent, fun ρ w vs hsim hv hg => ?_⟩
  have hlen := VRelL.length hv
  have hdom : ∀ r, H.length ≤ r → ρ r = none := hsim.dom
  refine calls_of_wp hf hb ?_
  have rel : Rel w (exOf ρ H) fn.ntmps ρ ρ (s0G γ args) H { tmps := vs.toArray ++ Array.replicate (fn.ntmps - vs.toArray.size) undef, defers := [] } w := by
    refine ⟨⟨hsim, Frm.refl⟩, fun t => ?_, ⟨by simp; omega, hG⟩, rfl, RMap.le_refl _⟩
    unfold s0G tv
    rcases Nat.lt_or_ge t args.length with ht | ht
    · obtain ⟨v, h1, h2⟩ := hv.get (i := t) (a := args[t]) (by simp [ht])
      have e1 : args[t]? = some args[t] := by simp [ht]
      have e2 : (vs.toArray ++ Array.replicate (fn.ntmps - vs.toArray.size) undef).getD t undef = v := by
        simp only [Array.getD_eq_getD_getElem?]
        rw [Array.getElem?_append_left (by simp; omega)]
        simp [h1]
      rw [e1, e2]
      simp only
      rw [if_pos (by omega)]
      exact h2
    · rw [List.getElem?_eq_none ht]
      simp only
      by_cases hG' : t < 1048576
      · rw [if_pos hG', if_pos hG']
        have e2 : (vs.toArray ++ Array.replicate (fn.ntmps - vs.toArray.size) undef).getD t undef = undef := by
          simp only [Array.getD_eq_getD_getElem?]
          rw [Array.getElem?_append_right (by simp; omega)]
          rw [Array.getElem?_replicate]
          split <;> rfl
        rw [e2]; exact .lit _
      · rw [if_neg hG', if_neg hG']
        exact hg _
  refine iwp_sound hdom c ir _ _ hir (fun e s' H' ρ' a' w' k r => ?_) (s0G γ args) H ρ _ w h rel
  have main : (∃ s2 H2, Weak H.length s' H' s2 H2 ∧ H2.length ≥ H.length ∧ thenR R H2 (ares s2 H2 rs)) → a'.defers = [] ∧ ∃ v, (results fn a'.tmps).run P w' = .ok v w' ∧ (∃ v1 v' ρ' H'', Ending.returned v = .returned v' ∧ R v1 H'' ∧ ρ.le ρ' ∧ VRel ρ' v1 v' ∧
      Sim w.heap.size (exOf ρ H) ρ' H'' w' ∧ Frm w.heap.size (exW (List.range H.length) ρ H) w w' ∧ H.length ≤ H''.length) := fun ⟨s2, H2, hw, hle, ht⟩ => by
    obtain ⟨ρ2, r2⟩ := hw _ _ _ _ _ _ _ hdom r
    refine ⟨r2.defers, ?_⟩
    cases hv2 : ares s2 H2 rs with
    | none => rw [hv2] at ht; exact ht.elim
    | some v1 =>
      rw [hv2] at ht
      obtain ⟨v', k1, k2⟩ := ares_ok r2 hrs hv2
      refine ⟨v', k2, v1, v', ρ2, H2, rfl, ht, r2.base, k1, r2.inv.sim, ?_, hle⟩
      refine ⟨r2.inv.frm.os, r2.inv.frm.tape, r2.inv.frm.output, r2.inv.frm.size, fun k hk hne => r2.inv.frm.block k hk fun hx => hne ?_⟩
      obtain ⟨q, row, x, h1, h2⟩ := hx
      exact ⟨q, row, x, by simpa using rowAt_lt h1, h1, h2⟩
  cases e with
  | normal => exact main k
  | ret => exact main k
  | exit id => exact k.elim
end
end Go.Vh


/- The equations by which a proof goes through a function's code. -/
namespace Go.Vh
open Go

section
variable {P : Program} {n0 : Nat} {Q : AExit → St → AHeap → Prop} {K : St → AHeap → Prop} {s : St} {H H0 : AHeap} {d : Option Nat} {v : AV}
theorem e_skip : iwp P n0 .skip Q s H = Q .normal s H := rfl
theorem e_ops {l} : iwp P n0 (.ops l) Q s H = iops P l (Q .normal) s H := rfl
theorem e_dops {l} : iwp P n0 (.dops l) Q s H = iopsD P H l (Q .normal) s H := rfl
theorem e_seq {a b} : iwp P n0 (.seq a b) Q s H = iwp P n0 a (seqPost (iwp P n0 b Q) Q) s H := rfl
theorem e_block {id a} : iwp P n0 (.block id a) Q s H = iwp P n0 a (blockPost id Q) s H := rfl
theorem e_exit {id} : iwp P n0 (.exit id) Q s H = Q (.exit id) s H := rfl
theorem e_ret : iwp P n0 .ret Q s H = Q .ret s H := rfl
theorem e_seqN : seqPost K Q .normal s H = K s H := rfl
theorem e_seqE {i} : seqPost K Q (.exit i) s H = Q (.exit i) s H := rfl
theorem e_seqR : seqPost K Q .ret s H = Q .ret s H := rfl
theorem e_blockN {id} : blockPost id Q .normal s H = Q .normal s H := rfl
theorem e_blockR {id} : blockPost id Q .ret s H = Q .ret s H := rfl
theorem e_blockE {id i} : blockPost id Q (.exit i) s H = if i = id then Q .normal s H else Q (.exit i) s H := rfl
theorem e_nil : iops P [] K s H = K s H := rfl
theorem e_consN {o l} : iops P (⟨d, none, o⟩ :: l) K s H = iop P d o (iops P l K) s H := rfl
theorem e_nilD : iopsD P H0 [] K s H = K s H := rfl
theorem e_consDN {o i m l} : iopsD P H0 (⟨⟨d, none, o⟩, i, m⟩ :: l) K s H = iopD P H0 m d o (iopsD P H0 l K) s H := rfl
theorem e_pure {p} : iop P d (.pure p) K s H = thenP K d s H (ipure p s) := rfl
theorem e_eff {e} : iop P d (.eff e) K s H = thenE K d s (ieff e s H) := rfl
theorem e_call {f args} : iop P d (.call f args) K s H = thenC P K d s H (args.map (evo s)) (evo s f) := rfl
theorem e_pureD {m p} : iopD P H0 m d (.pure p) K s H = thenP K d s H (ipure p s) := rfl
theorem e_effD1 {e} : iopD P H0 1 d (.eff e) K s H = thenL K d s H (ieff e s H0) := rfl
theorem e_effD2 {e} : iopD P H0 2 d (.eff e) K s H = thenE K d s (ieff e s H) := rfl
theorem e_effD3 {e} : iopD P H0 3 d (.eff e) K s H = thenE K d s (ieff e s H) := rfl
theorem e_callD2 {f args} : iopD P H0 2 d (.call f args) K s H = thenC0 P K d s H (args.map (evo s)) (evo s f) := rfl
theorem e_callD3 {f args} : iopD P H0 3 d (.call f args) K s H = thenC P K d s H (args.map (evo s)) (evo s f) := rfl
theorem e_thenP : thenP K d s H (some v) = K (putI d s v) H := rfl
theorem e_thenE {H'} : thenE K d s (some (v, H')) = K (putI d s v) H' := rfl
theorem e_thenL {H'} : thenL K d s H (some (v, H')) = K (putI d s v) H := rfl
theorem e_putS {d} : putI (some d) s v = upd s d v := rfl
theorem e_putN : putI none s v = s := rfl
theorem e_upd {d t} : upd s d v t = if t = d then v else s t := rfl
theorem e_t {t} : evo s (.t t) = s t := rfl
theorem e_c {v} : evo s (.c v) = v := rfl
theorem e_none {α β} {f : α → β} : Option.map f none = none := rfl
theorem e_some {α β} {f : α → β} {x} : Option.map f (some x) = some (f x) := rfl
theorem e_bindS {α β} {f : α → Option β} {x} : (some x).bind f = f x := rfl

theorem p_move {x} : ipure (.move x) s = some (evo s x) := rfl
theorem p_bin {op x y} : ipure (.bin op x y) s = abin op (evo s x) (evo s y) := rfl
theorem p_len {x} : ipure (.len x) s = (alen (evo s x)).map fun (n : Nat) => AV.int .i64 (n : Int) := rfl
theorem p_conv {k x} : ipure (.conv k x) s = (match evo s x with | .int _ n => some (.int k (k.wrap n)) | _ => none) := rfl
theorem p_pick {c x y} : ipure (.pick c x y) s = (match evo s c with | .bool true => some (evo s x) | .bool false => some (evo s y) | _ => none) := rfl
theorem p_indexAddr {sz x i} : ipure (.indexAddr sz x i) s = aindexAddr sz (evo s x) (evo s i) := rfl
theorem p_slice {sz x lo hi} : ipure (.slice sz x lo hi) s = aslice sz (evo s x) (lo.map (evo s)) (hi.map (evo s)) := rfl
theorem p_extract {x i} : ipure (.extract x i) s = (match evo s x with | .tuple l => l[i]? | _ => none) := rfl
theorem p_not {x} : ipure (.not x) s = (match evo s x with | .bool b => some (.bool !b) | _ => none) := rfl

theorem b_add {k a b} : abin .add (.int k a) (.int k b) = some (.int k (k.wrap (a + b))) := by simp [abin, aint]
theorem b_sub {k a b} : abin .sub (.int k a) (.int k b) = some (.int k (k.wrap (a - b))) := by simp [abin, aint]
theorem b_mul {k a b} : abin .mul (.int k a) (.int k b) = some (.int k (k.wrap (a * b))) := by simp [abin, aint]
theorem b_eql {k a b} : abin .eql (.int k a) (.int k b) = some (.bool (a == b)) := by simp [abin, aint]
theorem b_neq {k a b} : abin .neq (.int k a) (.int k b) = some (.bool (a != b)) := by simp [abin, aint]
theorem b_lss {k a b} : abin .lss (.int k a) (.int k b) = some (.bool (decide (a < b))) := by simp [abin, aint]
theorem b_leq {k a b} : abin .leq (.int k a) (.int k b) = some (.bool (decide (a ≤ b))) := by simp [abin, aint]
theorem b_gtr {k a b} : abin .gtr (.int k a) (.int k b) = some (.bool (decide (b < a))) := by simp [abin, aint]
theorem b_geq {k a b} : abin .geq (.int k a) (.int k b) = some (.bool (decide (b ≤ a))) := by simp [abin, aint]

theorem l_nil : alen .nilslice = some 0 := rfl
theorem l_slice {r o n c} : alen (.slice r o n c) = some n := rfl
theorem l_sliceU {r o n c} : alen (.sliceU r o n c) = some n := rfl

theorem x_load1 {x} : ieff (.load1 x) s H = (match evo s x with | .ptr r off => ((rowAt H r).bind fun row => row.cells[off]?).map fun v => (v, H) | _ => none) := rfl
end
end Go.Vh


/- Facts with side conditions for the walk: 'simp (disch := omega)'. -/
namespace Go.Vh
open Go

def ints (k : IntKind) (l : List Int) : List AV := l.map (AV.int k)
def ro (cs : List AV) : Option ARow := some ⟨false, false, cs⟩
def rw_ (cs : List AV) : Option ARow := some ⟨true, false, cs⟩
def sl (cs : List AV) : Option ARow := some ⟨true, true, cs⟩

theorem r_succ {o : Option ARow} {H : AHeap} {n : Nat} : rowAt (o :: H) (n + 1) = rowAt H n := by simp [rowAt]
theorem r_ro0 {cs : List AV} {H : AHeap} : rowAt (ro cs :: H) 0 = some ⟨false, false, cs⟩ := by simp [rowAt, ro]
theorem r_rw0 {cs : List AV} {H : AHeap} : rowAt (rw_ cs :: H) 0 = some ⟨true, false, cs⟩ := by simp [rowAt, rw_]
theorem r_sl0 {cs : List AV} {H : AHeap} : rowAt (sl cs :: H) 0 = some ⟨true, true, cs⟩ := by simp [rowAt, sl]

theorem ints_get {k : IntKind} {l : List Int} {i : Nat} (h : i < l.length) : (ints k l)[i]? = some (.int k (l.getD i 0)) := by
  simp [ints, h]
theorem ints_length {k : IntKind} {l : List Int} : (ints k l).length = l.length := by simp [ints]
theorem ints_splice {k : IntKind} {l m : List Int} {i : Nat} : splice (ints k l) i (ints k m) = ints k (l.take i ++ m ++ l.drop (i + m.length)) := by simp [splice, ints]

theorem a_idx {sz r off n c : Nat} {k : IntKind} {x : Int} (h0 : 0 ≤ x) (h1 : x < n) : aindexAddr sz (.slice r off n c) (.int k x) = some (.ptr r (off + x.toNat * sz)) := by
  simp [aindexAddr, h0, h1]
theorem a_idxU {sz r off n c : Nat} {k : IntKind} {x : Int} (h0 : 0 ≤ x) (h1 : x < n) : aindexAddr sz (.sliceU r off n c) (.int k x) = some (.ptr r (off + x.toNat * sz)) := by
  simp [aindexAddr, h0, h1]
theorem a_hi {k : IntKind} {x : Int} {d m : Nat} (h0 : 0 ≤ x) (h1 : x ≤ m) : ahi (some (.int k x)) d m = some x.toNat := by
  simp [ahi, abound, h0, h1]
theorem a_hiN {d m : Nat} : ahi none d m = some d := rfl
theorem a_sl {sz r off n c : Nat} {lo hi : Option AV} : aslice sz (.slice r off n c) lo hi = (ahi hi n c).bind fun h => (ahi lo 0 h).bind fun l => some (.slice r (off + l * sz) (h - l) (c - l)) := rfl

theorem w64 {x : Int} (h : -9223372036854775808 ≤ x) (h' : x ≤ 9223372036854775807) : IntKind.i64.wrap x = x := IntWalk.i64_in x ⟨h, h'⟩
theorem wu32 {x : Int} (h : 0 ≤ x) (h' : x ≤ 4294967295) : IntKind.u32.wrap x = x := by rw [IntKind.wrap_u32]; omega
theorem wu64 {x : Int} (h : 0 ≤ x) (h' : x ≤ 18446744073709551615) : IntKind.u64.wrap x = x := by rw [IntKind.wrap_u64]; omega
theorem beqT {a b : Int} (h : a = b) : (a == b) = true := by simp [h]
theorem beqF {a b : Int} (h : a ≠ b) : (a == b) = false := by simp [h]
theorem bneT {a b : Int} (h : a ≠ b) : (a != b) = true := by simp [h]
theorem bneF {a b : Int} (h : a = b) : (a != b) = false := by simp [h]
theorem dT {p : Prop} [Decidable p] (h : p) : decide p = true := by simp [h]
theorem dF {p : Prop} [Decidable p] (h : ¬ p) : decide p = false := by simp [h]
theorem toNat_sub1 {n : Nat} (h : 0 < n) : ((n : Int) - 1).toNat = n - 1 := by omega
theorem nat_toNat {n : Nat} : ((n : Int)).toNat = n := by omega

/-- The end of a function, no row let go. -/
theorem ret_keep {n0 : Nat} {rs : List IRes} {R : AV → AHeap → Prop} {s : St} {H : AHeap} (h : H.length ≥ n0) (ht : thenR R H (ares s H rs)) : retPost n0 rs R .ret s H := ⟨s, H, Weak.refl, h, ht⟩
theorem loop_keep {n0 : Nat} {I : Nat → St → AHeap → Prop} {n m : Nat} {s : St} {H : AHeap} (h : m < n) (hi : I m s H) : loopPost n0 I n s H := ⟨s, H, Weak.refl, m, h, hi⟩
theorem q_tmp {s : St} {H : AHeap} {t : Nat} : ares s H [.tmp t] = some (s t) := rfl
theorem q_then {R : AV → AHeap → Prop} {H : AHeap} {v : AV} : thenR R H (some v) = R v H := rfl

theorem ACallsG.body {P : Program} {γ : Nat → AV} {f : FuncId} {fn : Func} {ir : IR} {rs : List IRes} {args : List AV} {H : AHeap} {R : AV → AHeap → Prop} (hf : P.funcs[f]? = some fn) (hent : enters P f = true)
    (hir : fn.body.bind (irOf P fn.ntmps) = some ir) (hrs : fn.results.toList.mapM (resOf P) = some rs) {N : Nat} (hN : fn.ntmps = N) (hargs : args.length ≤ N) {n0 : Nat} (hn : H.length = n0) (h : iwp P n0 ir (retPost n0 rs R) (s0G γ args) H) (hG : N ≤ 1048576 := by decide) :
    ACallsG P γ f args H (List.range n0) R := by
  obtain ⟨c, hc, hi⟩ := Option.bind_eq_some_iff.1 hir
  subst hN; subst hn
  exact ACallsG.intro hf hc hent hG hi hrs hargs h
theorem ACalls.body {P : Program} {f : FuncId} {fn : Func} {ir : IR} {rs : List IRes} {args : List AV} {H : AHeap} {R : AV → AHeap → Prop} (hf : P.funcs[f]? = some fn) (hent : enters P f = true)
    (hir : fn.body.bind (irOf P fn.ntmps) = some ir) (hrs : fn.results.toList.mapM (resOf P) = some rs) {N : Nat} (hN : fn.ntmps = N) (hargs : args.length ≤ N) {n0 : Nat} (hn : H.length = n0) (h : iwp P n0 ir (retPost n0 rs R) (s0 args) H) (hG : N ≤ 1048576 := by decide) :
    ACalls P f args H (List.range n0) R := ACallsG.body hf hent hir hrs hN hargs hn h hG
end Go.Vh


/- Rows under other numbers: a contract over a few rows serves in a larger heap; rows that are no longer wanted are let go. -/
namespace Go.Vh
open Go

abbrev Sig := Nat → Option (Nat × Nat)

mutual
def AV.ren (σ : Sig) : AV → AV
  | .ptr r off => match σ r with | some (r', d) => .ptr r' (d + off) | none => .any
  | .slice r off n c => match σ r with | some (r', d) => .slice r' (d + off) n c | none => .any
  | .sliceU r off n sz => match σ r with | some (r', d) => .sliceU r' (d + off) n sz | none => .any
  | .func f l => .func f (renL σ l)
  | .bound f k l => .bound f (renL σ k) (renL σ l)
  | .agg l => .agg (renL σ l)
  | .tuple l => .tuple (renL σ l)
  | .iface t v => .iface t (AV.ren σ v)
  | .yld r => match σ r with | some (r', _) => .yld r' | none => .any
  | .any => .any
  | .bool b => .bool b
  | .int k n => .int k n
  | .str s => .str s
  | .lit v => .lit v
  | .nilptr => .nilptr
  | .nilslice => .nilslice
def renL (σ : Sig) : List AV → List AV
  | [] => []
  | v :: l => AV.ren σ v :: renL σ l
end

mutual
/-- All rows that are named are below n. -/
def AV.under (n : Nat) : AV → Bool
  | .ptr r _ => r < n
  | .slice r _ _ _ => r < n
  | .sliceU r _ _ _ => r < n
  | .func _ l => underL n l
  | .bound _ k l => underL n k && underL n l
  | .agg l => underL n l
  | .tuple l => underL n l
  | .iface _ v => AV.under n v
  | .yld r => r < n
  | .any => false
  | _ => true
def underL (n : Nat) : List AV → Bool
  | [] => true
  | v :: l => AV.under n v && underL n l
end

theorem renL_length (σ : Sig) : ∀ l : List AV, (renL σ l).length = l.length
  | [] => rfl
  | v :: l => by simp [renL, renL_length σ l]
theorem renL_get (σ : Sig) : ∀ (l : List AV) (i : Nat), (renL σ l)[i]? = (l[i]?).map (AV.ren σ)
  | [], i => by simp [renL]
  | v :: l, 0 => by simp [renL]
  | v :: l, i + 1 => by simp [renL, renL_get σ l i]
theorem underL_get {n : Nat} : ∀ {l : List AV}, underL n l = true → ∀ {i : Nat} {v : AV}, l[i]? = some v → v.under n = true
  | [], _, i, v, h => by simp at h
  | a :: l, hb, i, v, h => by
    simp only [underL, Bool.and_eq_true] at hb
    cases i with
    | zero => simp at h; subst h; exact hb.1
    | succ i => exact underL_get hb.2 (by simpa using h)

/-- A location, seen from a cell on. -/
def Loc.from (x : Loc) (d : Nat) : Loc := ⟨x.b, x.d + d, x.n⟩

mutual
/-- Back: what fits under the new numbers fits under the old ones. -/
theorem VRel.back {ρ ρ0 : RMap} {σ : Sig} {n : Nat} (h : ∀ i, i < n → ∃ r d x, σ i = some (r, d) ∧ (∀ y, ρ r = some y → x = y) ∧ ρ0 i = some (x.from d)) :
    ∀ {a : AV} {v : Value}, a.under n = true → VRel ρ (a.ren σ) v → VRel ρ0 a v
  | .ptr i off, v, hb, hv => by
    simp only [AV.under, decide_eq_true_eq] at hb
    obtain ⟨r, d, x, h1, h2, h3⟩ := h i hb
    simp only [AV.ren, h1] at hv
    obtain ⟨y, hy, rfl⟩ := hv.ptr_inv
    obtain rfl := h2 y hy
    have := VRel.ptr (ρ := ρ0) i off (x.from d) h3
    simpa [Loc.from, Nat.add_assoc] using this
  | .slice i off m c, v, hb, hv => by
    simp only [AV.under, decide_eq_true_eq] at hb
    obtain ⟨r, d, x, h1, h2, h3⟩ := h i hb
    simp only [AV.ren, h1] at hv
    rcases hv.slice_inv with ⟨y, hy, hle, rfl⟩ | ⟨rfl, rfl, q, rfl⟩
    · obtain rfl := h2 y hy
      have := VRel.slice (ρ := ρ0) i off m c (x.from d) h3 hle
      simpa [Loc.from, Nat.add_assoc] using this
    · exact .slice0 _ _ _
  | .sliceU i off m sz, v, hb, hv => by
    simp only [AV.under, decide_eq_true_eq] at hb
    obtain ⟨r, d, x, h1, h2, h3⟩ := h i hb
    simp only [AV.ren, h1] at hv
    rcases hv.sliceU_inv with ⟨y, c, hy, hle, hf, rfl⟩ | ⟨rfl, q, rfl⟩
    · obtain rfl := h2 y hy
      have := VRel.sliceU (ρ := ρ0) i off m sz c (x.from d) h3 hle (by simp only [Loc.from]; omega)
      simpa [Loc.from, Nat.add_assoc] using this
    · exact .sliceU0 _ _ _ _
  | .func f l, v, hb, hv => by
    simp only [AV.under] at hb
    simp only [AV.ren] at hv
    obtain ⟨cs, rfl, hr⟩ := hv.func_inv
    exact .func _ _ _ (VRelL.back h hb hr)
  | .bound f k l, v, hb, hv => by
    simp only [AV.under, Bool.and_eq_true] at hb
    simp only [AV.ren] at hv
    obtain ⟨fs, cs, rfl, hr, hr'⟩ := hv.bound_inv
    exact .bound _ _ _ _ _ (VRelL.back h hb.1 hr) (VRelL.back h hb.2 hr')
  | .agg l, v, hb, hv => by
    simp only [AV.under] at hb
    simp only [AV.ren] at hv
    obtain ⟨cs, rfl, hr⟩ := hv.agg_inv
    exact .agg _ _ (VRelL.back h hb hr)
  | .tuple l, v, hb, hv => by
    simp only [AV.under] at hb
    simp only [AV.ren] at hv
    obtain ⟨cs, rfl, hr⟩ := hv.tuple_inv
    exact .tuple _ _ (VRelL.back h hb hr)
  | .iface t u, v, hb, hv => by
    simp only [AV.under] at hb
    simp only [AV.ren] at hv
    obtain ⟨v', rfl, hr⟩ := hv.iface_inv
    exact .iface _ _ _ (VRel.back h hb hr)
  | .yld i, v, hb, hv => by
    simp only [AV.under, decide_eq_true_eq] at hb
    obtain ⟨r, d, x, hσ, hx, h0⟩ := h i hb
    simp only [AV.ren, hσ] at hv
    cases hv with
    | yld _ y hy => have := hx y hy; subst this; have q := VRel.yld (ρ := ρ0) i _ h0; exact q
  | .any, v, hb, hv => .any _
  | .bool b, v, hb, hv => by simp only [AV.ren] at hv; rw [hv.bool_inv]; exact .bool _
  | .int k n, v, hb, hv => by simp only [AV.ren] at hv; rw [hv.int_inv]; exact .int _ _
  | .str s, v, hb, hv => by simp only [AV.ren] at hv; rw [hv.str_inv]; exact .str _
  | .lit u, v, hb, hv => by simp only [AV.ren] at hv; cases hv; exact .lit _
  | .nilptr, v, hb, hv => by simp only [AV.ren] at hv; cases hv; exact .nilptr
  | .nilslice, v, hb, hv => by simp only [AV.ren] at hv; rw [hv.nilslice_inv]; exact .nilslice
theorem VRelL.back {ρ ρ0 : RMap} {σ : Sig} {n : Nat} (h : ∀ i, i < n → ∃ r d x, σ i = some (r, d) ∧ (∀ y, ρ r = some y → x = y) ∧ ρ0 i = some (x.from d)) :
    ∀ {l : List AV} {vs : List Value}, underL n l = true → VRelL ρ (renL σ l) vs → VRelL ρ0 l vs
  | [], vs, _, hv => by simp only [renL] at hv; cases hv; exact .nil
  | a :: l, vs, hb, hv => by
    simp only [underL, Bool.and_eq_true] at hb
    simp only [renL] at hv
    cases hv with
    | cons _ v _ vs' h1 h2 => exact .cons _ _ _ _ (VRel.back h hb.1 h1) (VRelL.back h hb.2 h2)
end

mutual
/-- Forth: what fits under the old numbers fits under the new ones. -/
theorem VRel.forth {ρ ρ0 : RMap} {σ : Sig} (h : ∀ i r d y, σ i = some (r, d) → ρ0 i = some y → ∃ x, ρ r = some x ∧ y = x.from d) :
    ∀ {a : AV} {v : Value}, VRel ρ0 a v → VRel ρ (a.ren σ) v
  | .ptr i off, v, hv => by
    obtain ⟨y, hy, rfl⟩ := hv.ptr_inv
    simp only [AV.ren]
    split
    · rename_i r d hσ
      obtain ⟨x, hx, rfl⟩ := h i r d y hσ hy
      have := VRel.ptr (ρ := ρ) r (d + off) x hx
      simpa [Loc.from, Nat.add_assoc] using this
    · exact .any _
  | .slice i off m c, v, hv => by
    simp only [AV.ren]
    split
    · rename_i r d hσ
      rcases hv.slice_inv with ⟨y, hy, hle, rfl⟩ | ⟨rfl, rfl, q, rfl⟩
      · obtain ⟨x, hx, rfl⟩ := h i r d y hσ hy
        have := VRel.slice (ρ := ρ) r (d + off) m c x hx hle
        simpa [Loc.from, Nat.add_assoc] using this
      · exact .slice0 _ _ _
    · exact .any _
  | .sliceU i off m sz, v, hv => by
    simp only [AV.ren]
    split
    · rename_i r d hσ
      rcases hv.sliceU_inv with ⟨y, c, hy, hle, hf, rfl⟩ | ⟨rfl, q, rfl⟩
      · obtain ⟨x, hx, rfl⟩ := h i r d y hσ hy
        have := VRel.sliceU (ρ := ρ) r (d + off) m sz c x hx hle (by simp only [Loc.from] at hf; omega)
        simpa [Loc.from, Nat.add_assoc] using this
      · exact .sliceU0 _ _ _ _
    · exact .any _
  | .func f l, v, hv => by
    obtain ⟨cs, rfl, hr⟩ := hv.func_inv
    simp only [AV.ren]
    exact .func _ _ _ (VRelL.forth h hr)
  | .bound f k l, v, hv => by
    obtain ⟨fs, cs, rfl, hr, hr'⟩ := hv.bound_inv
    simp only [AV.ren]
    exact .bound _ _ _ _ _ (VRelL.forth h hr) (VRelL.forth h hr')
  | .agg l, v, hv => by
    obtain ⟨cs, rfl, hr⟩ := hv.agg_inv
    simp only [AV.ren]
    exact .agg _ _ (VRelL.forth h hr)
  | .tuple l, v, hv => by
    obtain ⟨cs, rfl, hr⟩ := hv.tuple_inv
    simp only [AV.ren]
    exact .tuple _ _ (VRelL.forth h hr)
  | .iface t u, v, hv => by
    obtain ⟨v', rfl, hr⟩ := hv.iface_inv
    simp only [AV.ren]
    exact .iface _ _ _ (VRel.forth h hr)
  | .yld i, v, hv => by
    cases hv with
    | yld _ y hy =>
      simp only [AV.ren]
      split
      · rename_i r d hσ
        obtain ⟨x, hx, rfl⟩ := h i r _ y hσ hy
        exact VRel.yld (ρ := ρ) r x hx
      · exact .any _
  | .any, v, hv => .any _
  | .bool b, v, hv => by rw [hv.bool_inv]; exact .bool _
  | .int k n, v, hv => by rw [hv.int_inv]; exact .int _ _
  | .str s, v, hv => by rw [hv.str_inv]; exact .str _
  | .lit u, v, hv => by cases hv; exact .lit _
  | .nilptr, v, hv => by cases hv; exact .nilptr
  | .nilslice, v, hv => by rw [hv.nilslice_inv]; exact .nilslice
theorem VRelL.forth {ρ ρ0 : RMap} {σ : Sig} (h : ∀ i r d y, σ i = some (r, d) → ρ0 i = some y → ∃ x, ρ r = some x ∧ y = x.from d) :
    ∀ {l : List AV} {vs : List Value}, VRelL ρ0 l vs → VRelL ρ (renL σ l) vs
  | [], vs, hv => by cases hv; simp only [renL]; exact .nil
  | a :: l, vs, hv => by
    cases hv with
    | cons _ v _ vs' h1 h2 => simp only [renL]; exact .cons _ _ _ _ (VRel.forth h h1) (VRelL.forth h h2)
end

theorem ren_cell {σ : Sig} (hσ : ∀ i, (σ i).isSome = true) : ∀ {c : AV}, c.cell = true → (c.ren σ).cell = true
  | .ptr r off, _ => by
    obtain ⟨p, hp⟩ := Option.isSome_iff_exists.1 (hσ r)
    simp [AV.ren, hp, AV.cell]
  | .slice r off m c, _ => by
    obtain ⟨p, hp⟩ := Option.isSome_iff_exists.1 (hσ r)
    simp [AV.ren, hp, AV.cell]
  | .sliceU r off m c, _ => by
    obtain ⟨p, hp⟩ := Option.isSome_iff_exists.1 (hσ r)
    simp [AV.ren, hp, AV.cell]
  | .func f l, _ => by simp [AV.ren, AV.cell]
  | .bound f k l, _ => by simp [AV.ren, AV.cell]
  | .iface t v, _ => by simp [AV.ren, AV.cell]
  | .yld r, _ => by
    obtain ⟨p, hp⟩ := Option.isSome_iff_exists.1 (hσ r)
    simp [AV.ren, hp, AV.cell]
  | .bool b, _ => rfl
  | .int k n, _ => rfl
  | .str s, _ => rfl
  | .nilptr, _ => rfl
  | .nilslice, _ => rfl
  | .lit u, h => by simpa [AV.ren] using h
  | .any, h => by simp [AV.cell] at h
  | .agg l, h => by simp [AV.cell] at h
  | .tuple l, h => by simp [AV.cell] at h

theorem ren_cell' {σ : Sig} : ∀ {c : AV}, (c.ren σ).cell = true → c.cell = true
  | .ptr r off, _ => rfl
  | .slice r off m c, _ => rfl
  | .sliceU r off m c, _ => rfl
  | .func f l, _ => rfl
  | .bound f k l, _ => rfl
  | .iface t v, _ => rfl
  | .yld r, _ => rfl
  | .bool b, _ => rfl
  | .int k n, _ => rfl
  | .str s, _ => rfl
  | .nilptr, _ => rfl
  | .nilslice, _ => rfl
  | .lit u, h => by simpa [AV.ren] using h
  | .any, h => by simp [AV.ren, AV.cell] at h
  | .agg l, h => by simp [AV.ren, AV.cell] at h
  | .tuple l, h => by simp [AV.ren, AV.cell] at h

/-- The numbers of a callee's rows: those that it is handed, then new ones from m on. -/
def sig (σ : List (Nat × Nat)) (m : Nat) : Sig := fun i => if i < σ.length then σ[i]? else some (m + (i - σ.length), 0)

theorem sig_some (σ : List (Nat × Nat)) (m i : Nat) : (sig σ m i).isSome = true := by
  unfold sig
  split
  · rename_i h; simp [h]
  · rfl

def renRow (σ : Sig) : Option ARow → Option ARow
  | some row => if row.own = true then some ⟨true, row.slack, renL σ row.cells⟩ else none
  | none => none

/-- The rows that were handed over as own ones, put back. -/
def mergeGo (σ' : Sig) (H0' : AHeap) : AHeap → List (Nat × Nat) → Nat → AHeap → AHeap
  | o :: os, p :: ps, i, H => mergeGo σ' H0' os ps (i + 1) (match o with
      | some row => if row.own = true then H.set p.1 (renRow σ' (rowAt H0' i)) else H
      | none => H)
  | _, _, _, H => H

def merge (H : AHeap) (σ : List (Nat × Nat)) (H0 H0' : AHeap) : AHeap :=
  mergeGo (sig σ H.length) H0' H0 σ 0 H ++ (H0'.drop H0.length).map (renRow (sig σ H.length))

/-- A row of the callee's, seen in the caller's heap. -/
def seen (H : AHeap) (σ : Sig) (n : Nat) : Option ARow → Nat × Nat → Prop
  | some row0, p => ∃ row, rowAt H p.1 = some row ∧ p.2 + row0.cells.length ≤ row.cells.length ∧ renL σ row0.cells = (row.cells.drop p.2).take row0.cells.length ∧ underL n row0.cells = true ∧
      (row0.own = true → row.own = true ∧ p.2 = 0 ∧ row0.cells.length = row.cells.length ∧ row0.slack = row.slack)
  | none, _ => True

def seenAll (H : AHeap) (σ : Sig) (n : Nat) : AHeap → List (Nat × Nat) → Prop
  | [], [] => True
  | o :: os, p :: ps => seen H σ n o p ∧ seenAll H σ n os ps
  | _, _ => False

def ownAt (H0 : AHeap) (i : Nat) : Bool := (rowAt H0 i).any (·.own)

/-- An own row is handed over once, and not under another number. -/
def onceOK (H0 : AHeap) (σ : List (Nat × Nat)) : Bool :=
  (List.range σ.length).all fun i => !ownAt H0 i || (List.range σ.length).all fun j => i == j || (σ.getD i (0, 0)).1 != (σ.getD j (0, 0)).1

def ownImg (H0 : AHeap) (σ : List (Nat × Nat)) : List Nat := ((List.range σ.length).filter (ownAt H0)).map fun i => (σ.getD i (0, 0)).1

theorem seenAll_get {H : AHeap} {σ : Sig} {n : Nat} : ∀ {H0 : AHeap} {ps : List (Nat × Nat)}, seenAll H σ n H0 ps → H0.length = ps.length ∧ ∀ i row0, rowAt H0 i = some row0 → ∃ p, ps[i]? = some p ∧ seen H σ n (some row0) p
  | [], [], _ => ⟨rfl, fun i row0 h => by simp [rowAt] at h⟩
  | [], _ :: _, h => h.elim
  | _ :: _, [], h => h.elim
  | o :: os, p :: ps, h => by
    obtain ⟨h1, h2⟩ := seenAll_get h.2
    refine ⟨by simp [h1], fun i row0 hi => ?_⟩
    cases i with
    | zero => simp [rowAt] at hi; subst hi; exact ⟨p, rfl, h.1⟩
    | succ i => exact h2 i row0 (by simpa [rowAt] using hi)

theorem mergeGo_length (σ' : Sig) (H0' : AHeap) : ∀ (os : AHeap) (ps : List (Nat × Nat)) (i : Nat) (H : AHeap), (mergeGo σ' H0' os ps i H).length = H.length
  | [], _, _, _ => by simp [mergeGo]
  | _ :: _, [], _, _ => by simp [mergeGo]
  | o :: os, p :: ps, i, H => by
    simp only [mergeGo]
    rw [mergeGo_length σ' H0' os ps]
    split
    · split <;> simp
    · rfl

/-- What stands in a row behind the merge. -/
theorem mergeGo_at (σ' : Sig) (H0' : AHeap) : ∀ (os : AHeap) (ps : List (Nat × Nat)) (i : Nat) (H : AHeap) (r : Nat), r < H.length →
    ((∃ (j : Nat) (p : Nat × Nat) (row0 : ARow), os[j]? = some (some row0) ∧ ps[j]? = some p ∧ row0.own = true ∧ p.1 = r ∧ rowAt (mergeGo σ' H0' os ps i H) r = renRow σ' (rowAt H0' (i + j))) ∨
     ((∀ (j : Nat) (p : Nat × Nat) (row0 : ARow), os[j]? = some (some row0) → ps[j]? = some p → row0.own = true → p.1 ≠ r) ∧ rowAt (mergeGo σ' H0' os ps i H) r = rowAt H r))
  | [], ps, i, H, r, _ => by
    refine .inr ⟨fun j p row0 h => by simp at h, by simp [mergeGo]⟩
  | o :: os, [], i, H, r, _ => by
    refine .inr ⟨fun j p row0 _ h => by simp at h, by simp [mergeGo]⟩
  | o :: os, p :: ps, i, H, r, hr => by
    simp only [mergeGo]
    generalize hH1 : (match o with
      | some row => if row.own = true then H.set p.1 (renRow σ' (rowAt H0' i)) else H
      | none => H) = H1
    have hl : H1.length = H.length := by
      rw [← hH1]
      split
      · split <;> simp
      · rfl
    rcases mergeGo_at σ' H0' os ps (i + 1) H1 r (by omega) with ⟨j, q, row0, h1, h2, h3, h4, h5⟩ | ⟨h1, h2⟩
    · exact .inl ⟨j + 1, q, row0, by simpa using h1, by simpa using h2, h3, h4, by rw [h5]; congr 2; omega⟩
    · by_cases hp : ∃ row, o = some row ∧ row.own = true ∧ p.1 = r
      · obtain ⟨row, rfl, ho, hp⟩ := hp
        refine .inl ⟨0, p, row, by simp, by simp, ho, hp, ?_⟩
        rw [h2, ← hH1]
        simp only [ho, if_true]
        rw [hp, rowAt_set (by omega), if_pos rfl, Nat.add_zero]
      · refine .inr ⟨fun j q row0 k1 k2 k3 k4 => ?_, ?_⟩
        · cases j with
          | zero => simp at k1 k2; subst k1; subst k2; exact hp ⟨row0, rfl, k3, k4⟩
          | succ j => exact h1 j q row0 (by simpa using k1) (by simpa using k2) k3 k4
        · rw [h2, ← hH1]
          split
          · rename_i row
            split
            · rename_i ho
              have hne : p.1 ≠ r := fun e => hp ⟨row, rfl, ho, e⟩
              rcases Nat.lt_or_ge p.1 H.length with hpl | hpl
              · rw [rowAt_set hpl, if_neg (Ne.symm hne)]
              · rw [List.set_eq_of_length_le hpl]
            · rfl
          · rfl
end Go.Vh

