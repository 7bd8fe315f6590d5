/- A function's contract out of its body; rows that are no longer wanted. -/
import Derived.Test.YtleicopofpompaaDoorVh11
set_option linter.unusedSimpArgs false
set_option linter.unusedVariables false
namespace Go.Vh
open Go

inductive IRes where
  | tmp (t : Nat)
  | cell (t n : Nat) (agg : Bool)
  deriving Inhabited

def resOf (P : Program) : ResultVar → Option IRes
  | .tmp t => if t < 1048576 then some (.tmp t) else none
  | .cell a ty => if a < 1048576 then (match P.underlying ty, sizeA P ty with
    | some d, some n => some (.cell a n (aggD d))
    | _, _ => none) else none

def ares1 (s : St) (H : AHeap) : IRes → Option AV
  | .tmp t => some (s t)
  | .cell t n agg => match s t with
    | .ptr r off => if agg = true then (cellsAt H r off n).map .agg else (rowAt H r).bind fun row => row.cells[off]?
    | _ => none

def aresL (s : St) (H : AHeap) : List IRes → Option (List AV)
  | [] => some []
  | r :: l => (ares1 s H r).bind fun v => (aresL s H l).map fun vs => v :: vs

def ares (s : St) (H : AHeap) (l : List IRes) : Option AV :=
  match l with
  | [r] => ares1 s H r
  | l => (aresL s H l).map .tuple

def thenR (R : AV → AHeap → Prop) (H : AHeap) : Option AV → Prop
  | some v => R v H
  | none => False

def retPost (n0 : Nat) (rs : List IRes) (R : AV → AHeap → Prop) : AExit → St → AHeap → Prop
  | .exit _, _, _ => False
  | _, s, H => ∃ s' H', Weak n0 s H s' H' ∧ H'.length ≥ n0 ∧ thenR R H' (ares s' H' rs)

def s0G (γ : Nat → AV) (args : List AV) : St := fun t => match args[t]? with
  | some v => v
  | none => if t < 1048576 then unv else γ (t - 1048576)
abbrev s0 (args : List AV) : St := s0G noG args
theorem gl_s0 {γ : Nat → AV} {args : List AV} (h : args.length ≤ 1048576) : gl (s0G γ args) = γ := by
  funext g
  unfold gl s0G
  rw [List.getElem?_eq_none (by omega)]
  simp only
  rw [if_neg (by omega), Nat.add_sub_cancel_left]

/-- A result, read. -/
def readRes (tmps : Array Value) : ResultVar → Sem Value
  | .tmp t => pure (tmps.getD t undef)
  | .cell x t => do loadVar t (← asAddr (tmps.getD x undef))

theorem results_eq (fn : Func) (tmps : Array Value) : results fn tmps = (do
    let vs ← fn.results.mapM (readRes tmps)
    pure (if h : vs.size = 1 then vs[0] else .tuple vs)) := by
  unfold results
  congr 2

section
variable {P : Program} {w0 : World} {ex : Nat → Prop} {N n0 : Nat} {R0 : RMap}

theorem ares1_ok {ρ : RMap} {s : St} {H : AHeap} {a : Act} {w : World} (rel : Rel w0 ex N R0 ρ s H a w) {rv : ResultVar} {r : IRes} (hr : resOf P rv = some r) {v : AV} (h : ares1 s H r = some v) :
    ∃ v', VRel ρ v v' ∧ (readRes a.tmps rv).run P w = .ok v' w := by
  cases rv with
  | tmp t =>
    simp only [resOf] at hr
    split at hr
    · rename_i hlt
      simp only [Option.some.injEq] at hr; subst hr
      simp only [ares1, Option.some.injEq] at h; subst h
      have := rel.tmps t
      rw [tv_lt hlt] at this
      exact ⟨_, this, rfl⟩
    · cases hr
  | cell x ty =>
    simp only [resOf] at hr
    split at hr
    case isFalse => cases hr
    rename_i hlt
    split at hr
    · rename_i d n hd hn
      simp only [Option.some.injEq] at hr; subst hr
      simp only [ares1] at h
      have rt := rel.tmps x
      rw [tv_lt hlt] at rt
      split at h
      · rename_i r off hx
        rw [hx] at rt
        obtain ⟨y, hy, hv⟩ := rt.ptr_inv
        split at h
        · rename_i hagg
          simp only [Option.map_eq_some_iff] at h
          obtain ⟨l, hl, rfl⟩ := h
          obtain ⟨row, hr, hle, rfl⟩ := cellsAt_spec hl
          obtain ⟨vs, k1, k2, k3, k4⟩ := rel.inv.sim.read hr hy hle
          refine ⟨.agg vs.toArray, .agg _ _ (by simpa using k2), ?_⟩
          have hl := run_loadCells_list (P := P) w ⟨y.b, y.d + off, none⟩ vs k4
          rw [k1] at hl
          simp only [readRes, hv]
          simp [asAddr, loadVar, run_isAgg hd, hagg, run_size hn, hl]
        · rename_i hagg
          simp only [Option.bind_eq_some_iff] at h
          obtain ⟨row, hr, hcell⟩ := h
          obtain ⟨_, u, hu, hru⟩ := rel.inv.sim.cells r row y hr hy off v hcell
          refine ⟨u, hru, ?_⟩
          simp only [readRes, hv]
          simp [asAddr, loadVar, run_isAgg hd, hagg, run_load, hu]
      · cases h
    · cases hr

theorem aresL_ok {ρ : RMap} {s : St} {H : AHeap} {a : Act} {w : World} (rel : Rel w0 ex N R0 ρ s H a w) : ∀ {rvs : List ResultVar} {rs : List IRes}, rvs.mapM (resOf P) = some rs → ∀ {l : List AV}, aresL s H rs = some l →
    ∃ vs, VRelL ρ l vs ∧ (rvs.mapM (readRes a.tmps)).run P w = .ok vs w
  | [], rs, hr, l, h => by
    simp at hr; subst hr
    simp only [aresL, Option.some.injEq] at h; subst h
    exact ⟨[], .nil, by simp⟩
  | rv :: rvs, rs, hr, l, h => by
    simp only [List.mapM_cons, Option.pure_def, Option.bind_eq_bind, Option.bind_eq_some_iff] at hr
    obtain ⟨r, hr1, rs', hrs, e⟩ := hr
    simp only [Option.some.injEq] at e; subst e
    simp only [aresL, Option.bind_eq_some_iff, Option.map_eq_some_iff] at h
    obtain ⟨v, hv, vs, hvs, rfl⟩ := h
    obtain ⟨v', k1, k2⟩ := ares1_ok rel hr1 hv
    obtain ⟨vs', k3, k4⟩ := aresL_ok rel hrs hvs
    refine ⟨v' :: vs', .cons _ _ _ _ k1 k3, ?_⟩
    rw [List.mapM_cons, Sem.run_bind, k2]
    simp [k4]

theorem ares_ok {ρ : RMap} {s : St} {H : AHeap} {a : Act} {w : World} (rel : Rel w0 ex N R0 ρ s H a w) {fn : Func} {rs : List IRes} (hr : fn.results.toList.mapM (resOf P) = some rs) {v : AV} (h : ares s H rs = some v) :
    ∃ v', VRel ρ v v' ∧ (results fn a.tmps).run P w = .ok v' w := by
  have run : ∀ vs, (fn.results.toList.mapM (readRes a.tmps)).run P w = .ok vs w →
      (results fn a.tmps).run P w = .ok (if h : vs.toArray.size = 1 then vs.toArray[0] else .tuple vs.toArray) w := fun vs hvs => by
    rw [results_eq, Array.mapM_eq_mapM_toList, Sem.run_bind, Sem.run_map, hvs]
    rfl
  unfold ares at h
  split at h
  · rename_i r
    obtain ⟨vs, k1, k2⟩ := aresL_ok rel hr (l := [v]) (by simp [aresL, h])
    have := run vs k2
    cases k1
    rename_i u t hu ht
    cases ht
    exact ⟨u, hu, by rw [this]; simp⟩
  · rename_i hne
    simp only [Option.map_eq_some_iff] at h
    obtain ⟨l, hl, rfl⟩ := h
    obtain ⟨vs, k1, k2⟩ := aresL_ok rel hr hl
    have hlen : vs.length ≠ 1 := fun e => by
      have e1 := VRelL.length k1
      have : l.length = rs.length := by
        clear hne k1 k2 e e1 run hr
        induction rs generalizing l with
        | nil => simp [aresL] at hl; subst hl; rfl
        | cons r rs ih =>
          simp only [aresL, Option.bind_eq_some_iff, Option.map_eq_some_iff] at hl
          obtain ⟨_, _, _, h2, rfl⟩ := hl
          simp [ih _ h2]
      match rs, hne, this with
      | [r], hne, _ => exact hne r rfl
      | [], _, this => simp only [List.length_nil] at this; omega
      | _ :: _ :: _, _, this => simp only [List.length_cons] at this; omega
    refine ⟨.tuple vs.toArray, .tuple _ _ (by simpa using k1), ?_⟩
    rw [run vs k2, dif_neg (by simpa using hlen)]

/-- **A contract, out of the body.** -/
theorem ACallsG.intro {γ : Nat → AV} {f : FuncId} {fn : Func} {c : Code} {ir : IR} {rs : List IRes} {args : List AV} {H : AHeap} {R : AV → AHeap → Prop} (hf : P.funcs[f]? = some fn) (hb : fn.body = some c) (hent : enters P f = true) (hG : fn.ntmps ≤ 1048576)
    (hir : irOf P fn.ntmps c = some ir) (hrs : fn.results.toList.mapM (resOf P) = some rs) (hargs : args.length ≤ fn.ntmps) (h : iwp P H.length ir (retPost H.length rs R) (s0G γ args) H) : ACallsG P γ f args H (List.range H.length) R := by
  refine ⟨hent, fun ρ w vs hsim hv hg => ?_⟩
  have hlen := VRelL.length hv
  have hdom : ∀ r, H.length ≤ r → ρ r = none := hsim.dom
  refine calls_of_wp hf hb ?_
  have rel : Rel w (exOf ρ H) fn.ntmps ρ ρ (s0G γ args) H { tmps := vs.toArray ++ Array.replicate (fn.ntmps - vs.toArray.size) undef, defers := [] } w := by
    refine ⟨⟨hsim, Frm.refl⟩, fun t => ?_, ⟨by simp; omega, hG⟩, rfl, RMap.le_refl _⟩
    unfold s0G tv
    rcases Nat.lt_or_ge t args.length with ht | ht
    · obtain ⟨v, h1, h2⟩ := hv.get (i := t) (a := args[t]) (by simp [ht])
      have e1 : args[t]? = some args[t] := by simp [ht]
      have e2 : (vs.toArray ++ Array.replicate (fn.ntmps - vs.toArray.size) undef).getD t undef = v := by
        simp only [Array.getD_eq_getD_getElem?]
        rw [Array.getElem?_append_left (by simp; omega)]
        simp [h1]
      rw [e1, e2]
      simp only
      rw [if_pos (by omega)]
      exact h2
    · rw [List.getElem?_eq_none ht]
      simp only
      by_cases hG' : t < 1048576
      · rw [if_pos hG', if_pos hG']
        have e2 : (vs.toArray ++ Array.replicate (fn.ntmps - vs.toArray.size) undef).getD t undef = undef := by
          simp only [Array.getD_eq_getD_getElem?]
          rw [Array.getElem?_append_right (by simp; omega)]
          rw [Array.getElem?_replicate]
          split <;> rfl
        rw [e2]; exact .lit _
      · rw [if_neg hG', if_neg hG']
        exact hg _
  refine iwp_sound hdom c ir _ _ hir (fun e s' H' ρ' a' w' k r => ?_) (s0G γ args) H ρ _ w h rel
  have main : (∃ s2 H2, Weak H.length s' H' s2 H2 ∧ H2.length ≥ H.length ∧ thenR R H2 (ares s2 H2 rs)) → a'.defers = [] ∧ ∃ v, (results fn a'.tmps).run P w' = .ok v w' ∧ (∃ v1 v' ρ' H'', Ending.returned v = .returned v' ∧ R v1 H'' ∧ ρ.le ρ' ∧ VRel ρ' v1 v' ∧
      Sim w.heap.size (exOf ρ H) ρ' H'' w' ∧ Frm w.heap.size (exW (List.range H.length) ρ H) w w' ∧ H.length ≤ H''.length) := fun ⟨s2, H2, hw, hle, ht⟩ => by
    obtain ⟨ρ2, r2⟩ := hw _ _ _ _ _ _ _ hdom r
    refine ⟨r2.defers, ?_⟩
    cases hv2 : ares s2 H2 rs with
    | none => rw [hv2] at ht; exact ht.elim
    | some v1 =>
      rw [hv2] at ht
      obtain ⟨v', k1, k2⟩ := ares_ok r2 hrs hv2
      refine ⟨v', k2, v1, v', ρ2, H2, rfl, ht, r2.base, k1, r2.inv.sim, ?_, hle⟩
      refine ⟨r2.inv.frm.os, r2.inv.frm.tape, r2.inv.frm.output, r2.inv.frm.size, fun k hk hne => r2.inv.frm.block k hk fun hx => hne ?_⟩
      obtain ⟨q, row, x, h1, h2⟩ := hx
      exact ⟨q, row, x, by simpa using rowAt_lt h1, h1, h2⟩
  cases e with
  | normal => exact main k
  | ret => exact main k
  | exit id => exact k.elim
end
end Go.Vh
