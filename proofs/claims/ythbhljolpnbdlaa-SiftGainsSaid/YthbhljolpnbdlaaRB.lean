/- Ranges over functions: the statement, its rounds, functions that hold it. -/
import Derived.Test.YthbhljolpnbdlaaRA
set_option linter.unusedSimpArgs false
set_option linter.unusedVariables false
namespace Go.Vh
open Go

/-- What a call of an iterator leaves. -/
structure ACallsY (P : Program) (γ : Nat → AV) (f : FuncId) (args : List AV) (H : AHeap) (y : YEnv) (R : AV → AHeap → Prop) : Prop where
  ent : enters P f = true
  calls : ∀ (ρ : RMap) (w : World) (vs : List Value), Sim w.heap.size (exOf ρ H) ρ H w → VRelL ρ args vs → (∀ g, VRel ρ (γ g) (.pointer (some ⟨g, 0, none⟩))) → YOK P y w (exOf ρ H) ρ →
    Calls P f vs.toArray w fun e w' => ∃ v v' ρ' H', e = .returned v' ∧ R v H' ∧ ρ.le ρ' ∧ VRel ρ' v v' ∧ Sim w.heap.size (exOf ρ H) ρ' H' w' ∧ Frm w.heap.size (exOf ρ H) w w' ∧ H.length ≤ H'.length

theorem s0G_rel {γ : Nat → AV} {args : List AV} {ρ : RMap} {vs : List Value} {N : Nat} (hG : N ≤ 1048576) (hargs : args.length ≤ N) (hv : VRelL ρ args vs) (hg : ∀ g, VRel ρ (γ g) (.pointer (some ⟨g, 0, none⟩))) :
    SRel ρ (s0G γ args) { tmps := vs.toArray ++ Array.replicate (N - vs.toArray.size) undef, defers := [] } := by
  have hlen := VRelL.length hv
  intro t
  unfold s0G tv
  rcases Nat.lt_or_ge t args.length with ht | ht
  · obtain ⟨v, h1, h2⟩ := hv.get (i := t) (a := args[t]) (by simp [ht])
    have e1 : args[t]? = some args[t] := by simp [ht]
    have e2 : (vs.toArray ++ Array.replicate (N - vs.toArray.size) undef).getD t undef = v := by
      simp only [Array.getD_eq_getD_getElem?]
      rw [Array.getElem?_append_left (by simp; omega)]
      simp [h1]
    rw [e1, e2]
    simp only
    rw [if_pos (by omega)]
    exact h2
  · rw [List.getElem?_eq_none ht]
    simp only
    by_cases hG' : t < 1048576
    · rw [if_pos hG', if_pos hG']
      have e2 : (vs.toArray ++ Array.replicate (N - vs.toArray.size) undef).getD t undef = undef := by
        simp only [Array.getD_eq_getD_getElem?]
        rw [Array.getElem?_append_right (by simp; omega)]
        rw [Array.getElem?_replicate]
        split <;> rfl
      rw [e2]; exact .lit _
    · rw [if_neg hG', if_neg hG']
      exact hg _

section
variable {P : Program}

/-- An iterator's contract, out of its body. -/
theorem ACallsY.body {γ : Nat → AV} {f : FuncId} {fn : Func} {ir : IR} {rs : List IRes} {args : List AV} {H : AHeap} {y : YEnv} {R : AV → AHeap → Prop} (hf : P.funcs[f]? = some fn) (hent : enters P f = true)
    (hir : fn.body.bind (irOf P fn.ntmps) = some ir) (hrs : fn.results.toList.mapM (resOf P) = some rs) {N : Nat} (hN : fn.ntmps = N) (hargs : args.length ≤ N) {n0 : Nat} (hn : H.length = n0) (h : iwpY P y n0 ir (retPost n0 rs R) (s0G γ args) H) (hG : N ≤ 1048576 := by decide) :
    ACallsY P γ f args H y R := by
  obtain ⟨c, hb, hi⟩ := Option.bind_eq_some_iff.1 hir
  subst hN; subst hn
  refine ⟨hent, fun ρ w vs hsim hv hg hy => ?_⟩
  have hdom : ∀ r, H.length ≤ r → ρ r = none := hsim.dom
  refine (callsIn_wide (n := 0)).1 (callsIn_of_wp hf hb trivial ?_)
  have rel : Rel w (exOf ρ H) fn.ntmps ρ ρ (s0G γ args) H { tmps := vs.toArray ++ Array.replicate (fn.ntmps - vs.toArray.size) undef, defers := [] } w :=
    ⟨⟨hsim, Frm.refl⟩, s0G_rel hG hargs hv hg, ⟨by have := VRelL.length hv; simp; omega, hG⟩, rfl, RMap.le_refl _⟩
  refine sndY_all (D := []) (ro := none) (y := y) _ c (Nat.lt_succ_self _) w (exOf ρ H) ρ H.length (.inr hy) hdom ir _ _ hi (fun e s' H' ρ' a' w' k r => ?_) (s0G γ args) H ρ _ w h rel
  have main : (∃ s2 H2, Weak H.length s' H' s2 H2 ∧ H2.length ≥ H.length ∧ thenR R H2 (ares s2 H2 rs)) → (withD [] a').defers = [] ∧ ∃ v, (results fn (withD [] a').tmps).run P w' = .ok v w' ∧ (∃ v1 v' ρ' H'', Ending.returned v = .returned v' ∧ R v1 H'' ∧ ρ.le ρ' ∧ VRel ρ' v1 v' ∧
      Sim w.heap.size (exOf ρ H) ρ' H'' w' ∧ Frm w.heap.size (exOf ρ H) w w' ∧ H.length ≤ H''.length) := fun ⟨s2, H2, hw, hle, ht⟩ => by
    obtain ⟨ρ2, r2⟩ := hw _ _ _ _ _ _ _ hdom r
    refine ⟨rfl, ?_⟩
    cases hv2 : ares s2 H2 rs with
    | none => rw [hv2] at ht; exact ht.elim
    | some v1 =>
      rw [hv2] at ht
      obtain ⟨v', k1, k2⟩ := ares_ok r2 hrs hv2
      exact ⟨v', k2, v1, v', ρ2, H2, rfl, ht, r2.base, k1, r2.inv.sim, r2.inv.frm, hle⟩
  cases e with
  | normal => exact main k
  | ret => exact main k
  | exit id => exact k.elim

/-- No loop over the letters of a string. -/
def IR.noStr : IR → Bool
  | .strLoop .. => false
  | .seq a b => a.noStr && b.noStr
  | .cond _ a b => a.noStr && b.noStr
  | .block _ a => a.noStr
  | .loop a => a.noStr
  | _ => true

theorem iopY_of {K K' : St → AHeap → Prop} (hk : ∀ s H, K s H → K' s H) {d : Option Nat} {o : IOp} {s : St} {H : AHeap} (h : iop P d o K s H) : iopY P noY d o K' s H := by
  cases o with
  | pure p =>
    simp only [iop] at h
    simp only [iopY]
    cases hp : ipure p s with
    | none => rw [hp] at h; exact h.elim
    | some v => rw [hp] at h; exact hk _ _ h
  | eff e =>
    simp only [iop] at h
    simp only [iopY]
    cases hp : ieff e s H with
    | none => rw [hp] at h; exact h.elim
    | some v => rw [hp] at h; obtain ⟨v, H'⟩ := v; exact hk _ _ h
  | call f args =>
    simp only [iop] at h
    simp only [iopY]
    unfold thenC at h
    unfold yieldC
    generalize evo s f = fv at h
    cases fv <;> first | exact h.elim | (obtain ⟨W, h⟩ := h; exact ⟨W, h.mono fun v H' k => hk _ _ k⟩)

theorem guard_mono {A A' B B' : Prop} (ha : A → A') (hb : B → B') {want : Bool} {v : AV} (h : guardP A B want v) : guardP A' B' want v := by
  cases v
  case bool b =>
    by_cases e : b = want
    · simp only [guardP, e, if_true] at h ⊢; exact ha h
    · simp only [guardP, e, if_false] at h ⊢; exact hb h
  case lit u => cases u <;> first | exact h.elim | exact hb h
  all_goals exact h.elim

theorem iopsY_of {K K' : St → AHeap → Prop} (hk : ∀ s H, K s H → K' s H) : ∀ (l : List IStep) (s : St) (H : AHeap), iops P l K s H → iopsY P noY l K' s H
  | [], s, H, h => hk _ _ h
  | ⟨d, none, o⟩ :: l, s, H, h => iopY_of (fun s H => iopsY_of hk l s H) (show iop P d o (iops P l K) s H from h)
  | ⟨d, some (t, want), o⟩ :: l, s, H, h => guard_mono (iopY_of fun s H => iopsY_of hk l s H) (fun k => iopsY_of hk l _ _ k) (show guardP (iop P d o (iops P l K) s H) (iops P l K (putI d s unv) H) want (s t) from h)

theorem iopD_monoV {K K' : St → AHeap → Prop} (hk : ∀ s H, K s H → K' s H) {H0 : AHeap} {m : Nat} {d : Option Nat} {o : IOp} {s : St} {H : AHeap} (h : iopD P H0 m d o K s H) : iopD P H0 m d o K' s H := by
  cases o with
  | pure p => simp only [iopD] at h ⊢; cases hp : ipure p s with
    | none => rw [hp] at h; exact h.elim
    | some v => rw [hp] at h; exact hk _ _ h
  | eff e =>
    simp only [iopD] at h ⊢
    split at h
    · cases hp : ieff e s H0 with
      | none => rw [hp] at h; exact h.elim
      | some v => rw [hp] at h; obtain ⟨v, H'⟩ := v; exact hk _ _ h
    · cases hp : ieff e s H with
      | none => rw [hp] at h; exact h.elim
      | some v => rw [hp] at h; obtain ⟨v, H'⟩ := v; exact hk _ _ h
  | call f args =>
    simp only [iopD] at h ⊢
    split at h
    · unfold thenC0 at h ⊢
      split at h
      · exact h.mono fun v H' k => hk _ _ k
      · exact h.mono fun v H' k => hk _ _ k
      · exact h.elim
    · unfold thenC at h ⊢
      split at h
      · obtain ⟨W, h⟩ := h; exact ⟨W, h.mono fun v H' k => hk _ _ k⟩
      · obtain ⟨W, h⟩ := h; exact ⟨W, h.mono fun v H' k => hk _ _ k⟩
      · exact h.elim
theorem istepD_monoV {K K' : St → AHeap → Prop} (hk : ∀ s H, K s H → K' s H) {H0 : AHeap} : ∀ {x : DStep} {s : St} {H : AHeap}, istepD P H0 x K s H → istepD P H0 x K' s H
  | ⟨⟨d, none, o⟩, i, m⟩, s, H, h => iopD_monoV hk (show iopD P H0 m d o K s H from h)
  | ⟨⟨d, some (t, want), o⟩, i, m⟩, s, H, h => guard_mono (iopD_monoV hk) (hk _ _) (show guardP (iopD P H0 m d o K s H) (K (putI d s unv) H) want (s t) from h)
theorem iopsD_mono {K K' : St → AHeap → Prop} (hk : ∀ s H, K s H → K' s H) {H0 : AHeap} : ∀ (l : List DStep) (s : St) (H : AHeap), iopsD P H0 l K s H → iopsD P H0 l K' s H
  | [], s, H, h => hk _ _ h
  | x :: l, s, H, h => istepD_monoV (fun s H k => iopsD_mono hk l s H k) h


theorem iopsT_mono {K K' : St → AHeap → Prop} (hk : ∀ s H, K s H → K' s H) {H0 : AHeap} : ∀ (T : DTree) (s : St) (H : AHeap), iopsT P H0 T K s H → iopsT P H0 T K' s H
  | .done, s, H, h => hk _ _ h
  | .none, s, H, h => h
  | .soft x t, s, H, h => istepD_monoV (fun s H k => iopsT_mono hk t s H k) (show istepD P H0 x (iopsT P H0 t K) s H from h)
  | .alt x t .none, s, H, h => istepD_monoV (fun s H k => iopsT_mono hk t s H k) (show istepD P H0 x (iopsT P H0 t K) s H from h)
  | .alt x t .done, s, H, h => ⟨istepD_monoV (fun s H k => iopsT_mono hk t s H k) h.1, iopsT_mono hk .done s H h.2⟩
  | .alt x t (.soft x' t'), s, H, h => ⟨istepD_monoV (fun s H k => iopsT_mono hk t s H k) h.1, iopsT_mono hk (.soft x' t') s H h.2⟩
  | .alt x t (.alt x' t' r'), s, H, h => ⟨istepD_monoV (fun s H k => iopsT_mono hk t s H k) h.1, iopsT_mono hk (.alt x' t' r') s H h.2⟩

/-- The plain walk, for a walk without yields; what is asked at the end may grow. -/
theorem iwpY_of {n0 : Nat} : ∀ (ir : IR), ir.noStr = true → ∀ (Q Q' : AExit → St → AHeap → Prop), (∀ e s H, Q e s H → Q' e s H) → ∀ (s : St) (H : AHeap), iwp P n0 ir Q s H → iwpY P noY n0 ir Q' s H := by
  intro ir
  induction ir with
  | skip => intro _ Q Q' hq s H h; exact hq _ _ _ h
  | exit id => intro _ Q Q' hq s H h; exact hq _ _ _ h
  | ret => intro _ Q Q' hq s H h; exact hq _ _ _ h
  | ops l => intro _ Q Q' hq s H h; exact iopsY_of (fun s H => hq .normal s H) l s H h
  | dops l => intro _ Q Q' hq s H h; exact iopsD_mono (fun s H => hq .normal s H) l s H h
  | tops t => intro _ Q Q' hq s H h; exact iopsT_mono (fun s H => hq .normal s H) t s H h
  | seq a b iha ihb =>
    intro hn Q Q' hq s H h
    simp only [IR.noStr, Bool.and_eq_true] at hn
    refine iha hn.1 _ _ (fun e s H k => ?_) s H h
    cases e with
    | normal => exact ihb hn.2 Q Q' hq s H k
    | exit i => exact hq _ _ _ k
    | ret => exact hq _ _ _ k
  | cond c a b iha ihb =>
    intro hn Q Q' hq s H h
    simp only [IR.noStr, Bool.and_eq_true] at hn
    simp only [iwp] at h
    simp only [iwpY]
    generalize evo s c = v at h
    cases v
    case bool b =>
      cases b
      · simp only [condPost, Bool.false_eq_true, if_false] at h ⊢; exact ihb hn.2 Q Q' hq s H h
      · simp only [condPost, if_true] at h ⊢; exact iha hn.1 Q Q' hq s H h
    all_goals exact h.elim
  | block id a iha =>
    intro hn Q Q' hq s H h
    refine iha hn _ _ (fun e s H k => ?_) s H h
    cases e with
    | normal => exact hq _ _ _ k
    | ret => exact hq _ _ _ k
    | exit i =>
      simp only [blockPost] at k ⊢
      split at k
      · rename_i e; rw [if_pos e]; exact hq _ _ _ k
      · rename_i e; rw [if_neg e]; exact hq _ _ _ k
  | loop a iha =>
    intro hn Q Q' hq s H h
    obtain ⟨I, n, hI, hr⟩ := h
    refine ⟨I, n, hI, fun n s H hI => iha hn _ _ (fun e s H k => ?_) s H (hr n s H hI)⟩
    cases e with
    | normal => exact k
    | exit i => exact hq _ _ _ k
    | ret => exact hq _ _ _ k
  | strLoop A X it id d B rest ih => intro hn; cases hn
end
end Go.Vh


/- The statement 'for .. := range f', and functions that hold it. -/
namespace Go.Vh
open Go

def setPs (s : St) (ps : List Nat) (args : List AV) : St := (ps.zip args).foldl (fun s p => upd s p.1 p.2) s
theorem setPs_cons {s : St} {p : Nat} {ps : List Nat} {v : AV} {args : List AV} : setPs s (p :: ps) (v :: args) = setPs (upd s p v) ps args := rfl

def onlyN (K : AHeap → Prop) : AExit → St → AHeap → Prop
  | .normal, _, H => K H
  | _, _, _ => False
/-- What a round brings about. -/
def roundY (P : Program) (ps : List Nat) (A B : IR) (s : St) : List AV → AHeap → (AHeap → Prop) → Prop := fun args H K => args.length = ps.length ∧ iwp P H.length (.seq A B) (onlyN K) (setPs s ps args) H

def loopRow : Option ARow := some ⟨false, false, []⟩

section
variable {P : Program} {w0 : World} {ex : Nat → Prop} {N n0 : Nat} {R0 : RMap}

/-- The parameters of a round are set. -/
theorem setPs_rel {ρ : RMap} : ∀ (ps : List Nat) (args : List AV) (vs : List Value) (s : St) (tm : Array Value), ps.all (· < N) = true → tm.size = N → N ≤ 1048576 → VRelL ρ args vs → SRel ρ s { tmps := tm, defers := [] } →
    SRel ρ (setPs s ps args) { tmps := (ps.zip vs).foldl (fun tmps p => tmps.setIfInBounds p.1 p.2) tm, defers := [] } ∧ ((ps.zip vs).foldl (fun tmps p => tmps.setIfInBounds p.1 p.2) tm).size = N
  | [], args, vs, s, tm, _, hs, _, _, h => ⟨h, hs⟩
  | p :: ps, [], vs, s, tm, _, hs, _, hv, h => by cases hv; exact ⟨h, hs⟩
  | p :: ps, v :: args, vs, s, tm, hp, hs, hN, hv, h => by
    cases hv with
    | cons _ v' _ vs' h1 h2 =>
    simp only [List.all_cons, Bool.and_eq_true, decide_eq_true_eq] at hp
    have hput := h.put (d := p) (by simpa [hs] using hp.1) (by simpa [hs] using hN) h1
    simp only [List.zip_cons_cons, List.foldl_cons, setPs_cons]
    exact setPs_rel ps args vs' (upd s p v) (tm.setIfInBounds p v') hp.2 (by simp [hs]) hN h2 hput

theorem putObj_frame {w : World} {l : Nat} {o : Obj} : (w.putObj l o).os = w.os ∧ (w.putObj l o).tape = w.tape ∧ (w.putObj l o).output = w.output := ⟨rfl, rfl, rfl⟩

theorem exOf_cells {B : Nat} {ex : Nat → Prop} {ρ : RMap} {H : AHeap} {w : World} (hs : Sim B ex ρ H w) {b : Nat} (h : exOf ρ H b) : ∃ C e fr, w.heap[b]? = some (.cells C e fr) := by
  obtain ⟨r, row, x, h1, h2, h3, h4, rfl⟩ := h
  obtain ⟨_, ⟨C, e, fr, hc, _⟩, _⟩ := (hs.own r row x h1 h2 h3).2.2 h4
  exact ⟨C, e, fr, hc⟩

theorem Sim.putObj {B : Nat} {ex : Nat → Prop} {ρ : RMap} {H : AHeap} {w : World} (hs : Sim B ex ρ H w) {l : Nat} {o : Obj} (hl : ∀ C e fr, w.heap[l]? ≠ some (.cells C e fr)) : Sim B ex ρ H (w.putObj l o) :=
  hs.heap_same fun k C e fr hk => World.putObj_heap_other fun e0 => hl C e fr (by rw [← e0]; exact hk)

/-- A round, from its walk. -/
theorem round_ok {ρc : RMap} {s : St} {tm : Array Value} {ps : Array Tmp} {A B : IR} {assign body : Code} {fn : FuncId} {l dl : Nat} (hA : irOf P N assign = some A) (hB : irOf P N body = some B) (nA : A.noStr = true) (nB : B.noStr = true)
    (hps : ps.toList.all (· < N) = true) (hsz : tm.size = N) (hN : N ≤ 1048576) (hrel : SRel ρc s { tmps := tm, defers := [] })
    {args : List AV} {H : AHeap} {K : AHeap → Prop} {ρ : RMap} {vs : List Value} {w : World} (hY : roundY P ps.toList A B s args H K) (hle : ρc.le ρ) (hs : Sim w.heap.size (exOf ρ H) ρ H w) (hv : VRelL ρ args vs)
    (hrec : w.heap[l]? = some (.loop { state := .ready, pending := none, fn := fn, tmps := tm, params := ps, assign := assign, body := body, defers := dl })) :
    vs.length = ps.size ∧ RoundIn Fence.wide 0 P l fn ((ps.zip vs.toArray).foldl (fun tmps (t, a) => tmps.setIfInBounds t a) tm) assign body w
        fun e w' => e = .returned (.bool true) ∧ ∃ ρ' H', K H' ∧ ρ.le ρ' ∧ Sim w.heap.size (exOf ρ H) ρ' H' w' ∧ Frm w.heap.size (exOf ρ H) w w' := by
  obtain ⟨hlen, hwalk⟩ := hY
  have hvl := VRelL.length hv
  refine ⟨by rw [← hvl, hlen]; simp, ?_⟩
  have etm : (ps.zip vs.toArray).foldl (fun tmps (t, a) => tmps.setIfInBounds t a) tm = (ps.toList.zip vs).foldl (fun tmps p => tmps.setIfInBounds p.1 p.2) tm := by
    rw [← Array.foldl_toList]
    simp
  rw [etm]
  obtain ⟨hr1, hsz1⟩ := setPs_rel ps.toList args vs s tm hps hsz hN hv (fun t => (hrel t).mono hle)
  have hdom : ∀ r, H.length ≤ r → ρ r = none := hs.dom
  have rel : Rel w (exOf ρ H) N ρ ρ (setPs s ps.toList args) H { tmps := (ps.toList.zip vs).foldl (fun tmps p => tmps.setIfInBounds p.1 p.2) tm, defers := [] } w :=
    ⟨⟨hs, Frm.refl⟩, hr1, ⟨hsz1, hN⟩, rfl, RMap.le_refl _⟩
  have hltl := (Array.getElem?_eq_some_iff.1 hrec).1
  have hnl : ¬ exOf ρ H l := fun hx => by
    obtain ⟨C, e, fr, hc⟩ := exOf_cells hs hx
    rw [hrec] at hc; cases hc
  refine roundIn_of_wpIn (F := Fence.wide) trivial ?_
  have hA' := iwpY_of A nA _ _ (fun e s H k => k) _ _ (show iwp P H.length A (seqPost (iwp P H.length B (onlyN K)) (onlyN K)) _ _ from hwalk)
  refine sndY_all (D := []) (ro := some l) (y := noY) _ assign (Nat.lt_succ_self _) w (exOf ρ H) ρ H.length (.inl ⟨(), rfl, rfl⟩) hdom A _ _ hA (fun e s1 H1 ρ1 a1 w1 k r => ?_) _ H ρ _ w hA' rel
  cases e with
  | exit i => exact k.elim
  | ret => exact k.elim
  | normal =>
  have k : iwp P H.length B (onlyN K) s1 H1 := k
  have hrec1 : w1.heap[l]? = _ := (r.inv.frm.block l hltl hnl).trans hrec
  have hlt1 := (Array.getElem?_eq_some_iff.1 hrec1).1
  refine ⟨_, run_beginRound hrec1 rfl, ?_⟩
  generalize hw2 : w1.putObj l (.loop { state := .busy, pending := none, fn := fn, tmps := tm, params := ps, assign := assign, body := body, defers := dl }) = w2
  have hother : ∀ k : Nat, k ≠ l → w2.heap[k]? = w1.heap[k]? := fun k hk => by rw [← hw2]; exact World.putObj_heap_other hk
  have hsame : w2.heap[l]? = some (.loop { state := .busy, pending := none, fn := fn, tmps := tm, params := ps, assign := assign, body := body, defers := dl }) := by rw [← hw2]; exact World.putObj_heap_same hlt1
  have hsize2 : w2.heap.size = w1.heap.size := by rw [← hw2]; simp
  have hs2 : Sim w.heap.size (exOf ρ H) ρ1 H1 w2 := by
    rw [← hw2]; exact r.inv.sim.putObj fun C e fr h => by rw [hrec1] at h; cases h
  have hsub : ∀ b, exOf ρ1 H1 b → w.heap.size ≤ b ∨ exOf ρ H b := exOf_sub r.inv
  have rel2 : Rel w2 (exOf ρ1 H1) N ρ ρ1 s1 H1 a1 w2 := by
    refine ⟨⟨⟨hs2.dom, hs2.has, hs2.cells, fun q row x h1 h2 h3 => ?_, hs2.dist, hs2.room⟩, Frm.refl⟩, r.tmps, r.size, r.defers, r.base⟩
    obtain ⟨p1, p2, p3⟩ := hs2.own q row x h1 h2 h3
    exact ⟨p1, p2, fun hn => ⟨.inr ⟨q, row, x, h1, h2, h3, hn, rfl⟩, (p3 hn).2⟩⟩
  have hB' := iwpY_of B nB _ _ (fun e s H k => k) _ _ k
  refine sndY_all (D := []) (ro := some l) (y := noY) _ body (Nat.lt_succ_self _) w2 (exOf ρ1 H1) ρ H.length (.inl ⟨(), rfl, rfl⟩) hdom B _ _ hB (fun e s3 H3 ρ3 a3 w3 k3 r3 => ?_) s1 H1 ρ1 a1 w2 hB' rel2
  cases e with
  | exit i => exact k3.elim
  | ret => exact k3.elim
  | normal =>
  have hnl1 : ¬ exOf ρ1 H1 l := fun hx => by
    obtain ⟨C, e, fr, hc⟩ := exOf_cells hs2 hx
    rw [hsame] at hc; cases hc
  have hrec3 := (r3.inv.frm.block l (by rw [hsize2]; exact hlt1) hnl1).trans hsame
  refine ⟨_, _, run_endRound none hrec3, rfl, ρ3, H3, k3, r3.base, ?_, ?_⟩
  · refine Sim.putObj (r3.inv.sim.weaken fun b hb => ?_) fun C e fr h => by rw [hrec3] at h; cases h
    rcases hb with hb | hb
    · exact .inl (by rw [hsize2] at hb; exact Nat.le_trans r.inv.frm.size hb)
    · exact hsub b hb
  · have f1 := r.inv.frm
    have f3 := r3.inv.frm
    have q2 := @putObj_frame w1 l (.loop { state := .busy, pending := none, fn := fn, tmps := tm, params := ps, assign := assign, body := body, defers := dl })
    rw [hw2] at q2
    refine ⟨f3.os.trans (q2.1.trans f1.os), f3.tape.trans (q2.2.1.trans f1.tape), f3.output.trans (q2.2.2.trans f1.output), by simp only [World.putObj_size]; exact Nat.le_trans f1.size (hsize2 ▸ f3.size), fun k hk hne => ?_⟩
    by_cases hkl : k = l
    · subst hkl
      rw [World.putObj_heap_same (Array.getElem?_eq_some_iff.1 hrec3).1, hrec]
      rfl
    · rw [World.putObj_heap_other hkl, f3.block k (by rw [hsize2]; exact Nat.lt_of_lt_of_le hk f1.size) (fun hx => ?_), hother k hkl, f1.block k hk hne]
      rcases hsub k hx with h | h
      · omega
      · exact hne h

def mark (r : Nat) : Deferred := { target := .collected r, args := #[] }

theorem run_range_call {f : FuncId} {fs cs : Array Value} {g : Operand} {a : Act} {l : Nat} (hf : a.eval g = .func (.func f) fs cs) (he : enters P f = true) (w : World) :
    ∃ d, (resolve a.eval (rangeCall g l) 0).run P w = .ok d w ∧ (invoke d.target d.args).run P w = .ok (.enter f (fs ++ #[.func (.yield l) #[] #[]] ++ cs)) w := by
  unfold enters at he
  cases hq : P.funcs[f]? with
  | none => simp [hq] at he
  | some fn =>
    simp [hq] at he
    obtain ⟨h1, h2⟩ := he
    refine ⟨{ target := .fn (.func f) cs, args := fs ++ #[.func (.yield l) #[] #[]] }, ?_, ?_⟩
    · have e : a.eval (.const (.func (.yield l) #[] #[])) = .func (.yield l) #[] #[] := rfl
      simp [resolve, rangeCall, Deferred.ofValue, hf, e]
    · simp [invoke, callFunc, hq, h2]
      intro hb
      rw [hb] at h1
      simp at h1

/-- The statement. -/
theorem rangeF_sound {D : List Deferred} {ρ : RMap} {s : St} {H : AHeap} {a : Act} {w : World} (rel : Rel w0 ex N R0 ρ s H a w) {g : Operand} {g' : Opd} {ps : Array Tmp} {assign body : Code} {A B : IR} (hg : Opd.of g = some g')
    (hA : irOf P N assign = some A) (hB : irOf P N body = some B) (nA : A.noStr = true) (nB : B.noStr = true) (hps : ps.toList.all (· < N) = true) {f : FuncId} {caps : List AV} (hfv : evo s g' = .func f caps) {R : AHeap → Prop}
    (hY : ACallsY P (gl s) f (.yld H.length :: caps) (H ++ [loopRow]) ⟨H.length, roundY P ps.toList A B s⟩ fun _ H' => R H') {Qc : Exit → Act → World → Prop}
    (hQ : ∀ H' ρ' w' r, R H' → Rel w0 ex N R0 ρ' s H' a w' → Frm w.heap.size (exOf ρ H) w w' → w.heap.size ≤ r → r < w'.heap.size → w'.heap[r]? = some (.deferred (some [])) → ¬ exOf ρ' H' r → Qc .normal (withD (mark r :: D) a) w') :
    (Code.rangeFunc g ps assign body).wpIn Fence.wide 0 P Qc (withD D a) w := by
  refine wpIn_rangeFunc fun fn _ => ?_
  have rg := evo_rel rel.tmps hg
  rw [hfv] at rg
  obtain ⟨cs, hval, hcs⟩ := rg.func_inv
  have hval' : (withD D a).eval g = .func (.func f) #[] cs := by rw [withD_eval]; exact hval
  generalize hw1 : ((w.alloc (.deferred (some []))).alloc (.loop { state := .ready, pending := none, fn := fn, tmps := (withD D a).tmps, params := ps, assign := assign, body := body, defers := w.heap.size })) = w1
  obtain ⟨d, hd1, hd2⟩ := run_range_call (l := w.heap.size + 1) hval' hY.ent w1
  refine ⟨w.heap.size + 1, [mark w.heap.size], w1, d, w1, f, _, w1, ?_, hd1, fun _ _ => trivial, hd2, fun h => by simp [Fence.wide] at h, ?_⟩
  · rw [← hw1]; exact run_enterLoop_outer fn (withD D a).tmps ps assign body
  have hsz1 : w1.heap.size = w.heap.size + 2 := by rw [← hw1]; simp
  have hold : ∀ k : Nat, k < w.heap.size → w1.heap[k]? = w.heap[k]? := fun k hk => by
    rw [← hw1, RowKit.Below.heap_alloc _ _ _ (by simp; omega), RowKit.Below.heap_alloc _ _ _ hk]
  have hmark : w1.heap[w.heap.size]? = some (.deferred (some [])) := by
    rw [← hw1, RowKit.Below.heap_alloc _ _ _ (by simp)]; exact World.alloc_heap_new _ _
  have hloop : w1.heap[w.heap.size + 1]? = some (.loop { state := .ready, pending := none, fn := fn, tmps := a.tmps, params := ps, assign := assign, body := body, defers := w.heap.size }) := by
    rw [← hw1]
    have := World.alloc_heap_new (w.alloc (.deferred (some []))) (.loop { state := .ready, pending := none, fn := fn, tmps := (withD D a).tmps, params := ps, assign := assign, body := body, defers := w.heap.size })
    rw [World.size_alloc] at this
    exact this
  have hframe : w1.os = w.os ∧ w1.tape = w.tape ∧ w1.output = w.output := by rw [← hw1]; exact ⟨rfl, rfl, rfl⟩
  have hex1 : ∀ b, exOf (ρ.put H.length ⟨w.heap.size + 1, 0, 0⟩) (H ++ [loopRow]) b → exOf ρ H b := by
    rintro b ⟨r, row, x, h1, h2, h3, h4, h5⟩
    rw [rowAt_append] at h1
    by_cases e : r = H.length
    · rw [if_pos e] at h1; simp only [loopRow, Option.some.injEq] at h1; subst h1; cases h2
    · rw [if_neg e] at h1
      simp only [RMap.put, if_neg e] at h3
      exact ⟨r, row, x, h1, h2, h3, h4, h5⟩
  have hn := rel.inv.sim.dom _ (Nat.le_refl H.length)
  have hle1 : ρ.le (ρ.put H.length ⟨w.heap.size + 1, 0, 0⟩) := RMap.le_put hn
  have hex2 : ∀ b, exOf ρ H b → exOf (ρ.put H.length ⟨w.heap.size + 1, 0, 0⟩) (H ++ [loopRow]) b := by
    rintro b ⟨r, row, x, h1, h2, h3, h4, h5⟩
    have hr := rowAt_lt h1
    exact ⟨r, row, x, by rw [rowAt_append, if_neg (by omega)]; exact h1, h2, hle1 _ _ h3, h4, h5⟩
  have hcells : ∀ b, exOf ρ H b → b < w.heap.size := fun b hb => by
    obtain ⟨C, e, fr, hc⟩ := exOf_cells rel.inv.sim hb
    exact (Array.getElem?_eq_some_iff.1 hc).1
  have hs0 : Sim w.heap.size (exOf ρ H) ρ H w1 := rel.inv.simIn.heap_same fun b C e fr hb => hold b (Array.getElem?_eq_some_iff.1 hb).1
  have hs1' := hs0.push ⟨false, false, []⟩ ⟨w.heap.size + 1, 0, 0⟩ (fun i c hc => by simp at hc) (fun h => by cases h) (fun r' row' x' _ _ h => by simp at h) (fun h => (h rfl).elim)
  have hs1 : Sim w1.heap.size (exOf (ρ.put H.length ⟨w.heap.size + 1, 0, 0⟩) (H ++ [loopRow])) (ρ.put H.length ⟨w.heap.size + 1, 0, 0⟩) (H ++ [loopRow]) w1 := by
    refine ⟨hs1'.dom, hs1'.has, hs1'.cells, fun q row x h1 h2 h3 => ?_, hs1'.dist, hs1'.room⟩
    obtain ⟨p1, p2, p3⟩ := hs1'.own q row x h1 h2 h3
    exact ⟨p1, p2, fun hn => ⟨.inr ⟨q, row, x, h1, h2, h3, hn, rfl⟩, (p3 hn).2⟩⟩
  have hv1 : VRelL (ρ.put H.length ⟨w.heap.size + 1, 0, 0⟩) (.yld H.length :: caps) (.func (.yield (w.heap.size + 1)) #[] #[] :: cs.toList) := .cons _ _ _ _ (by
    have q := VRel.yld (ρ := ρ.put H.length ⟨w.heap.size + 1, 0, 0⟩) H.length ⟨w.heap.size + 1, 0, 0⟩ RMap.put_same
    exact q) (hcs.mono hle1)
  have hnl : ¬ exOf (ρ.put H.length ⟨w.heap.size + 1, 0, 0⟩) (H ++ [loopRow]) (w.heap.size + 1) := fun hx => by have := hcells _ (hex1 _ hx); omega
  have hnm : ¬ exOf (ρ.put H.length ⟨w.heap.size + 1, 0, 0⟩) (H ++ [loopRow]) w.heap.size := fun hx => by have := hcells _ (hex1 _ hx); omega
  have hyok : YOK P ⟨H.length, roundY P ps.toList A B s⟩ w1 (exOf (ρ.put H.length ⟨w.heap.size + 1, 0, 0⟩) (H ++ [loopRow])) (ρ.put H.length ⟨w.heap.size + 1, 0, 0⟩) := by
    refine ⟨⟨w.heap.size + 1, 0, 0⟩, _, RMap.put_same, hloop, hnl, fun args H2 K ρ2 vs w2 hy hle2 hs2 hv2 hw2 => ?_⟩
    exact round_ok hA hB nA nB hps rel.size.1 rel.size.2 (ρc := ρ) (s := s) (fun t => by have := rel.tmps t; exact this) hy (RMap.le_trans hle1 hle2) hs2 hv2 hw2
  have hcalls := hY.calls _ w1 _ hs1 hv1 (fun g => (rel.glob g).mono hle1) hyok
  have eargs : (Value.func (.yield (w.heap.size + 1)) #[] #[] :: cs.toList).toArray = #[] ++ #[.func (.yield (w.heap.size + 1)) #[] #[]] ++ cs := by apply Array.ext'; simp
  rw [eargs] at hcalls
  refine (callsIn_wide (n := 0 - 1)).2 (hcalls.mono fun e w3 ⟨v, v', ρ3, H3, he, hR, hle3, hvr, hs3, hf3, hlen3⟩ => ?_)
  subst he
  have hrec3 := (hf3.block (w.heap.size + 1) (by omega) hnl).trans hloop
  have hmark3 := (hf3.block w.heap.size (by omega) hnm).trans hmark
  refine ⟨none, _, run_endLoop hrec3 (by simp), ?_⟩
  generalize hw4 : w3.putObj (w.heap.size + 1) _ = w4
  have hsz4 : w4.heap.size = w3.heap.size := by rw [← hw4]; simp
  have hlt3 := (Array.getElem?_eq_some_iff.1 hmark3).1
  have hmark4 : w4.heap[w.heap.size]? = some (.deferred (some [])) := by
    rw [← hw4, World.putObj_heap_other (by omega)]; exact hmark3
  have hs4 : Sim w.heap.size (exOf ρ H) ρ3 H3 w4 := by
    rw [← hw4]
    refine (hs3.weaken fun b hb => ?_).putObj fun C e fr h => by rw [hrec3] at h; cases h
    rcases hb with hb | hb
    · exact .inl (by omega)
    · exact .inr (hex1 b hb)
  have hf4 : Frm w.heap.size (exOf ρ H) w w4 := by
    have q : w4.os = w3.os ∧ w4.tape = w3.tape ∧ w4.output = w3.output := by rw [← hw4]; exact ⟨rfl, rfl, rfl⟩
    refine ⟨q.1.trans (hf3.os.trans hframe.1), q.2.1.trans (hf3.tape.trans hframe.2.1), q.2.2.trans (hf3.output.trans hframe.2.2), by have := hf3.size; omega, fun k hk hne => ?_⟩
    rw [← hw4, World.putObj_heap_other (by omega), hf3.block k (by omega) (fun hx => hne (hex1 k hx)), hold k hk]
  have hinv := rel.inv.after hs4 hf4
  refine hQ H3 ρ3 w4 w.heap.size hR ⟨hinv, fun t => (rel.tmps t).mono (RMap.le_trans hle1 hle3), rel.size, rel.defers, RMap.le_trans rel.base (RMap.le_trans hle1 hle3)⟩ hf4 (Nat.le_refl _) (by omega) hmark4 fun hx => ?_
  obtain ⟨C, e, fr, hc⟩ := exOf_cells hs4 hx
  rw [hmark4] at hc; cases hc
end
end Go.Vh

