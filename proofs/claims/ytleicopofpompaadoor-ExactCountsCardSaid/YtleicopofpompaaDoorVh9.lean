/- Regions, calls, code: a weakest precondition over the virtual heap. -/
import Derived.Test.YtleicopofpompaaDoorVh8
import Derived.Deep.LoopGhost
set_option linter.unusedSimpArgs false
set_option linter.unusedVariables false
namespace Go.Vh
open Go

def exOf (ρ : RMap) (H : AHeap) : Nat → Prop := fun b => ∃ r row x, rowAt H r = some row ∧ row.own = true ∧ ρ r = some x ∧ x.n ≠ 0 ∧ x.b = b

/-- The blocks of the own rows among W. -/
def exW (W : List Nat) (ρ : RMap) (H : AHeap) : Nat → Prop := fun b => ∃ r row x, r ∈ W ∧ rowAt H r = some row ∧ row.own = true ∧ ρ r = some x ∧ x.n ≠ 0 ∧ x.b = b
theorem exW_exOf {W ρ H b} (h : exW W ρ H b) : exOf ρ H b := let ⟨r, row, x, _, h⟩ := h; ⟨r, row, x, h⟩

def enters (P : Program) (f : FuncId) : Bool := (P.funcs[f]?).any fun fn => fn.body.isSome && fn.name != "runtime.NumGoroutine"

/-- What a call of a Go function leaves, said of the virtual heap. Of the rows that were there those alone are written that are 'own' and among W. γ: what is known of the package's variables. -/
structure ACallsG (P : Program) (γ : Nat → AV) (f : FuncId) (args : List AV) (H : AHeap) (W : List Nat) (R : AV → AHeap → Prop) : Prop where
  ent : enters P f = true
  calls : ∀ (ρ : RMap) (w : World) (vs : List Value), Sim w.heap.size (exOf ρ H) ρ H w → VRelL ρ args vs → (∀ g, VRel ρ (γ g) (.pointer (some ⟨g, 0, none⟩))) →
    Calls P f vs.toArray w fun e w' => ∃ v v' ρ' H', e = .returned v' ∧ R v H' ∧ ρ.le ρ' ∧ VRel ρ' v v' ∧ Sim w.heap.size (exOf ρ H) ρ' H' w' ∧ Frm w.heap.size (exW W ρ H) w w' ∧ H.length ≤ H'.length

abbrev noG : Nat → AV := fun _ => .any
abbrev ACalls (P : Program) (f : FuncId) (args : List AV) (H : AHeap) (W : List Nat) (R : AV → AHeap → Prop) : Prop := ACallsG P noG f args H W R

theorem ACallsG.mono {P γ f args H W R R'} (h : ACallsG P γ f args H W R) (hr : ∀ v H', R v H' → R' v H') : ACallsG P γ f args H W R' :=
  ⟨h.ent, fun ρ w vs hs hv hg => (h.calls ρ w vs hs hv hg).mono fun _ _ ⟨v, v', ρ', H', h1, h2, h3⟩ => ⟨v, v', ρ', H', h1, hr _ _ h2, h3⟩⟩
theorem ACalls.mono {P f args H W R R'} (h : ACalls P f args H W R) (hr : ∀ v H', R v H' → R' v H') : ACalls P f args H W R' := ACallsG.mono h hr
/-- What needs no variable of the package serves wherever. -/
theorem ACalls.g {P γ f args H W R} (h : ACalls P f args H W R) : ACallsG P γ f args H W R := ⟨h.ent, fun ρ w vs hs hv _ => h.calls ρ w vs hs hv fun _ => .any _⟩

/-- What a state says of the package's variables. -/
def gl (s : St) : Nat → AV := fun g => s (1048576 + g)

structure IStep where
  dst : Option Nat
  guard : Option (Nat × Bool)
  op : IOp
  deriving Inhabited

def putI (d : Option Nat) (s : St) (v : AV) : St := match d with | some d => upd s d v | none => s

def thenP (K : St → AHeap → Prop) (d : Option Nat) (s : St) (H : AHeap) : Option AV → Prop
  | some v => K (putI d s v) H
  | none => False
def thenE (K : St → AHeap → Prop) (d : Option Nat) (s : St) : Option (AV × AHeap) → Prop
  | some (v, H') => K (putI d s v) H'
  | none => False
def thenC (P : Program) (K : St → AHeap → Prop) (d : Option Nat) (s : St) (H : AHeap) (args : List AV) : AV → Prop
  | .func f caps => ∃ W, ACallsG P (gl s) f (args ++ caps) H W fun v H' => K (putI d s v) H'
  | .bound f first caps => ∃ W, ACallsG P (gl s) f (first ++ (args ++ caps)) H W fun v H' => K (putI d s v) H'
  | _ => False

def iop (P : Program) (d : Option Nat) (o : IOp) (K : St → AHeap → Prop) (s : St) (H : AHeap) : Prop :=
  match o with
  | .pure p => thenP K d s H (ipure p s)
  | .eff e => thenE K d s (ieff e s H)
  | .call f args => thenC P K d s H (args.map (evo s)) (evo s f)

def unv : AV := .lit undef

def guardP (K1 K0 : Prop) (want : Bool) : AV → Prop
  | .bool b => if b = want then K1 else K0
  | .lit (.tuple _) => K0
  | _ => False

def istep (P : Program) (st : IStep) (K : St → AHeap → Prop) (s : St) (H : AHeap) : Prop :=
  match st.guard with
  | none => iop P st.dst st.op K s H
  | some (t, want) => guardP (iop P st.dst st.op K s H) (K (putI st.dst s unv) H) want (s t)

def iops (P : Program) : List IStep → (St → AHeap → Prop) → St → AHeap → Prop
  | [], K, s, H => K s H
  | st :: l, K, s, H => istep P st (iops P l K) s H

def stepOf (P : Program) (N : Nat) (ops : Array Oper) (o : Oper) : Option IStep :=
  match opOf P o.op with
  | some op =>
    if o.dst.all (· < N) = true then
      match o.guard with
      | none => some ⟨o.dst, none, op⟩
      | some (j, want) => match (ops[j]?).bind (·.dst) with
        | some t => if t < N then some ⟨o.dst, some (t, want), op⟩ else none
        | none => none
    else none
  | none => none

section
variable {P : Program} {w0 : World} {ex : Nat → Prop} {N : Nat} {R0 : RMap}

/-- A virtual state and a state of the machine. -/
structure Rel (w0 : World) (ex : Nat → Prop) (N : Nat) (R0 ρ : RMap) (s : St) (H : AHeap) (a : Act) (w : World) : Prop where
  inv : Inv w0 ex ρ H w
  tmps : SRel ρ s a
  size : a.tmps.size = N ∧ N ≤ 1048576
  defers : a.defers = []
  base : R0.le ρ

theorem Rel.put {ρ ρ' : RMap} {s : St} {H H' : AHeap} {a : Act} {w w' : World} (h : Rel w0 ex N R0 ρ s H a w) (hl : ρ.le ρ') (hi : Inv w0 ex ρ' H' w') {d : Option Nat} (hd : d.all (· < N) = true) {v : AV} {v' : Value} (hv : VRel ρ' v v') :
    Rel w0 ex N R0 ρ' (putI d s v) H' (a.put d v') w' := by
  cases d with
  | none => exact ⟨hi, h.tmps.mono hl, h.size, h.defers, RMap.le_trans h.base hl⟩
  | some d =>
    refine ⟨hi, (h.tmps.mono hl).put (by rw [h.size.1]; simpa using hd) (by rw [h.size.1]; exact h.size.2) hv, ?_, h.defers, RMap.le_trans h.base hl⟩
    simp [Act.put, h.size.1, h.size.2]

/-- Where the ex is a row of H, a callee may write it too. -/
theorem exOf_sub {ρ : RMap} {H : AHeap} {w : World} (inv : Inv w0 ex ρ H w) : ∀ b, exOf ρ H b → w0.heap.size ≤ b ∨ ex b := fun b ⟨r, row, x, h1, h2, h3, h4, h5⟩ => by
  have := ((inv.sim.own r row x h1 h2 h3).2.2 h4).1
  rw [h5] at this; exact this

theorem Sim.weaken {B B' : Nat} {ex ex' : Nat → Prop} {ρ : RMap} {H : AHeap} {w : World} (h : Sim B ex ρ H w) (hx : ∀ b, (B ≤ b ∨ ex b) → (B' ≤ b ∨ ex' b)) : Sim B' ex' ρ H w :=
  ⟨h.dom, h.has, h.cells, fun r row x h1 h2 h3 => let ⟨a, b, c⟩ := h.own r row x h1 h2 h3; ⟨a, b, fun hn => ⟨hx _ (c hn).1, (c hn).2⟩⟩, h.dist, h.room⟩

/-- The call, in the caller's terms. -/
theorem Inv.call {ρ : RMap} {H : AHeap} {w : World} (inv : Inv w0 ex ρ H w) {f args W R vs} {γ : Nat → AV} (h : ACallsG P γ f args H W R) (hv : VRelL ρ args vs) (hg : ∀ g, VRel ρ (γ g) (.pointer (some ⟨g, 0, none⟩))) :
    Calls P f vs.toArray w fun e w' => ∃ v v' ρ' H', e = .returned v' ∧ R v H' ∧ ρ.le ρ' ∧ VRel ρ' v v' ∧ Inv w0 ex ρ' H' w' ∧ Frm w.heap.size (exW W ρ H) w w' := by
  have hsim : Sim w.heap.size (exOf ρ H) ρ H w := ⟨inv.sim.dom, inv.sim.has, inv.sim.cells, fun r row x h1 h2 h3 =>
    let ⟨a, b, c⟩ := inv.sim.own r row x h1 h2 h3; ⟨a, b, fun hn => ⟨.inr ⟨r, row, x, h1, h2, h3, hn, rfl⟩, (c hn).2⟩⟩, inv.sim.dist, inv.sim.room⟩
  refine (h.calls ρ w vs hsim hv hg).mono fun e w' ⟨v, v', ρ', H', h1, h2, h3, h4, h5, h6, h7⟩ => ⟨v, v', ρ', H', h1, h2, h3, h4, ⟨h5.weaken fun b hb => ?_, ?_⟩, h6⟩
  · rcases hb with hb | hb
    · exact .inl (Nat.le_trans inv.hle hb)
    · exact exOf_sub inv b hb
  · refine ⟨h6.os.trans inv.frm.os, h6.tape.trans inv.frm.tape, h6.output.trans inv.frm.output, Nat.le_trans inv.frm.size h6.size, fun k hk hne => ?_⟩
    have hk' : k < w.heap.size := Nat.lt_of_lt_of_le hk inv.hle
    have : ¬ exW W ρ H k := fun hx => by
      rcases exOf_sub inv k (exW_exOf hx) with h | h
      · omega
      · exact hne h
    exact (h6.block k hk' this).trans (inv.frm.block k hk hne)

theorem run_call {c : FuncId} {a : Act} {o : Oper} {f : Operand} {args : Array Operand} {tys : Array TypeId} {fs cs : Array Value} (ho : o.op = .call ⟨.value f, args, tys⟩) (hf : a.eval f = .func (.func c) fs cs) (he : enters P c = true) (w : World) :
    (execOp a.eval o).run P w = .ok (.enter c (fs ++ args.map a.eval ++ cs)) w := by
  unfold enters at he
  cases hq : P.funcs[c]? with
  | none => simp [hq] at he
  | some fn =>
    simp [hq] at he
    obtain ⟨h1, h2⟩ := he
    simp [execOp, ho, resolve, Deferred.ofValue, hf, invoke, callFunc, hq, h2]
    intro hb
    rw [hb] at h1
    simp at h1

/-- Which function is called, and with what. -/
def calleeOf (args : List AV) : AV → Option (FuncId × List AV)
  | .func f caps => some (f, args ++ caps)
  | .bound f first caps => some (f, first ++ (args ++ caps))
  | _ => none

theorem callee_rel {ρ : RMap} {fv : AV} {v : Value} (h : VRel ρ fv v) {args all : List AV} {c : FuncId} (hc : calleeOf args fv = some (c, all)) {A : Array Operand} {a : Act} (ha : VRelL ρ args (A.toList.map a.eval)) :
    ∃ fs cs vs, v = .func (.func c) fs cs ∧ VRelL ρ all vs ∧ vs.toArray = fs ++ A.map a.eval ++ cs := by
  unfold calleeOf at hc
  split at hc
  · simp only [Option.some.injEq, Prod.mk.injEq] at hc
    obtain ⟨rfl, rfl⟩ := hc
    obtain ⟨cs, rfl, hr⟩ := h.func_inv
    exact ⟨_, _, _, rfl, ha.append hr, by apply Array.ext'; simp⟩
  · simp only [Option.some.injEq, Prod.mk.injEq] at hc
    obtain ⟨rfl, rfl⟩ := hc
    obtain ⟨fs, cs, rfl, hk, hr⟩ := h.bound_inv
    exact ⟨_, _, _, rfl, hk.append (ha.append hr), by apply Array.ext'; simp⟩
  · cases hc

theorem thenC_spec {K : St → AHeap → Prop} {d : Option Nat} {s : St} {H : AHeap} {args : List AV} {fv : AV} (h : thenC P K d s H args fv) :
    ∃ c all W, calleeOf args fv = some (c, all) ∧ ACallsG P (gl s) c all H W (fun v H' => K (putI d s v) H') := by
  unfold thenC at h
  split at h
  · obtain ⟨W, h⟩ := h; exact ⟨_, _, W, rfl, h⟩
  · obtain ⟨W, h⟩ := h; exact ⟨_, _, W, rfl, h⟩
  · exact h.elim

theorem Rel.glob {ρ : RMap} {s : St} {H : AHeap} {a : Act} {w : World} (rel : Rel w0 ex N R0 ρ s H a w) (g : Nat) : VRel ρ (gl s g) (.pointer (some ⟨g, 0, none⟩)) := by
  have := rel.tmps (1048576 + g)
  rwa [tv_glob] at this

theorem opOf_call {op' : Op} {f : Opd} {args : List Opd} (hop : opOf P op' = some (.call f args)) : ∃ F A T, op' = .call ⟨.value F, A, T⟩ ∧ Opd.of F = some f ∧ opds A.toList = some args := by
  have base : ∀ op, (match pureOf P op with | some p => some (IOp.pure p) | none => match effOf P op with | some e => some (.eff e) | none => some (.pure .stuck)) = some (.call f args) → False := fun op hc => by
    split at hc
    · cases hc
    · split at hc <;> cases hc
  cases op'
  case call c =>
    obtain ⟨callee, A, T⟩ := c
    simp only [opOf] at hop
    split at hop
    · rename_i F
      split at hop
      · rename_i f' l hf hl
        simp only [Option.some.injEq, IOp.call.injEq] at hop
        obtain ⟨rfl, rfl⟩ := hop
        exact ⟨F, A, T, rfl, hf, hl⟩
      · cases hop
    · exact (base _ hop).elim
  case build => simp only [opOf, Option.map_eq_some_iff] at hop; obtain ⟨_, _, e⟩ := hop; cases e
  case buildSlice => simp only [opOf, Option.map_eq_some_iff] at hop; obtain ⟨_, _, e⟩ := hop; cases e
  all_goals
    simp only [opOf] at hop
    split at hop
    · cases hop
    · split at hop <;> cases hop

/-- One operation. -/
theorem iop_sound {ρ : RMap} {s : St} {H : AHeap} {a : Act} {w : World} (rel : Rel w0 ex N R0 ρ s H a w) {o : Oper} {op : IOp} (hop : opOf P o.op = some op) (hd : o.dst.all (· < N) = true) {K : St → AHeap → Prop}
    (h : iop P o.dst op K s H) {next : Act → World → Prop} {Q : Exit → Act → World → Prop} (hK : ∀ s' H' ρ' a' w', K s' H' → Rel w0 ex N R0 ρ' s' H' a' w' → next a' w') : o.wp P a w next Q := by
  unfold Oper.wp
  cases op with
  | pure p =>
    simp only [iop] at h
    cases hp : ipure p s with
    | none => rw [hp] at h; exact h.elim
    | some v =>
      rw [hp] at h
      obtain ⟨v', h1, h2⟩ := gives_of_op rel.tmps hop hp
      rw [h2 w]
      exact hK _ _ _ _ _ h (rel.put (RMap.le_refl _) rel.inv hd h1)
  | eff e =>
    simp only [iop] at h
    cases hp : ieff e s H with
    | none => rw [hp] at h; exact h.elim
    | some r =>
      obtain ⟨v, H'⟩ := r
      rw [hp] at h
      obtain ⟨v', w', ρ', h1, h2, h3, h4, _, _⟩ := does_of_op rel.inv rel.tmps hop hp
      rcases h1 with h1 | ⟨h1, rfl⟩
      · rw [h1]; exact hK _ _ _ _ _ h (rel.put h2 h4 hd h3)
      · rw [h1]; exact hK _ _ _ _ _ h (rel.put h2 h4 hd h3)
  | call f args =>
    simp only [iop] at h
    obtain ⟨dst, op', ty, pos, af, g⟩ := o
    simp only at hop hd h
    obtain ⟨F, A, T, ho, hF, hA⟩ := opOf_call hop
    have rf := evo_rel rel.tmps hF
    obtain ⟨c, all, W, hc, h⟩ := thenC_spec h
    obtain ⟨fs, cs, vs, hcs, hrel, hvs⟩ := callee_rel rf hc (opds_rel rel.tmps hA)
    rw [run_call (o := ⟨dst, op', ty, pos, af, g⟩) ho hcs h.ent w]
    have hcall := rel.inv.call h hrel rel.glob
    rw [hvs] at hcall
    simp only [Oper.upon]
    refine hcall.mono fun e w' ⟨v, v', ρ', H', h1, h2, h3, h4, h5, _⟩ => ?_
    subst h1
    exact hK _ _ _ _ _ h2 (rel.put h3 h5 hd h4)

theorem wanted_of {ρ : RMap} {s : St} {H : AHeap} {a : Act} {w : World} (rel : Rel w0 ex N R0 ρ s H a w) {ops : Array Oper} {o : Oper} {j t : Nat} {want : Bool} (hg : o.guard = some (j, want)) (hj : (ops[j]?).bind (·.dst) = some t) (ht : t < N) :
    (∀ b, s t = .bool b → Region.wanted o (yielded ops a.tmps) = (b == want)) ∧ (∀ vs, s t = .lit (.tuple vs) → Region.wanted o (yielded ops a.tmps) = false) := by
  have hr := rel.tmps t
  rw [tv_lt (by have := rel.size.2; omega)] at hr
  have hv : a.tmps[t]? = some (a.tmps.getD t undef) := by
    rw [Array.getD_eq_getD_getElem?, Array.getElem?_eq_getElem (by rw [rel.size.1]; exact ht)]; rfl
  refine ⟨fun b hb => ?_, fun vs hb => ?_⟩
  · rw [hb] at hr
    rw [hr.bool_inv] at hv
    simp [Region.wanted, hg, yielded, hj, hv]
  · rw [hb] at hr
    have hu : a.tmps.getD t undef = .tuple vs := by
      generalize a.tmps.getD t undef = u at hr
      cases hr; rfl
    rw [hu] at hv
    simp [Region.wanted, hg, yielded, hj, hv]

/-- One operation, guarded or not. -/
theorem istep_sound {ρ : RMap} {s : St} {H : AHeap} {a : Act} {w : World} (rel : Rel w0 ex N R0 ρ s H a w) {ops : Array Oper} {o : Oper} {st : IStep} (hst : stepOf P N ops o = some st) {K : St → AHeap → Prop}
    (h : istep P st K s H) {next : Act → World → Prop} {Q : Exit → Act → World → Prop} (hK : ∀ s' H' ρ' a' w', K s' H' → Rel w0 ex N R0 ρ' s' H' a' w' → next a' w') :
    if Region.wanted o (yielded ops a.tmps) then o.wp P a w next Q else next (a.put o.dst undef) w := by
  unfold stepOf at hst
  split at hst
  · rename_i op hop
    split at hst
    · rename_i hd
      split at hst
      · rename_i hg
        simp only [Option.some.injEq] at hst; subst hst
        have : Region.wanted o (yielded ops a.tmps) = true := by simp [Region.wanted, hg]
        rw [if_pos this]
        exact iop_sound rel hop hd h hK
      · rename_i j want hg
        split at hst
        · rename_i t hj
          split at hst
          · rename_i ht
            simp only [Option.some.injEq] at hst; subst hst
            obtain ⟨w1, w2⟩ := wanted_of rel hg hj ht
            simp only [istep] at h
            unfold guardP at h
            have skip : K (putI o.dst s unv) H → next (a.put o.dst undef) w := fun hk => hK _ _ _ _ _ hk (rel.put (RMap.le_refl _) rel.inv hd (.lit _))
            split at h
            · rename_i b hb
              rw [w1 b hb]
              split at h
              · rename_i e; subst e
                rw [if_pos (by simp)]
                exact iop_sound rel hop hd h hK
              · rename_i e
                rw [if_neg (by simpa using e)]
                exact skip h
            · rename_i vs hb
              rw [w2 vs hb]
              exact skip h
            · exact h.elim
          · cases hst
        · cases hst
    · cases hst
  · cases hst

/-- A region in the order of the text. -/
theorem iops_sound {ops : Array Oper} {Q : Exit → Act → World → Prop} {K : St → AHeap → Prop} (hK : ∀ s' H' ρ' a' w', K s' H' → Rel w0 ex N R0 ρ' s' H' a' w' → Q .normal a' w') :
    ∀ (l : List IStep) (k : Nat), (∀ j, (h : j < l.length) → ∃ o, ops[k + j]? = some o ∧ stepOf P N ops o = some l[j]) → ∀ (s : St) (H : AHeap) (ρ : RMap) (a : Act) (w : World), iops P l K s H → Rel w0 ex N R0 ρ s H a w →
      wpOps P ops Q (List.range' k l.length) a w
  | [], k, _, s, H, ρ, a, w, h, rel => hK _ _ _ _ _ h rel
  | st :: l, k, hl, s, H, ρ, a, w, h, rel => by
    obtain ⟨o, ho, hst⟩ := hl 0 (by simp)
    simp only [Nat.add_zero, List.getElem_cons_zero] at ho hst
    simp only [List.length_cons, List.range'_succ]
    have ih := fun s' H' ρ' a' w' h' rel' => iops_sound hK l (k + 1) (fun j hj => by
      obtain ⟨o', h1, h2⟩ := hl (j + 1) (by simp; omega)
      exact ⟨o', by rw [show k + 1 + j = k + (j + 1) by omega]; exact h1, by simpa using h2⟩) s' H' ρ' a' w' h' rel'
    have := istep_sound (Q := Q) rel hst h (next := wpOps P ops Q (List.range' (k + 1) l.length)) ih
    simp only [wpOps, ho]
    split
    · rename_i hw; rw [if_pos hw] at this; exact .inl this
    · rename_i hw; rw [if_neg hw] at this; exact this
end
end Go.Vh
