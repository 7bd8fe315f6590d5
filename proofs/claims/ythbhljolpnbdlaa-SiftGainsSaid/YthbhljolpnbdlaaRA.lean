/- A walk within a fence that lets all in: of a round of a range over a function, and of a function that calls its yield. -/
import Derived.Test.YthbhljolpnbdlaaV6
import Derived.RangeFuncRecord
import Derived.Sort.LoopGhostIn
set_option linter.unusedSimpArgs false
set_option linter.unusedVariables false
namespace Go.Vh
open Go

def wideR (ro : Option Nat) : Fence := { fn := fun _ => True, depth := none, alive := false, round := ro }
theorem callsIn_wideR {ro : Option Nat} {n : Nat} {P : Program} {f : FuncId} {args : Array Value} {w : World} {R : Ending → World → Prop} (h : Calls P f args w R) : CallsIn (wideR ro) n P f args w R :=
  callsIn_wide.2 h
theorem rowsIn_wideR {ro : Option Nat} {n : Nat} {P : Program} {row : String} {args : Array Value} {w : World} {R : Value → World → Prop} (h : Rows P row args w R) : RowsIn (wideR ro) n P row args w R := fun c cs _ =>
  let ⟨v, w', r, s⟩ := h c cs; ⟨v, w', r, stepsIn_wide.2 s⟩

def withD (D : List Deferred) (a : Act) : Act := { a with defers := D }
theorem withD_eval {D : List Deferred} {a : Act} : (withD D a).eval = a.eval := by funext x; cases x <;> rfl
theorem withD_put {D : List Deferred} {a : Act} {d : Option Nat} {v : Value} : (withD D a).put d v = withD D (a.put d v) := by cases d <;> rfl
theorem put_defers {a : Act} {d : Option Nat} {v : Value} : (a.put d v).defers = a.defers := by cases d <;> rfl

/-- One operation, from the plain walk. -/
theorem op_conv {P : Program} {o : Oper} {a : Act} {w : World} {D : List Deferred} {ro : Option Nat} {n0 next : Act → World → Prop} {Q Qc : Exit → Act → World → Prop} (h : o.wp P a w n0 Q) (hp : ∀ c a w, ¬ Q (.panic c) a w) (ho : ∀ a w, ¬ Q .outgrown a w)
    (h0 : ∀ a w, n0 a w → a.defers = []) (hn : ∀ a' w', n0 a' w' → next (withD D a') w') : o.wpIn (wideR ro) 0 P (withD D a) w next Qc := by
  have hl : ¬ LetsOut Q := fun ⟨a, w, h⟩ => ho a w h
  have hdef : ∀ c, o.op ≠ .defer c := by
    intro c hc
    unfold Oper.wp at h
    simp only [execOp, hc, Sem.run_bind] at h
    cases hr : (resolve a.eval c o.type).run P w with
    | ok d w' =>
      simp only [hr, Result.andThen, Sem.run_pure, Oper.upon] at h
      have := h0 _ _ h
      rw [put_defers] at this
      cases this
    | halt x w' =>
      simp only [hr, Result.andThen] at h
      cases x <;> first | exact h.elim | exact hp _ _ _ h
  refine ⟨fun _ _ => trivial, ?_⟩
  rw [Oper.semAt_eq _ _ _ hdef, withD_eval]
  unfold Oper.wp at h
  generalize (execOp a.eval o).run P w = r at h ⊢
  cases r with
  | halt x w' => cases x <;> first | exact h.elim | exact (hp _ _ _ h).elim
  | ok v w' =>
    cases v
    case value v =>
      show next ((withD D a).put o.dst v) w'
      rw [withD_put]; exact hn _ _ h
    case skip =>
      show next ((withD D a).put o.dst undef) w'
      rw [withD_put]; exact hn _ _ h
    case defer d =>
      have := h0 _ _ h
      rw [put_defers] at this
      cases this
    case enter f args =>
      refine ⟨fun h => by simp [wideR] at h, callsIn_wideR (Calls.mono h fun e w'' he => ?_)⟩
      cases e with
      | returned v => show next ((withD D a).put o.dst v) w''; rw [withD_put]; exact hn _ _ he
      | panicked c => exact (hp _ _ _ he).elim
      | outgrown => exact (hl he).elim
    case row row args =>
      refine ⟨fun h => by simp [wideR] at h, rowsIn_wideR (Rows.mono h fun v w'' he => ?_)⟩
      show next ((withD D a).put o.dst v) w''; rw [withD_put]; exact hn _ _ he
    all_goals exact h.elim

/-- A region in some order, from the plain walk. -/
def Q0 (D : List Deferred) (Qc : Exit → Act → World → Prop) : Exit → Act → World → Prop := fun e a w => e = .normal ∧ a.defers = [] ∧ Qc .normal (withD D a) w

theorem noDef {P : Program} {ops : Array Oper} {D : List Deferred} {Qc : Exit → Act → World → Prop} : ∀ (l : List Nat) (a : Act) (w : World), wpOps P ops (Q0 D Qc) l a w → a.defers = []
  | [], a, w, h => h.2.1
  | i :: l, a, w, h => by
    have ih := noDef (P := P) (ops := ops) (D := D) (Qc := Qc) l
    simp only [wpOps] at h
    split at h
    · exact ih a w h
    rename_i o ho
    split at h
    · rcases h with h | ⟨_, _, _, h⟩
      case inr => cases h.1
      unfold Oper.wp at h
      generalize (execOp a.eval o).run P w = r at h
      cases r with
      | halt x w' => cases x <;> first | exact h.elim | (cases h.1)
      | ok v w' =>
        cases v
        case value v => have := ih _ _ h; rwa [put_defers] at this
        case skip => have := ih _ _ h; rwa [put_defers] at this
        case defer d => have := ih _ _ h; rw [put_defers] at this; cases this
        case enter f args =>
          obtain ⟨e, w'', fr, he, _⟩ := h []
          cases e with
          | returned v => have := ih _ _ he; rwa [put_defers] at this
          | panicked c => cases he.1
          | outgrown => obtain ⟨_, _, he⟩ := he; cases he.1
        case row row args =>
          obtain ⟨v, w'', he, _⟩ := h default []
          have := ih _ _ he; rwa [put_defers] at this
        all_goals exact h.elim
    · have := ih _ _ h; rwa [put_defers] at this

theorem ops_conv {P : Program} {ops : Array Oper} {D : List Deferred} {ro : Option Nat} {Qc : Exit → Act → World → Prop} : ∀ (l : List Nat) (a : Act) (w : World), wpOps P ops (Q0 D Qc) l a w → wpOpsIn (wideR ro) 0 P ops Qc l (withD D a) w
  | [], a, w, h => h.2.2
  | i :: l, a, w, h => by
    have ih := ops_conv (P := P) (ops := ops) (D := D) (ro := ro) (Qc := Qc) l
    simp only [wpOps] at h
    simp only [wpOpsIn]
    cases ho : ops[i]? with
    | none => rw [ho] at h; exact ih a w h
    | some o =>
      rw [ho] at h
      simp only at h ⊢
      have ht : (withD D a).tmps = a.tmps := rfl
      rw [ht]
      split
      · rename_i hw
        rw [if_pos hw] at h
        rcases h with h | ⟨_, _, _, h⟩
        case inr => cases h.1
        exact op_conv h (fun c a w h => by cases h.1) (fun a w h => by cases h.1) (fun a w h => noDef _ _ _ h) ih
      · rename_i hw
        rw [if_neg hw] at h
        refine ⟨fun _ _ => trivial, ?_⟩
        rw [withD_put]; exact ih _ _ h
end Go.Vh


/- A walk that may call the yield of a range over a function. -/
namespace Go.Vh
open Go

/-- The row that stands for the loop, and what a round brings about. -/
structure YEnv where
  ry : Nat
  Y : List AV → AHeap → (AHeap → Prop) → Prop

def noY : YEnv := ⟨0, fun _ _ _ => False⟩

def yieldC (P : Program) (y : YEnv) (K : St → AHeap → Prop) (d : Option Nat) (s : St) (H : AHeap) (args : List AV) : AV → Prop
  | .yld r => r = y.ry ∧ y.Y args H fun H' => K (putI d s (.bool true)) H'
  | fv => thenC P K d s H args fv

def iopY (P : Program) (y : YEnv) (d : Option Nat) (o : IOp) (K : St → AHeap → Prop) (s : St) (H : AHeap) : Prop :=
  match o with
  | .pure p => thenP K d s H (ipure p s)
  | .eff e => thenE K d s (ieff e s H)
  | .call f args => yieldC P y K d s H (args.map (evo s)) (evo s f)

def istepY (P : Program) (y : YEnv) (st : IStep) (K : St → AHeap → Prop) (s : St) (H : AHeap) : Prop :=
  match st.guard with
  | none => iopY P y st.dst st.op K s H
  | some (t, want) => guardP (iopY P y st.dst st.op K s H) (K (putI st.dst s unv) H) want (s t)

def iopsY (P : Program) (y : YEnv) : List IStep → (St → AHeap → Prop) → St → AHeap → Prop
  | [], K, s, H => K s H
  | st :: l, K, s, H => istepY P y st (iopsY P y l K) s H

def iwpY (P : Program) (y : YEnv) (n0 : Nat) : IR → (AExit → St → AHeap → Prop) → St → AHeap → Prop
  | .skip, Q, s, H => Q .normal s H
  | .ops l, Q, s, H => iopsY P y l (Q .normal) s H
  | .dops l, Q, s, H => iopsD P H l (Q .normal) s H
  | .tops t, Q, s, H => iopsT P H t (Q .normal) s H
  | .seq a b, Q, s, H => iwpY P y n0 a (seqPost (iwpY P y n0 b Q) Q) s H
  | .cond c a b, Q, s, H => condPost (iwpY P y n0 a Q s H) (iwpY P y n0 b Q s H) (evo s c)
  | .block id a, Q, s, H => iwpY P y n0 a (blockPost id Q) s H
  | .loop a, Q, s, H => ∃ (I : Nat → St → AHeap → Prop) (n : Nat), I n s H ∧ ∀ n s H, I n s H → iwpY P y n0 a (seqPost (loopPost n0 I n) Q) s H
  | .exit id, Q, s, H => Q (.exit id) s H
  | .ret, Q, s, H => Q .ret s H
  | .strLoop _ _ _ _ _ _ _, _, _, _ => False

/-- What a yield is worth where an activation began at w0. -/
def YOK (P : Program) (y : YEnv) (w0 : World) (ex : Nat → Prop) (R0 : RMap) : Prop :=
  ∃ (x : Loc) (rec : Loop), R0 y.ry = some x ∧ w0.heap[x.b]? = some (.loop rec) ∧ ¬ ex x.b ∧
    ∀ (args : List AV) (H : AHeap) (K : AHeap → Prop) (ρ : RMap) (vs : List Value) (w : World), y.Y args H K → R0.le ρ → Sim w.heap.size (exOf ρ H) ρ H w → VRelL ρ args vs → w.heap[x.b]? = some (.loop rec) →
      vs.length = rec.params.size ∧ RoundIn Fence.wide 0 P x.b rec.fn ((rec.params.zip vs.toArray).foldl (fun tmps (t, a) => tmps.setIfInBounds t a) rec.tmps) rec.assign rec.body w
        fun e w' => e = .returned (.bool true) ∧ ∃ ρ' H', K H' ∧ ρ.le ρ' ∧ Sim w.heap.size (exOf ρ H) ρ' H' w' ∧ Frm w.heap.size (exOf ρ H) w w'

section
variable {P : Program} {y : YEnv} {w0 : World} {ex : Nat → Prop} {N n0 : Nat} {R0 : RMap} {D : List Deferred} {ro : Option Nat}

theorem Inv.simIn {ρ : RMap} {H : AHeap} {w : World} (inv : Inv w0 ex ρ H w) : Sim w.heap.size (exOf ρ H) ρ H w := ⟨inv.sim.dom, inv.sim.has, inv.sim.cells, fun r row x h1 h2 h3 =>
    let ⟨a, b, c⟩ := inv.sim.own r row x h1 h2 h3; ⟨a, b, fun hn => ⟨.inr ⟨r, row, x, h1, h2, h3, hn, rfl⟩, (c hn).2⟩⟩, inv.sim.dist, inv.sim.room⟩

theorem Inv.after {ρ ρ' : RMap} {H H' : AHeap} {w w' : World} (inv : Inv w0 ex ρ H w) (hs : Sim w.heap.size (exOf ρ H) ρ' H' w') (hf : Frm w.heap.size (exOf ρ H) w w') : Inv w0 ex ρ' H' w' := by
  refine ⟨hs.weaken fun b hb => ?_, ?_⟩
  · rcases hb with hb | hb
    · exact .inl (Nat.le_trans inv.hle hb)
    · exact exOf_sub inv b hb
  · refine ⟨hf.os.trans inv.frm.os, hf.tape.trans inv.frm.tape, hf.output.trans inv.frm.output, Nat.le_trans inv.frm.size hf.size, fun k hk hne => ?_⟩
    have hk' : k < w.heap.size := Nat.lt_of_lt_of_le hk inv.hle
    have : ¬ exOf ρ H k := fun hx => by
      rcases exOf_sub inv k hx with h | h
      · omega
      · exact hne h
    exact (hf.block k hk' this).trans (inv.frm.block k hk hne)

theorem yieldC_cases {K : St → AHeap → Prop} {d : Option Nat} {s : St} {H : AHeap} {args : List AV} {fv : AV} (h : yieldC P y K d s H args fv) :
    (fv = .yld y.ry ∧ y.Y args H fun H' => K (putI d s (.bool true)) H') ∨ thenC P K d s H args fv := by
  unfold yieldC at h
  split at h
  · obtain ⟨rfl, h⟩ := h; exact .inl ⟨rfl, h⟩
  · exact .inr h

/-- One operation. -/
theorem iopY_sound (hy : (∃ p, y = noY ∧ p = ()) ∨ YOK P y w0 ex R0) {ρ : RMap} {s : St} {H : AHeap} {a : Act} {w : World} (rel : Rel w0 ex N R0 ρ s H a w) {o : Oper} {op : IOp} (hop : opOf P o.op = some op) (hd : o.dst.all (· < N) = true) {K : St → AHeap → Prop}
    (h : iopY P y o.dst op K s H) {next : Act → World → Prop} {Q : Exit → Act → World → Prop} (hK : ∀ s' H' ρ' a' w', K s' H' → Rel w0 ex N R0 ρ' s' H' a' w' → next (withD D a') w') : o.wpIn (wideR ro) 0 P (withD D a) w next Q := by
  have plain : iop P o.dst op K s H → o.wpIn (wideR ro) 0 P (withD D a) w next Q := fun h =>
    op_conv (n0 := fun a' w' => ∃ s' H' ρ', K s' H' ∧ Rel w0 ex N R0 ρ' s' H' a' w') (Q := fun _ _ _ => False) (iop_sound rel hop hd h fun s' H' ρ' a' w' k r => ⟨s', H', ρ', k, r⟩) (fun _ _ _ h => h) (fun _ _ h => h) (fun a w ⟨_, _, _, _, r⟩ => r.defers) fun a' w' ⟨_, _, _, k, r⟩ => hK _ _ _ _ _ k r
  cases op with
  | pure p => exact plain h
  | eff e => exact plain h
  | call f args =>
    rcases yieldC_cases h with ⟨hfv, h⟩ | h
    case inr => exact plain h
    rcases hy with ⟨_, rfl, _⟩ | ⟨x, rec, hx, hrec, hnex, hround⟩
    · exact h.elim
    obtain ⟨dst, op', ty, pos, af, g⟩ := o
    simp only at hop hd h
    obtain ⟨F, A, T, ho, hF, hA⟩ := opOf_call hop
    have rf := evo_rel rel.tmps hF
    rw [hfv] at rf
    obtain ⟨x', hx', hval⟩ : ∃ x', ρ y.ry = some x' ∧ a.eval F = .func (.yield x'.b) #[] #[] := by
      generalize a.eval F = u at rf
      cases rf with
      | yld _ x' h => exact ⟨x', h, rfl⟩
    have hxx := rel.base _ _ hx
    rw [hx'] at hxx
    cases hxx
    have hlt := (Array.getElem?_eq_some_iff.1 hrec).1
    have hw : w.heap[x.b]? = some (.loop rec) := (rel.inv.frm.block x.b hlt hnex).trans hrec
    have hargs := opds_rel rel.tmps hA
    obtain ⟨hsz, hR⟩ := hround _ _ _ ρ _ w h rel.base rel.inv.simIn hargs hw
    have hsz' : A.size = rec.params.size := by simpa using hsz
    have e1 : (A.toList.map a.eval).toArray = A.map a.eval := by apply Array.ext'; simp
    rw [e1] at hR
    have hrun : (execOp a.eval ⟨dst, op', ty, pos, af, g⟩).run P w = .ok (.round x.b rec.fn ((rec.params.zip (A.map a.eval)).foldl (fun tmps (t, a) => tmps.setIfInBounds t a) rec.tmps) rec.assign rec.body) w := by
      have := run_yield (P := P) (args := A.map a.eval) hw (by simpa using hsz')
      simp [execOp, ho, resolve, Deferred.ofValue, hval, invoke, this]
    have hdef : ∀ c, (⟨dst, op', ty, pos, af, g⟩ : Oper).op ≠ .defer c := fun c hc => by
      simp only [ho] at hc; cases hc
    refine ⟨fun _ _ => trivial, ?_⟩
    rw [Oper.semAt_eq _ _ _ hdef, withD_eval, hrun, Oper.uponIn_round]
    refine ⟨fun h => by simp [wideR] at h, RoundIn.mono (F := wideR ro) hR fun e w' he => ?_⟩
    obtain ⟨rfl, ρ', H', hk, hle, hs, hf⟩ := he
    show next ((withD D a).put dst (.bool true)) w'
    rw [withD_put]
    exact hK _ _ _ _ _ hk (rel.put hle (rel.inv.after hs hf) hd (.bool true))

theorem istepY_sound (hy : (∃ p, y = noY ∧ p = ()) ∨ YOK P y w0 ex R0) {ρ : RMap} {s : St} {H : AHeap} {a : Act} {w : World} (rel : Rel w0 ex N R0 ρ s H a w) {ops : Array Oper} {o : Oper} {st : IStep} (hst : stepOf P N ops o = some st) {K : St → AHeap → Prop}
    (h : istepY P y st K s H) {next : Act → World → Prop} {Q : Exit → Act → World → Prop} (hK : ∀ s' H' ρ' a' w', K s' H' → Rel w0 ex N R0 ρ' s' H' a' w' → next (withD D a') w') :
    if Region.wanted o (yielded ops a.tmps) then o.wpIn (wideR ro) 0 P (withD D a) w next Q else next ((withD D a).put o.dst undef) w := by
  obtain ⟨hop, hdst, hd, _⟩ := stepOf_spec hst
  have h' : match st.guard with | none => iopY P y st.dst st.op K s H | some (t, want) => guardP (iopY P y st.dst st.op K s H) (K (putI st.dst s unv) H) want (s t) := by
    unfold istepY at h; exact h
  rcases guard_cases rel hst h' with ⟨hw, hA⟩ | ⟨hw, hB⟩
  · rw [if_pos hw]
    rw [hdst] at hA
    exact iopY_sound hy rel hop hd hA hK
  · rw [if_neg (by simp [hw]), withD_put]
    rw [hdst] at hB
    exact hK _ _ _ _ _ hB (rel.put (RMap.le_refl _) rel.inv hd (.lit _))

theorem iopsY_sound (hy : (∃ p, y = noY ∧ p = ()) ∨ YOK P y w0 ex R0) {ops : Array Oper} {Q : Exit → Act → World → Prop} {K : St → AHeap → Prop} (hK : ∀ s' H' ρ' a' w', K s' H' → Rel w0 ex N R0 ρ' s' H' a' w' → Q .normal (withD D a') w') :
    ∀ (l : List IStep) (k : Nat), (∀ j, (h : j < l.length) → ∃ o, ops[k + j]? = some o ∧ stepOf P N ops o = some l[j]) → ∀ (s : St) (H : AHeap) (ρ : RMap) (a : Act) (w : World), iopsY P y l K s H → Rel w0 ex N R0 ρ s H a w →
      wpOpsIn (wideR ro) 0 P ops Q (List.range' k l.length) (withD D a) w
  | [], k, _, s, H, ρ, a, w, h, rel => hK _ _ _ _ _ h rel
  | st :: l, k, hl, s, H, ρ, a, w, h, rel => by
    obtain ⟨o, ho, hst⟩ := hl 0 (by simp)
    simp only [Nat.add_zero, List.getElem_cons_zero] at ho hst
    simp only [List.length_cons, List.range'_succ]
    have ih := fun s' H' ρ' a' w' h' rel' => iopsY_sound hy hK l (k + 1) (fun j hj => by
      obtain ⟨o', h1, h2⟩ := hl (j + 1) (by simp; omega)
      exact ⟨o', by rw [show k + 1 + j = k + (j + 1) by omega]; exact h1, by simpa using h2⟩) s' H' ρ' a' w' h' rel'
    have := istepY_sound (Q := Q) (ro := ro) (D := D) hy rel hst h (next := wpOpsIn (wideR ro) 0 P ops Q (List.range' (k + 1) l.length)) ih
    simp only [wpOpsIn, ho]
    have ht : (withD D a).tmps = a.tmps := rfl
    rw [ht]
    split
    · rename_i hw; rw [if_pos hw] at this; exact this
    · rename_i hw; rw [if_neg hw] at this; exact ⟨fun _ _ => trivial, this⟩

/-- What soundness is, of one text. -/
def SndY (P : Program) (y : YEnv) (D : List Deferred) (ro : Option Nat) (N : Nat) (c : Code) : Prop := ∀ (w0 : World) (ex : Nat → Prop) (R0 : RMap) (n0 : Nat), ((∃ p, y = noY ∧ p = ()) ∨ YOK P y w0 ex R0) → (∀ r, n0 ≤ r → R0 r = none) → ∀ (ir : IR) (Q : AExit → St → AHeap → Prop) (Qc : Exit → Act → World → Prop), irOf P N c = some ir →
    (∀ e s' H' ρ' a' w', Q e s' H' → Rel w0 ex N R0 ρ' s' H' a' w' → Qc e.real (withD D a') w') → ∀ (s : St) (H : AHeap) (ρ : RMap) (a : Act) (w : World), iwpY P y n0 ir Q s H → Rel w0 ex N R0 ρ s H a w → c.wpIn (wideR ro) 0 P Qc (withD D a) w

theorem region_conv {ops : Array Oper} {id : Nat} {a : Act} {w : World} {Qc : Exit → Act → World → Prop} (hm : P.follows .mixedOrders = true) (h : wpAny P .any ops (NoP (Q0 D Qc)) ops.size (Array.replicate ops.size false) a { w with drawn := w.drawn + 1 }) :
    (Code.region id ops true).wpIn (wideR ro) 0 P Qc (withD D a) w := by
  refine wpIn_region_draw fun t => ops_conv _ _ _ ?_
  simp only [Region.schedule, hm, Bool.true_or, if_true]
  have := wpAny_sound ops.size t _ a _ h
  have e : NoP (Q0 D Qc) = Q0 D Qc := by
    funext e a w
    cases e <;> simp [NoP, Q0]
  rw [e] at this
  exact this

theorem sndY_all : ∀ (m : Nat) (c : Code), SizeOf.sizeOf c < m → SndY P y D ro N c := by
  intro m
  induction m with
  | zero => intro c hm; omega
  | succ m ih =>
  intro c hm w0 ex R0 n0 hy hR
  have ihc : ∀ c' : Code, SizeOf.sizeOf c' < SizeOf.sizeOf c → SndY P y D ro N c' := fun c' h => ih c' (by omega)
  cases c with
  | skip => intro ir Q Qc hc hQ s H ρ a w h rel; simp only [irOf, Option.some.injEq] at hc; subst hc; exact wpIn_skip (hQ .normal _ _ _ _ _ h rel)
  | exit id => intro ir Q Qc hc hQ s H ρ a w h rel; simp only [irOf, Option.some.injEq] at hc; subst hc; exact wpIn_exit (hQ (.exit id) _ _ _ _ _ h rel)
  | ret => intro ir Q Qc hc hQ s H ρ a w h rel; simp only [irOf, Option.some.injEq] at hc; subst hc; exact wpIn_ret (hQ .ret _ _ _ _ _ h rel)
  | region id ops draw =>
    intro ir Q Qc hc hQ s H ρ a w h rel
    cases draw with
    | false =>
      simp only [irOf, Option.map_eq_some_iff] at hc
      obtain ⟨l, hl, rfl⟩ := hc
      obtain ⟨h1, h2⟩ := mapM_some hl
      refine wpIn_region ?_
      have := iopsY_sound (Q := Qc) (ops := ops) (N := N) (ro := ro) (D := D) hy (fun s' H' ρ' a' w' k r => hQ .normal s' H' ρ' a' w' k r) l 0 (fun j hj => by
        have hj' : j < ops.toList.length := by omega
        have hj2 : j < ops.size := by simpa using hj'
        refine ⟨ops[j], by simp [hj2], h2 j ops[j] l[j] (by simp [hj2]) (by simp [hj])⟩) s H ρ a w h rel
      rw [List.range_eq_range', show ops.size = l.length by rw [← h1]; simp]
      exact this
    | true =>
      simp only [irOf] at hc
      split at hc
      · rename_i hd
        simp only [Option.some.injEq] at hc
        subst hc
        unfold dopsOf at hd
        simp only [Option.bind_eq_some_iff] at hd
        obtain ⟨L, hL, hc⟩ := hd
        split at hc
        · rename_i hok
          simp only [Option.some.injEq] at hc; subst hc
          simp only [drawOK, Bool.and_eq_true, beq_iff_eq] at hok
          obtain ⟨⟨⟨⟨⟨hlen, hmode⟩, hns⟩, hgo⟩, hlate⟩, hfol⟩ := hok
          obtain ⟨h1, h2⟩ := mapM_some hL
          have hfits : ∀ x ∈ L, Fits P N ops x := fun x hx => by
            obtain ⟨j, hj⟩ := List.mem_iff_getElem?.1 hx
            have hlt := (List.getElem?_eq_some_iff.1 hj).1
            have := h2 j (canon P ops)[j] x (by simp) hj
            unfold drawStep at this
            split at this
            · rename_i o ho
              simp only [Option.map_eq_some_iff] at this
              obtain ⟨st, hst, rfl⟩ := this
              exact ⟨o, ho, hst⟩
            · cases this
          have rel' : Rel w0 ex N R0 ρ s H a { w with drawn := w.drawn + 1 } := ⟨⟨rel.inv.sim.drew, rel.inv.frm.drew⟩, rel.tmps, rel.size, rel.defers, rel.base⟩
          have hs := dops_sound (P := P) (Q := Q0 D Qc) (K := Q .normal) (L := L) rel'.inv hns hlate (fun s' H' ρ' a' w' k r => ⟨rfl, r.defers, hQ .normal s' H' ρ' a' w' k r⟩) L _ true (fun x hx => ⟨hx, hfits x hx⟩) (fun x hx => by
            have := (List.all_eq_true.1 hmode) x hx
            simp only [beq_iff_eq] at this
            rw [← List.contains_iff_mem, this]; simp) hgo closed_none s H ρ a _ h rel' (RMap.le_refl _) (fun _ => Old.refl _)
          have hany := wpAny_of_S _ _ _ _ hs
          rw [hlen] at hany
          exact region_conv hfol hany
        · cases hc
      · unfold topsOf at hc
        simp only [Option.bind_eq_some_iff] at hc
        obtain ⟨T, hT, hc⟩ := hc
        split at hc
        · rename_i hok
          simp only [Option.some.injEq] at hc; subst hc
          simp only [drawOKT, Bool.and_eq_true] at hok
          obtain ⟨⟨⟨⟨hmode, hns⟩, hgo⟩, hlate⟩, hfol⟩ := hok
          have hfits := treeGo_fits _ _ _ _ hT
          have rel' : Rel w0 ex N R0 ρ s H a { w with drawn := w.drawn + 1 } := ⟨⟨rel.inv.sim.drew, rel.inv.frm.drew⟩, rel.tmps, rel.size, rel.defers, rel.base⟩
          have hs := tops_sound (P := P) (Q := Q0 D Qc) (K := Q .normal) (L := T.steps) rel'.inv hns hlate (fun s' H' ρ' a' w' k r => ⟨rfl, r.defers, hQ .normal s' H' ρ' a' w' k r⟩) T _ _ true none (fun x hx => ⟨hx, hfits x hx⟩) (fun x hx => by
            have := (List.all_eq_true.1 hmode) x hx
            simp only [beq_iff_eq] at this
            rw [← List.contains_iff_mem, this]; simp) hgo closed_none s H ρ a _ (.inr h) rel' (RMap.le_refl _) (fun _ => Old.refl _)
          have hany := wpAny_of_S _ _ _ _ hs
          exact region_conv hfol hany
        · cases hc
  | seq c1 c2 =>
    intro ir Q Qc hc hQ s H ρ a w h rel
    simp only [irOf, Option.bind_eq_some_iff, Option.map_eq_some_iff] at hc
    obtain ⟨x', hx, y', hy', rfl⟩ := hc
    have ihx := ihc c1 (by simp; omega) w0 ex R0 n0 hy hR
    have ihy := ihc c2 (by simp; omega) w0 ex R0 n0 hy hR
    rcases fuse_cases (strPat P N c1 c2) x' y' with e | ⟨A, X, it, id, d, B, u, v, rest, hp, hy'', e⟩
    case inr =>
      rw [e] at h
      exact h.elim
    rw [e] at h
    refine wpIn_seq (ihx x' _ _ hx (fun e s' H' ρ' a' w' k r => ?_) s H ρ a w h rel)
    cases e with
    | normal => exact ihy y' Q Qc hy' hQ s' H' ρ' a' w' k r
    | exit id => exact hQ (.exit id) s' H' ρ' a' w' k r
    | ret => exact hQ .ret s' H' ρ' a' w' k r
  | cond c x y' =>
    intro ir Q Qc hc hQ s H ρ a w h rel
    have ihx := ihc x (by simp; omega) w0 ex R0 n0 hy hR
    have ihy := ihc y' (by simp; omega) w0 ex R0 n0 hy hR
    simp only [irOf, Option.bind_eq_some_iff, Option.map_eq_some_iff] at hc
    obtain ⟨c', hc', x', hx, y', hy, rfl⟩ := hc
    have rc := evo_rel rel.tmps hc'
    simp only [iwpY] at h
    unfold condPost at h
    split at h
    · rename_i b hb
      rw [hb] at rc
      refine wpIn_cond (by rw [withD_eval]; exact rc.bool_inv) ?_
      cases b with
      | true => exact ihx x' Q Qc hx hQ s H ρ a w (by simpa using h) rel
      | false => exact ihy y' Q Qc hy hQ s H ρ a w (by simpa using h) rel
    · exact h.elim
  | block id x =>
    intro ir Q Qc hc hQ s H ρ a w h rel
    have ih := ihc x (by simp; omega) w0 ex R0 n0 hy hR
    simp only [irOf, Option.map_eq_some_iff] at hc
    obtain ⟨x', hx, rfl⟩ := hc
    refine wpIn_block (ih x' _ _ hx (fun e s' H' ρ' a' w' k r => ?_) s H ρ a w h rel)
    cases e with
    | normal => exact hQ .normal s' H' ρ' a' w' k r
    | ret => exact hQ .ret s' H' ρ' a' w' k r
    | exit i =>
      simp only [blockPost] at k
      show Exit.inBlock id Qc (.exit i) (withD D a') w'
      simp only [Exit.inBlock]
      split at k
      · rename_i e; rw [if_pos e]; exact hQ .normal s' H' ρ' a' w' k r
      · rename_i e; rw [if_neg e]; exact hQ (.exit i) s' H' ρ' a' w' k r
  | loop x =>
    intro ir Q Qc hc hQ s H ρ a w h rel
    have ih := ihc x (by simp) w0 ex R0 n0 hy hR
    simp only [irOf, Option.map_eq_some_iff] at hc
    obtain ⟨x', hx, rfl⟩ := hc
    obtain ⟨I, n, hI, hround⟩ := h
    have hwf : ∀ (n : Nat) (s : St) (H : AHeap) (ρ : RMap) (a : Act) (w : World), I n s H → Rel w0 ex N R0 ρ s H a w → (Code.loop x).wpIn (wideR ro) 0 P Qc (withD D a) w := by
      intro n s H ρ a w hI rel
      refine wpIn_loop_ghost (fun n a w => ∃ s H ρ a', I n s H ∧ Rel w0 ex N R0 ρ s H a' w ∧ a = withD D a') n ⟨s, H, ρ, a, hI, rel, rfl⟩ ?_
      rintro n _ w ⟨s, H, ρ, a, hI, rel, rfl⟩
      refine ih x' _ _ hx (fun e s' H' ρ' a' w' k r => ?_) s H ρ a w (hround n s H hI) rel
      cases e with
      | normal =>
        obtain ⟨s2, H2, hw, m, hm, hIm⟩ := k
        obtain ⟨ρ2, r2⟩ := hw w0 ex N R0 ρ' a' w' hR r
        exact ⟨m, hm, s2, H2, ρ2, a', hIm, r2, rfl⟩
      | exit id => exact hQ (.exit id) s' H' ρ' a' w' k r
      | ret => exact hQ .ret s' H' ρ' a' w' k r
    exact hwf n s H ρ a w hI rel
  | _ => intro ir Q Qc hc; simp [irOf] at hc
end
end Go.Vh

