/- Functions that hold a range over a function. -/
import Derived.Test.YthbhljolpnbdlaaRB
set_option linter.unusedSimpArgs false
set_option linter.unusedVariables false
namespace Go.Vh
open Go

inductive IRX where
  | ir (i : IR)
  | seq (a b : IRX)
  | cond (c : Opd) (a b : IRX)
  | block (id : Nat) (a : IRX)
  | rangeF (g : Opd) (ps : List Nat) (A B : IR)
  deriving Inhabited

def orIR : Option IR → Option IRX → Option IRX
  | some i, _ => if i.noStr then some (.ir i) else none
  | none, o => o

def rangeOf (P : Program) (N : Nat) (g : Operand) (ps : Array Tmp) (A B : Option IR) : Option IRX :=
  (Opd.of g).bind fun g' => A.bind fun A' => B.bind fun B' => if A'.noStr && B'.noStr && ps.toList.all (· < N) then some (.rangeF g' ps.toList A' B') else none

def irOfX (P : Program) (N : Nat) : Code → Option IRX
  | .seq a b => match strPat P N a b with
    | none => (irOfX P N a).bind fun a' => (irOfX P N b).map fun b' => .seq a' b'
    | some _ => orIR (irOf P N (.seq a b)) none
  | .cond c a b => (Opd.of c).bind fun c' => (irOfX P N a).bind fun a' => (irOfX P N b).map fun b' => .cond c' a' b'
  | .block id a => (irOfX P N a).map fun a' => .block id a'
  | .rangeFunc g ps A B => rangeOf P N g ps (irOf P N A) (irOf P N B)
  | c => orIR (irOf P N c) none

def rangeC (P : Program) (ps : List Nat) (A B : IR) (K : AHeap → Prop) (s : St) (H : AHeap) : AV → Prop
  | .func f caps => ACallsY P (gl s) f (.yld H.length :: caps) (H ++ [loopRow]) ⟨H.length, roundY P ps A B s⟩ fun _ H' => K H'
  | _ => False

def iwpX (P : Program) (n0 : Nat) : IRX → (AExit → St → AHeap → Prop) → St → AHeap → Prop
  | .ir i, Q, s, H => iwp P n0 i Q s H
  | .seq a b, Q, s, H => iwpX P n0 a (seqPost (fun s1 H1 => ∃ s2 H2, Weak n0 s1 H1 s2 H2 ∧ iwpX P n0 b Q s2 H2) Q) s H
  | .cond c a b, Q, s, H => condPost (iwpX P n0 a Q s H) (iwpX P n0 b Q s H) (evo s c)
  | .block id a, Q, s, H => iwpX P n0 a (blockPost id Q) s H
  | .rangeF g ps A B, Q, s, H => rangeC P ps A B (fun H' => Q .normal s H') s H (evo s g)

structure Marks (B0 : Nat) (rs : List Nat) (w1 : World) (ex1 : Nat → Prop) : Prop where
  all : ∀ r ∈ rs, B0 ≤ r ∧ r < w1.heap.size ∧ ¬ ex1 r ∧ w1.heap[r]? = some (.deferred (some []))
  nodup : rs.Nodup

structure Link (w0 : World) (ex : Nat → Prop) (w1 : World) (ex1 : Nat → Prop) : Prop where
  frm : Frm w0.heap.size ex w0 w1
  sub : ∀ b, (w1.heap.size ≤ b ∨ ex1 b) → (w0.heap.size ≤ b ∨ ex b)

theorem Link.refl {w0 : World} {ex : Nat → Prop} : Link w0 ex w0 ex := ⟨Frm.refl, fun _ h => h⟩
theorem Link.trans {w0 w1 w2 : World} {ex ex1 ex2 : Nat → Prop} (h : Link w0 ex w1 ex1) (h' : Link w1 ex1 w2 ex2) : Link w0 ex w2 ex2 := by
  refine ⟨⟨h'.frm.os.trans h.frm.os, h'.frm.tape.trans h.frm.tape, h'.frm.output.trans h.frm.output, Nat.le_trans h.frm.size h'.frm.size, fun k hk hne => ?_⟩, fun b hb => h.sub b (h'.sub b hb)⟩
  refine (h'.frm.block k (Nat.lt_of_lt_of_le hk h.frm.size) fun hx => ?_).trans (h.frm.block k hk hne)
  rcases h.sub k (.inr hx) with h | h
  · omega
  · exact hne h

section
variable {P : Program} {N : Nat}

theorem Rel.link {w0 w1 : World} {ex ex1 : Nat → Prop} {R0 ρ : RMap} {s : St} {H : AHeap} {a : Act} {w : World} (r : Rel w1 ex1 N R0 ρ s H a w) (h : Link w0 ex w1 ex1) : Rel w0 ex N R0 ρ s H a w := by
  refine ⟨⟨r.inv.sim.weaken h.sub, ?_⟩, r.tmps, r.size, r.defers, r.base⟩
  have f := r.inv.frm
  refine ⟨f.os.trans h.frm.os, f.tape.trans h.frm.tape, f.output.trans h.frm.output, Nat.le_trans h.frm.size f.size, fun k hk hne => ?_⟩
  refine (f.block k (Nat.lt_of_lt_of_le hk h.frm.size) fun hx => ?_).trans (h.frm.block k hk hne)
  rcases h.sub k (.inr hx) with h | h
  · omega
  · exact hne h

def SndX (P : Program) (N : Nat) (c : Code) : Prop := ∀ (w0 : World) (ex : Nat → Prop) (R0 : RMap) (n0 B0 : Nat) (rs : List Nat), Marks B0 rs w0 ex → B0 ≤ w0.heap.size → (∀ r, n0 ≤ r → R0 r = none) → ∀ (ir : IRX) (Q : AExit → St → AHeap → Prop) (Qc : Exit → Act → World → Prop), irOfX P N c = some ir →
    (∀ e s' H' ρ' a' w' w1 ex1 rs', Q e s' H' → Rel w1 ex1 N R0 ρ' s' H' a' w' → Link w0 ex w1 ex1 → Marks B0 rs' w1 ex1 → Qc e.real (withD (rs'.map mark) a') w') → ∀ (s : St) (H : AHeap) (ρ : RMap) (a : Act) (w : World), iwpX P n0 ir Q s H → Rel w0 ex N R0 ρ s H a w →
    c.wpIn Fence.wide 0 P Qc (withD (rs.map mark) a) w

theorem sndX_ir {c : Code} {i : IR} (hc : irOf P N c = some i) (hn : i.noStr = true) {w0 : World} {ex : Nat → Prop} {R0 : RMap} {n0 B0 : Nat} {rs : List Nat} (hm : Marks B0 rs w0 ex) (hR : ∀ r, n0 ≤ r → R0 r = none) {Q : AExit → St → AHeap → Prop} {Qc : Exit → Act → World → Prop}
    (hQ : ∀ e s' H' ρ' a' w' w1 ex1 rs', Q e s' H' → Rel w1 ex1 N R0 ρ' s' H' a' w' → Link w0 ex w1 ex1 → Marks B0 rs' w1 ex1 → Qc e.real (withD (rs'.map mark) a') w') {s : St} {H : AHeap} {ρ : RMap} {a : Act} {w : World} (h : iwp P n0 i Q s H) (rel : Rel w0 ex N R0 ρ s H a w) :
    c.wpIn Fence.wide 0 P Qc (withD (rs.map mark) a) w :=
  sndY_all (D := rs.map mark) (ro := none) (y := noY) _ c (Nat.lt_succ_self _) w0 ex R0 n0 (.inl ⟨(), rfl, rfl⟩) hR i Q Qc hc (fun e s' H' ρ' a' w' k r => hQ e s' H' ρ' a' w' w0 ex rs k r Link.refl hm) s H ρ a w (iwpY_of i hn Q Q (fun _ _ _ k => k) s H h) rel

theorem orIR_cases {o : Option IR} {o' : Option IRX} {x : IRX} (h : orIR o o' = some x) : (∃ i, o = some i ∧ i.noStr = true ∧ x = .ir i) ∨ (o = none ∧ o' = some x) := by
  cases o with
  | none => exact .inr ⟨rfl, h⟩
  | some i =>
    simp only [orIR] at h
    split at h
    · rename_i hn; simp only [Option.some.injEq] at h; exact .inl ⟨i, rfl, hn, h.symm⟩
    · cases h

theorem sndX_all : ∀ (c : Code), SndX P N c := by
  intro c
  induction c with
  | seq a b iha ihb =>
    intro w0 ex R0 n0 B0 rs hm hB hR ir Q Qc hc hQ s H ρ ac w h rel
    simp only [irOfX] at hc
    split at hc
    case h_2 =>
      rcases orIR_cases hc with ⟨i, h1, h2, rfl⟩ | ⟨_, h1⟩
      · exact sndX_ir h1 h2 hm hR hQ h rel
      · cases h1
    simp only [Option.bind_eq_some_iff, Option.map_eq_some_iff] at hc
    obtain ⟨a', ha, b', hb, rfl⟩ := hc
    refine wpIn_seq (iha w0 ex R0 n0 B0 rs hm hB hR a' _ _ ha (fun e s' H' ρ' a1 w' w1 ex1 rs' k r l m => ?_) s H ρ ac w h rel)
    cases e with
    | normal =>
      obtain ⟨s4, H4, hw, k⟩ := k
      obtain ⟨ρ4, r⟩ := hw w1 ex1 N R0 ρ' a1 w' hR r
      exact ihb w1 ex1 R0 n0 B0 rs' m (Nat.le_trans hB l.frm.size) hR b' Q Qc hb (fun e s2 H2 ρ2 a2 w2 w3 ex3 rs3 k3 r3 l3 m3 => hQ e s2 H2 ρ2 a2 w2 w3 ex3 rs3 k3 r3 (l.trans l3) m3) s4 H4 ρ4 a1 w' k r
    | exit id => exact hQ (.exit id) s' H' ρ' a1 w' w1 ex1 rs' k r l m
    | ret => exact hQ .ret s' H' ρ' a1 w' w1 ex1 rs' k r l m
  | cond c a b iha ihb =>
    intro w0 ex R0 n0 B0 rs hm hB hR ir Q Qc hc hQ s H ρ ac w h rel
    simp only [irOfX, Option.bind_eq_some_iff, Option.map_eq_some_iff] at hc
    obtain ⟨c', hc', a', ha, b', hb, rfl⟩ := hc
    have rc := evo_rel rel.tmps hc'
    simp only [iwpX] at h
    unfold condPost at h
    split at h
    · rename_i t ht
      rw [ht] at rc
      refine wpIn_cond (by rw [withD_eval]; exact rc.bool_inv) ?_
      cases t with
      | true => exact iha w0 ex R0 n0 B0 rs hm hB hR a' Q Qc ha hQ s H ρ ac w (by simpa using h) rel
      | false => exact ihb w0 ex R0 n0 B0 rs hm hB hR b' Q Qc hb hQ s H ρ ac w (by simpa using h) rel
    · exact h.elim
  | block id a iha =>
    intro w0 ex R0 n0 B0 rs hm hB hR ir Q Qc hc hQ s H ρ ac w h rel
    simp only [irOfX, Option.map_eq_some_iff] at hc
    obtain ⟨a', ha, rfl⟩ := hc
    refine wpIn_block (iha w0 ex R0 n0 B0 rs hm hB hR a' _ _ ha (fun e s' H' ρ' a1 w' w1 ex1 rs' k r l m => ?_) s H ρ ac w h rel)
    cases e with
    | normal => exact hQ .normal s' H' ρ' a1 w' w1 ex1 rs' k r l m
    | ret => exact hQ .ret s' H' ρ' a1 w' w1 ex1 rs' k r l m
    | exit i =>
      simp only [blockPost] at k
      show Exit.inBlock id Qc (.exit i) _ w'
      simp only [Exit.inBlock]
      split at k
      · rename_i e; rw [if_pos e]; exact hQ .normal s' H' ρ' a1 w' w1 ex1 rs' k r l m
      · rename_i e; rw [if_neg e]; exact hQ (.exit i) s' H' ρ' a1 w' w1 ex1 rs' k r l m
  | rangeFunc g ps A B ihA ihB =>
    intro w0 ex R0 n0 B0 rs hm hB hR ir Q Qc hc hQ s H ρ ac w h rel
    simp only [irOfX, rangeOf, Option.bind_eq_some_iff] at hc
    obtain ⟨g', hg, A', hA, B', hB', hc⟩ := hc
    split at hc
    case isFalse => cases hc
    rename_i hok
    simp only [Bool.and_eq_true] at hok
    simp only [Option.some.injEq] at hc; subst hc
    simp only [iwpX] at h
    generalize hfv : evo s g' = fv at h
    cases fv
    case func f caps =>
      refine rangeF_sound rel hg hA hB' hok.1.1 hok.1.2 hok.2 hfv (R := fun H' => Q .normal s H') h fun H' ρ' w' r hq rel' hf h1 h2 h3 h4 => ?_
      have hsz := rel.inv.hle
      have hsz' := rel'.inv.hle
      refine hQ .normal s H' ρ' ac w' w' (exOf ρ' H') (r :: rs) hq ⟨⟨rel'.inv.simIn, Frm.refl⟩, rel'.tmps, rel'.size, rel'.defers, rel'.base⟩ ⟨rel'.inv.frm, fun b hb => ?_⟩ ⟨fun q hq => ?_, ?_⟩
      · rcases hb with hb | hb
        · exact .inl (Nat.le_trans hsz' hb)
        · exact exOf_sub rel'.inv b hb
      · rcases List.mem_cons.1 hq with rfl | hq
        · exact ⟨by omega, h2, h4, h3⟩
        · obtain ⟨k1, k2, k3, k4⟩ := hm.all q hq
          have := (rel'.inv.frm.block q k2 k3).trans k4
          refine ⟨k1, by omega, fun hx => ?_, this⟩
          obtain ⟨C, e, fr, hc⟩ := exOf_cells rel'.inv.sim hx
          rw [this] at hc; cases hc
      · refine List.nodup_cons.2 ⟨fun hmem => ?_, hm.nodup⟩
        have := (hm.all r hmem).2.1
        omega
    all_goals exact h.elim
  | _ =>
    intro w0 ex R0 n0 B0 rs hm hB hR ir Q Qc hc hQ s H ρ ac w h rel
    simp only [irOfX] at hc
    rcases orIR_cases hc with ⟨i, h1, h2, rfl⟩ | ⟨_, h1⟩
    · exact sndX_ir h1 h2 hm hR hQ h rel
    · cases h1

theorem leaves_marks {fn : Func} {R : Ending → World → Prop} {w0 : World} {ex : Nat → Prop} {R0 : RMap} {ρ : RMap} {s : St} {H : AHeap} {a : Act} (hfin : ∀ w, Rel w0 ex N R0 ρ s H a w → ∃ v, (results fn a.tmps).run P w = .ok v w ∧ R (.returned v) w) :
    ∀ (rs : List Nat) (w : World), Rel w0 ex N R0 ρ s H a w → (∀ r ∈ rs, w0.heap.size ≤ r ∧ w.heap[r]? = some (.deferred (some []))) → rs.Nodup → LeavesInM Fence.wide 0 P fn a.tmps R (rs.map mark) .returning w
  | [], w, rel, _, _ => hfin w rel
  | r :: rs, w, rel, hr, hn => by
    obtain ⟨h1, h2⟩ := hr r (List.mem_cons_self ..)
    obtain ⟨n1, n2⟩ := List.nodup_cons.1 hn
    refine ⟨by simp, .inl ⟨r, _, rfl, run_takeDeferred h2, leaves_marks hfin rs _ ?_ (fun q hq => ?_) n2⟩⟩
    · have f := rel.inv.frm
      refine ⟨⟨rel.inv.sim.putObj (fun C e fr h => by rw [h2] at h; cases h), ⟨f.os, f.tape, f.output, by simp only [World.putObj_size]; exact f.size, fun k hk hne => ?_⟩⟩, rel.tmps, rel.size, rel.defers, rel.base⟩
      rw [World.putObj_heap_other (by omega)]; exact f.block k hk hne
    · obtain ⟨k1, k2⟩ := hr q (List.mem_cons_of_mem _ hq)
      exact ⟨k1, by rw [World.putObj_heap_other (fun e : q = r => n1 (by rw [← e]; exact hq))]; exact k2⟩

/-- **A contract, out of a body that holds a range over a function.** -/
theorem ACallsG.bodyX {γ : Nat → AV} {f : FuncId} {fn : Func} {ir : IRX} {rs : List IRes} {args : List AV} {H : AHeap} {R : AV → AHeap → Prop} (hf : P.funcs[f]? = some fn) (hent : enters P f = true)
    (hir : fn.body.bind (irOfX P fn.ntmps) = some ir) (hrs : fn.results.toList.mapM (resOf P) = some rs) {N : Nat} (hN : fn.ntmps = N) (hargs : args.length ≤ N) {n0 : Nat} (hn : H.length = n0) (h : iwpX P n0 ir (retPost n0 rs R) (s0G γ args) H) (hG : N ≤ 1048576 := by decide) :
    ACallsG P γ f args H (List.range n0) R := by
  obtain ⟨c, hb, hi⟩ := Option.bind_eq_some_iff.1 hir
  subst hN; subst hn
  refine ⟨hent, fun ρ w vs hsim hv hg => ?_⟩
  have hdom : ∀ r, H.length ≤ r → ρ r = none := hsim.dom
  refine (callsIn_wide (n := 0)).1 (callsIn_of_wp_marks hf hb trivial ?_)
  have rel : Rel w (exOf ρ H) fn.ntmps ρ ρ (s0G γ args) H { tmps := vs.toArray ++ Array.replicate (fn.ntmps - vs.toArray.size) undef, defers := [] } w :=
    ⟨⟨hsim, Frm.refl⟩, s0G_rel hG hargs hv hg, ⟨by have := VRelL.length hv; simp; omega, hG⟩, rfl, RMap.le_refl _⟩
  refine sndX_all c w (exOf ρ H) ρ H.length w.heap.size [] ⟨(fun r hr => by cases hr), List.nodup_nil⟩ (Nat.le_refl _) hdom ir _ _ hi (fun e s' H' ρ' a' w' w1 ex1 rs' k r l m => ?_) (s0G γ args) H ρ _ w h rel
  have main : (∃ s2 H2, Weak H.length s' H' s2 H2 ∧ H2.length ≥ H.length ∧ thenR R H2 (ares s2 H2 rs)) → LeavesInM Fence.wide 0 P fn (withD (rs'.map mark) a').tmps (fun e w' => ∃ v v' ρ' H', e = .returned v' ∧ R v H' ∧ ρ.le ρ' ∧ VRel ρ' v v' ∧ Sim w.heap.size (exOf ρ H) ρ' H' w' ∧ Frm w.heap.size (exW (List.range H.length) ρ H) w w' ∧ H.length ≤ H'.length) (withD (rs'.map mark) a').defers .returning w' := fun ⟨s2, H2, hw, hle, ht⟩ => by
    refine leaves_marks (w0 := w) (ex := exOf ρ H) (R0 := ρ) (ρ := ρ') (s := s') (H := H') (a := a') (fun w2 rel2 => ?_) rs' w' (r.link l) (fun q hq => ?_) m.nodup
    · obtain ⟨ρ2, r2⟩ := hw _ _ _ _ _ _ _ hdom rel2
      cases hv2 : ares s2 H2 rs with
      | none => rw [hv2] at ht; exact ht.elim
      | some v1 =>
        rw [hv2] at ht
        obtain ⟨v', k1, k2⟩ := ares_ok r2 hrs hv2
        refine ⟨v', k2, v1, v', ρ2, H2, rfl, ht, r2.base, k1, r2.inv.sim, ?_, hle⟩
        refine ⟨r2.inv.frm.os, r2.inv.frm.tape, r2.inv.frm.output, r2.inv.frm.size, fun k hk hne => r2.inv.frm.block k hk fun hx => hne ?_⟩
        obtain ⟨q, row, x, h1, h2⟩ := hx
        exact ⟨q, row, x, by simpa using rowAt_lt h1, h1, h2⟩
    · obtain ⟨k1, k2, k3, k4⟩ := m.all q hq
      exact ⟨k1, (r.inv.frm.block q k2 k3).trans k4⟩
  cases e with
  | normal => exact main k
  | ret => exact main k
  | exit id => exact k.elim
end
end Go.Vh


/- The runner, with ranges over functions. -/
namespace Go.Vh
open Go

abbrev YRun := List AV → AHeap → Option AHeap

def ropY (γ : Nat → AV) (call : Caller) (y : YRun) (ry : Nat) (d : Option Nat) (o : IOp) (l : List AV) (H : AHeap) : Option (List AV × AHeap) :=
  match o with
  | .call f args => match evo (envS γ l) f with
    | .yld r => if r = ry then (y (args.map (evo (envS γ l))) H).bind fun H' => rput d l (.bool true) H' else none
    | _ => rop γ call [] 0 d (.call f args) l H
  | o => rop γ call [] 0 d o l H

def rstepY (γ : Nat → AV) (call : Caller) (y : YRun) (ry : Nat) (st : IStep) (l : List AV) (H : AHeap) : Option (List AV × AHeap) :=
  match st.guard with
  | none => ropY γ call y ry st.dst st.op l H
  | some (t, want) => match envS γ l t with
    | .bool b => if b = want then ropY γ call y ry st.dst st.op l H else rput st.dst l unv H
    | .lit (.tuple _) => rput st.dst l unv H
    | _ => none

def ropsY (γ : Nat → AV) (call : Caller) (y : YRun) (ry : Nat) : List IStep → List AV → AHeap → Option (List AV × AHeap)
  | [], l, H => some (l, H)
  | st :: r, l, H => (rstepY γ call y ry st l H).bind fun x => ropsY γ call y ry r x.1 x.2

def setL (l : List AV) : List Nat → List AV → Option (List AV)
  | [], _ => some l
  | _ :: _, [] => some l
  | p :: ps, v :: vs => (putE (some p) l v).bind fun l' => setL l' ps vs

structure FoundX where
  ir : IRX
  rs : List IRes
  nt : Nat

def findX (P : Program) (f : FuncId) : Option FoundX :=
  match P.funcs[f]? with
  | some fn => match fn.body.bind (irOfX P fn.ntmps), fn.results.toList.mapM (resOf P) with
    | some ir, some rs => if enters P f = true then some ⟨ir, rs, fn.ntmps⟩ else none
    | _, _ => none
  | none => none

section
variable {P : Program} {γ : Nat → AV}

theorem yieldC_of {y : YEnv} {K : St → AHeap → Prop} {d : Option Nat} {s : St} {H : AHeap} {args : List AV} {fv : AV} (h : thenC P K d s H args fv) : yieldC P y K d s H args fv := by
  cases fv <;> first | exact h | exact h.elim

theorem ropY_ok {call : Caller} (hc : CallOK P γ call) {y : YRun} {ye : YEnv} (hy : ∀ args H H' K, y args H = some H' → K H' → ye.Y args H K) {d : Option Nat} {o : IOp} {l : List AV} {H : AHeap} {x : List AV × AHeap} (h : ropY γ call y ye.ry d o l H = some x) {K : St → AHeap → Prop} (hK : K (envS γ x.1) x.2) :
    iopY P ye d o K (envS γ l) H := by
  cases o with
  | pure p =>
    have h : rop γ call [] 0 d (.pure p) l H = some x := h
    exact iop_of_D (P := P) (rop_ok hc (H0 := []) (mode := 0) h hK)
  | eff e =>
    have h : rop γ call [] 0 d (.eff e) l H = some x := h
    exact iop_of_D (P := P) (rop_ok hc (H0 := []) (mode := 0) h hK)
  | call f args =>
    have plain : rop γ call [] 0 d (.call f args) l H = some x → iopY P ye d (.call f args) K (envS γ l) H := fun h => by
      have := iop_of_D (P := P) (rop_ok hc (H0 := []) (mode := 0) h hK)
      simp only [iop] at this
      simp only [iopY]
      exact yieldC_of this
    simp only [ropY] at h
    split at h
    · rename_i r hr
      split at h
      · rename_i e; subst e
        simp only [Option.bind_eq_some_iff] at h
        obtain ⟨H', h1, h2⟩ := h
        simp only [iopY, hr, yieldC]
        refine ⟨trivial, hy _ _ _ _ h1 ?_⟩
        exact rput_ok h2 hK
      · cases h
    · exact plain h

theorem rstepY_ok {call : Caller} (hc : CallOK P γ call) {y : YRun} {ye : YEnv} (hy : ∀ args H H' K, y args H = some H' → K H' → ye.Y args H K) {st : IStep} {l : List AV} {H : AHeap} {x : List AV × AHeap} (h : rstepY γ call y ye.ry st l H = some x) {K : St → AHeap → Prop} (hK : K (envS γ x.1) x.2) :
    istepY P ye st K (envS γ l) H := by
  unfold rstepY at h
  unfold istepY
  split at h
  · rename_i hg
    simp only [hg]
    exact ropY_ok hc hy h hK
  · rename_i t want hg
    simp only [hg]
    split at h
    · rename_i b hb
      simp only [hb, guardP]
      split at h
      · rename_i e; rw [if_pos e]; exact ropY_ok hc hy h hK
      · rename_i e; rw [if_neg e]; exact rput_ok h hK
    · rename_i hb
      simp only [hb, guardP]
      exact rput_ok h hK
    · cases h

theorem ropsY_ok {call : Caller} (hc : CallOK P γ call) {y : YRun} {ye : YEnv} (hy : ∀ args H H' K, y args H = some H' → K H' → ye.Y args H K) {K : St → AHeap → Prop} : ∀ (o : List IStep) (l : List AV) (H : AHeap) (x : List AV × AHeap), ropsY γ call y ye.ry o l H = some x → K (envS γ x.1) x.2 → iopsY P ye o K (envS γ l) H
  | [], l, H, x, h, hK => by simp only [ropsY, Option.some.injEq] at h; subst h; exact hK
  | st :: r, l, H, x, h, hK => by
    simp only [ropsY, Option.bind_eq_some_iff] at h
    obtain ⟨z, h1, h2⟩ := h
    exact rstepY_ok hc hy h1 (K := iopsY P ye r K) (ropsY_ok hc hy r z.1 z.2 x h2 hK)

theorem setL_ok : ∀ (ps : List Nat) (l l' vs : List AV), setL l ps vs = some l' → setPs (envS γ l) ps vs = envS γ l'
  | [], l, l', vs, h => by simp only [setL, Option.some.injEq] at h; subst h; rfl
  | p :: ps, l, l', [], h => by simp only [setL, Option.some.injEq] at h; subst h; rfl
  | p :: ps, l, l', v :: vs, h => by
    simp only [setL, Option.bind_eq_some_iff] at h
    obtain ⟨l1, h1, h2⟩ := h
    rw [setPs_cons]
    have := putE_ok (γ := γ) h1
    simp only [putI] at this
    rw [this]
    exact setL_ok ps l1 l' vs h2

theorem find_spec {f : FuncId} {F : Found} (h : find P f = some F) : ∃ fn, P.funcs[f]? = some fn ∧ fn.body.bind (irOf P fn.ntmps) = some F.ir ∧ fn.results.toList.mapM (resOf P) = some F.rs ∧ fn.ntmps = F.nt ∧ enters P f = true := by
  unfold find at h
  split at h
  · rename_i fn hfn
    split at h
    · rename_i ir rs hir hrs
      split at h
      · rename_i hent
        simp only [Option.some.injEq] at h; subst h
        exact ⟨fn, hfn, hir, hrs, rfl, hent⟩
      · cases h
    · cases h
  · cases h
theorem findX_spec {f : FuncId} {F : FoundX} (h : findX P f = some F) : ∃ fn, P.funcs[f]? = some fn ∧ fn.body.bind (irOfX P fn.ntmps) = some F.ir ∧ fn.results.toList.mapM (resOf P) = some F.rs ∧ fn.ntmps = F.nt ∧ enters P f = true := by
  unfold findX at h
  split at h
  · rename_i fn hfn
    split at h
    · rename_i ir rs hir hrs
      split at h
      · rename_i hent
        simp only [Option.some.injEq] at h; subst h
        exact ⟨fn, hfn, hir, hrs, rfl, hent⟩
      · cases h
    · cases h
  · cases h

end
end Go.Vh

namespace Go.Vh
open Go
theorem find_of {P : Program} {f : FuncId} {fn : Func} {ir : IR} {rs : List IRes} {N : Nat} (hf : P.funcs[f]? = some fn) (hir : fn.body.bind (irOf P fn.ntmps) = some ir) (hrs : fn.results.toList.mapM (resOf P) = some rs) (hN : fn.ntmps = N) (hent : enters P f = true) : find P f = some ⟨ir, rs, N⟩ := by
  unfold find
  subst hN
  rw [hf]
  simp only [hir, hrs, hent, if_true]
theorem look_step {P : Program} {f n : FuncId} {x : Vh.Found} {r : Option Vh.Found} (hx : find P n = some x) (hr : ∀ F, r = some F → find P f = some F) : ∀ F, (if f = n then some x else r) = some F → find P f = some F := by
  intro F h
  by_cases e : f = n
  · rw [if_pos e] at h
    rw [e, ← Option.some.inj h]; exact hx
  · rw [if_neg e] at h
    exact hr F h
theorem look_end {P : Program} {f : FuncId} : ∀ F, (none : Option Vh.Found) = some F → find P f = some F := fun F h => by cases h
end Go.Vh

