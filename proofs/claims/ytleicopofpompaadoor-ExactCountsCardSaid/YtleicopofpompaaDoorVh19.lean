/- From a contract to a row: a law with plain arguments. -/
import Derived.Test.YtleicopofpompaaDoorVh18
import Derived.ProofKit
import Derived.ChangeSame
import Derived.OpenShut
set_option linter.unusedSimpArgs false
set_option linter.unusedVariables false
namespace Go.Vh
open Go Go.ChangeShapes Go.WideShapes Go.RowKit Go.ChangeAt

/-- Old blocks are as they were. -/
theorem keptBut_of_frm {w w' : World} (h : Frm w.heap.size (fun _ => False) w w') (may : MemPlace → Prop) : w.keptBut w' may := by
  refine ⟨h.os, h.output, fun i hi => ?_⟩
  rw [h.block i hi id]
  cases w.heap[i]? with
  | none => rfl
  | some o => cases o <;> simp

section
variable {P : Program} {H : Type} {enc : TypeId × Value → H}

/-- 'post_of_same', where old blocks alone count. -/
theorem post_of_old {f : Func} {s : ChangeSpec} {apart fresh handsOn again : Bool} {W W' : World} {args : Array Value} {v : Value} {ds gs : List (DataW H)} {before pa pv : List MemPlace}
    (hW : DataW.Whole enc P f.params.toList s.vars apart W args.toList ds gs before)
    (hres : ∀ (b : Nat) (sp : Nat → Bool) (hd : Bool), DataW.TrodAll enc P W' b sp hd f.resultTypes.toList (v.resultList f.resultTypes.size) (s.fn H (ds ++ gs)).results [])
    (hargs : ∀ sp : Nat → Bool, (∀ p ∈ before, sp p.block = true) → DataW.TrodAll enc P W' 0 sp true f.params.toList args.toList (s.fn H (ds ++ gs)).args pa)
    (hvars : ∀ sp : Nat → Bool, (∀ p ∈ before, sp p.block = true) → DataW.TrodVars enc P W' sp s.vars (s.fn H (ds ++ gs)).vars pv)
    (hps : before = pa ++ pv) (hf : Frm W.heap.size (fun _ => False) W W')
    (hok : ∀ (j : Nat) (t : TypeId) (r : Value), f.resultTypes[j]? = some t → (v.resultList f.resultTypes.size)[j]? = some r → Value.okWide P W' .any 0 t r) :
    s.post enc P f apart fresh handsOn again W args v W' := by
  have hold : ∀ p ∈ before, (fun b => decide (b < W.heap.size)) p.block = true := fun p hp => by simpa using hW.lt p hp
  have hlt := hW.lt
  refine ⟨ds, gs, before, [], pa, pv, hW, hres _ _ _, hargs _ hold, hvars _ hold, World.keptBut_mono (fun p hp => ⟨hp, ?_⟩) (keptBut_of_frm hf (· ∈ before)), fun _ => ?_⟩
  · rw [hps, List.mem_append] at hp
    exact Or.inr hp
  · obtain ⟨_, _, _, _, _, hz, hn⟩ := hW
    refine ⟨hok, _, _, ([] ++ pa) ++ pv, ⟨[] ++ pa, pv, trodAll_append (hargs _ (fun _ _ => rfl)) (hres _ _ _), hvars _ (fun _ _ => rfl), rfl, ?_, ?_⟩, ?_⟩
    · intro b off hp
      have hm : MemPlace.cell b off ∈ before := by rw [hps]; simpa using hp
      have hb : b < W.heap.size := hlt _ hm
      rw [World.frozen?_of_block (w := W) (hf.block b hb id)]
      exact hz b off hm
    · intro ha
      have := hn ha
      rw [hps] at this
      simpa using this
    · intro p hp _
      rw [hps]
      simpa using hp
end

/-- A call with arguments that reach nothing. -/
theorem ACalls.plain {P : Program} {f : FuncId} {args : List AV} {W : List Nat} {R : AV → AHeap → Prop} (h : ACalls P f args [] W R) {vs : List Value} (hv : VRelL (fun _ => none) args vs) (w : World) :
    Calls P f vs.toArray w fun e w' => ∃ v v' ρ' H', e = .returned v' ∧ R v H' ∧ VRel ρ' v v' ∧ Frm w.heap.size (fun _ => False) w w' := by
  have no : ∀ {r row}, rowAt ([] : AHeap) r = some row → False := fun h => by simp [rowAt] at h
  have hs : Sim w.heap.size (exOf (fun _ => none) []) (fun _ => none) [] w :=
    ⟨fun _ _ => rfl, fun _ _ h => (no h).elim, fun _ _ _ h => (no h).elim, fun _ _ _ h => (no h).elim, fun _ _ _ _ _ _ h => (no h).elim, fun _ _ _ h => (no h).elim⟩
  refine (h.calls _ w vs hs hv fun _ => .any _).mono fun e w' ⟨v, v', ρ', H', h1, h2, _, h4, _, h6, _⟩ => ⟨v, v', ρ', H', h1, h2, h4, ⟨h6.os, h6.tape, h6.output, h6.size, fun k hk _ => h6.block k hk fun ⟨r, row, x, _, q, _⟩ => no q⟩⟩

end Go.Vh
