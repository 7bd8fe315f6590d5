/- Loops over the letters of a string: what they are made of. -/
import Derived.Test.YtleicopofpompaaDoorVh10
import Derived.Laws.RangeString
set_option linter.unusedSimpArgs false
set_option linter.unusedVariables false
namespace Go.Vh
open Go

theorem cells_of_cell {w : World} {b o : Nat} {v : Value} (h : w.cell? ⟨b, o, none⟩ = some v) : ∃ C e fr, w.heap[b]? = some (.cells C e fr) := by
  unfold World.cell? at h
  simp only at h
  split at h
  · rename_i C e fr hb
    exact ⟨_, _, _, hb⟩
  all_goals simp_all

/-- Where each block of cells is as it was. -/
theorem Sim.heap_same {B : Nat} {ex : Nat → Prop} {ρ : RMap} {H : AHeap} {w w' : World} (h : Sim B ex ρ H w) (hs : ∀ (b : Nat) (C : Array Value) (e : TypeId) (fr : Nat × Nat), w.heap[b]? = some (Obj.cells C e fr) → w'.heap[b]? = w.heap[b]?) : Sim B ex ρ H w' :=
  h.of_cells (fun r row x hr hx i hi => by
    obtain ⟨_, v, hv, _⟩ := h.cells r row x hr hx i row.cells[i] (by simp [hi])
    obtain ⟨C, e, fr, hb⟩ := cells_of_cell hv
    exact World.cell?_of_block (w := w) (hs _ _ _ _ hb))
  (fun r row x hr ho hx hn => by
    obtain ⟨_, ⟨C, e, fr, hb, hc⟩, hf⟩ := (h.own r row x hr ho hx).2.2 hn
    have q := hs _ _ _ _ hb
    exact ⟨⟨C, e, fr, by rw [q]; exact hb, hc⟩, fun i hi => by rw [World.frozen?_of_block (w := w) q]; exact hf i hi⟩)

/-- What the next letter gives. -/
def letter (s : ByteArray) (pos : Nat) : AV :=
  if pos < s.size then .tuple [.bool true, .int .i64 pos, .int .i32 (Utf8.decode s pos).1] else .tuple [.bool false]
def further (s : ByteArray) (pos : Nat) : Nat := pos + (Utf8.decode s pos).2

theorem further_lt (s : ByteArray) (pos : Nat) : pos < further s pos := by
  unfold further
  have : 0 < (Utf8.decode s pos).2 := by
    unfold Utf8.decode
    simp only
    repeat' split
    all_goals (simp only; omega)
  omega

theorem run_next {P : Program} (w : World) (b : Nat) (s : ByteArray) (pos : Nat) (ty : TypeId) (h : w.heap[b]? = some (.stringIter s pos)) (hp : pos < s.size) :
    (Instr.next (.pointer (some ⟨b, 0, none⟩)) true ty).run P w = .ok (.tuple #[.bool true, .int .i64 pos, .int .i32 (Utf8.decode s pos).1]) { w with heap := w.heap.setIfInBounds b (.stringIter s (further s pos)) } := by
  simp [Instr.next, getObj, setObj, Sem.run, h, hp, goInt, further]
theorem run_over {P : Program} (w : World) (b : Nat) (s : ByteArray) (pos : Nat) (ty : TypeId) (h : w.heap[b]? = some (.stringIter s pos)) (hp : ¬ pos < s.size) :
    (Instr.next (.pointer (some ⟨b, 0, none⟩)) true ty).run P w = .ok (.tuple #[.bool false]) w := by
  simp [Instr.next, getObj, Sem.run, h, hp]

/-- A loop over the letters of a string, by its text. -/
def strPat (P : Program) (N : Nat) (a b : Code) : Option (List IStep × Opd × Nat × Nat × Nat × List IStep) :=
  match a, b with
  | .region _ opsA false, .block id (.loop (.seq (.region _ opsB false) _)) =>
    match opsA.toList.getLast?, opsB.toList with
    | some ⟨some it, .range t x, _, _, _, none⟩, ⟨some d, .next (.tmp it') true, _, _, _, none⟩ :: restB =>
      match P.underlying t with
      | some .string =>
        if it' = it ∧ it < N ∧ d < N ∧ d ≠ it then
          match (opsA.toList.dropLast).mapM (stepOf P N opsA), Opd.of x, restB.mapM (stepOf P N opsB) with
          | some A, some x, some B => some (A, x, it, id, d, B)
          | _, _, _ => none
        else none
      | _ => none
    | _, _ => none
  | _, _ => none

theorem strPat_spec {P : Program} {N : Nat} {a b : Code} {A B : List IStep} {x : Opd} {it id d : Nat} (h : strPat P N a b = some (A, x, it, id, d, B)) :
    ∃ r1 opsA r2 opsB rest LA RB X t ty pos af ty' pos' af', a = .region r1 opsA false ∧ b = .block id (.loop (.seq (.region r2 opsB false) rest)) ∧ opsA.toList = LA ++ [⟨some it, .range t X, ty, pos, af, none⟩] ∧
      opsB.toList = ⟨some d, .next (.tmp it) true, ty', pos', af', none⟩ :: RB ∧ P.underlying t = some .string ∧ it < N ∧ d < N ∧ d ≠ it ∧ LA.mapM (stepOf P N opsA) = some A ∧ Opd.of X = some x ∧ RB.mapM (stepOf P N opsB) = some B := by
  unfold strPat at h
  split at h
  · split at h
    · rename_i hlast hB
      split at h
      · rename_i hu
        split at h
        · rename_i hc
          split at h
          · rename_i hA hx hB'
            simp only [Option.some.injEq, Prod.mk.injEq] at h
            obtain ⟨rfl, rfl, rfl, rfl, rfl, rfl⟩ := h
            obtain ⟨rfl, h1, h2, h3⟩ := hc
            have hne := List.getLast?_eq_some_iff.1 hlast
            obtain ⟨ys, hys⟩ := hne
            refine ⟨_, _, _, _, _, ys, _, _, _, _, _, _, _, _, _, rfl, rfl, hys, hB, hu, h1, h2, h3, ?_, hx, hB'⟩
            rw [hys] at hA
            simpa using hA
          · cases h
        · cases h
      · cases h
    · cases h
  · cases h

section
variable {P : Program} {w0 : World} {ex : Nat → Prop} {N : Nat} {R0 : RMap}
/-- A region in the order of the text, with more behind. -/
theorem iops_tail {ops : Array Oper} {Q : Exit → Act → World → Prop} {K : St → AHeap → Prop} (tl : List Nat) (hK : ∀ s' H' ρ' a' w', K s' H' → Rel w0 ex N R0 ρ' s' H' a' w' → wpOps P ops Q tl a' w') :
    ∀ (l : List IStep) (k : Nat), (∀ j, (h : j < l.length) → ∃ o, ops[k + j]? = some o ∧ stepOf P N ops o = some l[j]) → ∀ (s : St) (H : AHeap) (ρ : RMap) (a : Act) (w : World), iops P l K s H → Rel w0 ex N R0 ρ s H a w →
      wpOps P ops Q (List.range' k l.length ++ tl) a w
  | [], k, _, s, H, ρ, a, w, h, rel => hK _ _ _ _ _ h rel
  | st :: l, k, hl, s, H, ρ, a, w, h, rel => by
    obtain ⟨o, ho, hst⟩ := hl 0 (by simp)
    simp only [Nat.add_zero, List.getElem_cons_zero] at ho hst
    simp only [List.length_cons, List.range'_succ, List.cons_append]
    have ih := fun s' H' ρ' a' w' h' rel' => iops_tail tl hK l (k + 1) (fun j hj => by
      obtain ⟨o', h1, h2⟩ := hl (j + 1) (by simp; omega)
      exact ⟨o', by rw [show k + 1 + j = k + (j + 1) by omega]; exact h1, by simpa using h2⟩) s' H' ρ' a' w' h' rel'
    have := istep_sound (Q := Q) rel hst h (next := wpOps P ops Q (List.range' (k + 1) l.length ++ tl)) ih
    simp only [wpOps, ho]
    split
    · rename_i hw; rw [if_pos hw] at this; exact .inl this
    · rename_i hw; rw [if_neg hw] at this; exact this

/-- The iterator is made. -/
theorem rel_range {ρ : RMap} {s : St} {H : AHeap} {a : Act} {w : World} (rel : Rel w0 ex N R0 ρ s H a w) {it : Nat} (hit : it < N) (str : ByteArray) :
    Rel w0 ex N R0 (ρ.put H.length ⟨w.heap.size, 0, 0⟩) (upd s it (.ptr H.length 0)) (H ++ [some ⟨false, false, []⟩]) (a.put (some it) (.pointer (some ⟨w.heap.size, 0, none⟩))) (w.iter str 0) := by
  have hs : Sim w0.heap.size ex ρ H (w.iter str 0) := rel.inv.sim.heap_same fun b C e fr hb => RowKit.Below.heap_alloc _ _ _ (Array.getElem?_eq_some_iff.1 hb).1
  have hn := rel.inv.sim.dom _ (Nat.le_refl H.length)
  have hsim := hs.push ⟨false, false, []⟩ ⟨w.heap.size, 0, 0⟩ (fun i c hc => by simp at hc) (fun h => by cases h) (fun r' row' x' _ _ h => by simp at h) (fun h => (h rfl).elim)
  exact rel.put (d := some it) (v := .ptr H.length 0) (RMap.le_put hn) ⟨hsim, rel.inv.frm.alloc rel.inv.hle _⟩ (by simpa using hit)
    (by simpa using VRel.ptr (ρ := ρ.put H.length ⟨w.heap.size, 0, 0⟩) H.length 0 ⟨w.heap.size, 0, 0⟩ RMap.put_same)

theorem iter_step {w : World} {b : Nat} {str : ByteArray} {pos : Nat} (h : w.heap[b]? = some (.stringIter str pos)) (ty : TypeId) :
    ∃ v w1 p', (Instr.next (.pointer (some ⟨b, 0, none⟩)) true ty).run P w = .ok v w1 ∧ (∀ ρ, VRel ρ (letter str pos) v) ∧ w1.os = w.os ∧ w1.tape = w.tape ∧ w1.output = w.output ∧ w1.heap.size = w.heap.size ∧
      (∀ k : Nat, k ≠ b → w1.heap[k]? = w.heap[k]?) ∧ w1.heap[b]? = some (.stringIter str p') ∧ (pos < str.size → p' = further str pos) := by
  have hb := (Array.getElem?_eq_some_iff.1 h).1
  by_cases hp : pos < str.size
  · refine ⟨_, _, further str pos, run_next w b str pos ty h hp, fun ρ => ?_, rfl, rfl, rfl, by simp, fun k hk => by simp [Array.getElem?_setIfInBounds, Ne.symm hk], by simp [hb], fun _ => rfl⟩
    unfold letter; rw [if_pos hp]
    exact .tuple _ _ (.cons _ _ _ _ (.bool _) (.cons _ _ _ _ (.int _ _) (.cons _ _ _ _ (.int _ _) .nil)))
  · refine ⟨_, w, pos, run_over w b str pos ty h hp, fun ρ => ?_, rfl, rfl, rfl, rfl, fun _ _ => rfl, h, fun h' => (hp h').elim⟩
    unfold letter; rw [if_neg hp]
    exact .tuple _ _ (.cons _ _ _ _ (.bool _) .nil)

/-- As if an activation began here. -/
theorem Rel.rebase {ρ : RMap} {s : St} {H : AHeap} {a : Act} {w : World} (rel : Rel w0 ex N R0 ρ s H a w) : Rel w (exOf ρ H) N ρ ρ s H a w :=
  ⟨⟨⟨rel.inv.sim.dom, rel.inv.sim.has, rel.inv.sim.cells, fun r row x h1 h2 h3 =>
    let ⟨a, b, c⟩ := rel.inv.sim.own r row x h1 h2 h3; ⟨a, b, fun hn => ⟨.inr ⟨r, row, x, h1, h2, h3, hn, rfl⟩, (c hn).2⟩⟩, rel.inv.sim.dist, rel.inv.sim.room⟩, Frm.refl⟩, rel.tmps, rel.size, rel.defers, RMap.le_refl _⟩

theorem Rel.back {ρ ρ' : RMap} {s s' : St} {H H' : AHeap} {a a' : Act} {w w' : World} (rel : Rel w0 ex N R0 ρ s H a w) (r : Rel w (exOf ρ H) N ρ ρ' s' H' a' w') : Rel w0 ex N R0 ρ' s' H' a' w' := by
  refine ⟨⟨r.inv.sim.weaken fun b hb => ?_, ?_⟩, r.tmps, r.size, r.defers, RMap.le_trans rel.base r.base⟩
  · rcases hb with hb | hb
    · exact .inl (Nat.le_trans rel.inv.hle hb)
    · exact exOf_sub rel.inv b hb
  · have h6 := r.inv.frm
    refine ⟨h6.os.trans rel.inv.frm.os, h6.tape.trans rel.inv.frm.tape, h6.output.trans rel.inv.frm.output, Nat.le_trans rel.inv.frm.size h6.size, fun k hk hne => ?_⟩
    have hk' : k < w.heap.size := Nat.lt_of_lt_of_le hk rel.inv.hle
    have : ¬ exOf ρ H k := fun hx => by
      rcases exOf_sub rel.inv k hx with h | h
      · omega
      · exact hne h
    exact (h6.block k hk' this).trans (rel.inv.frm.block k hk hne)

/-- The world turned at an iterator alone. -/
theorem Rel.turned {ρ : RMap} {s : St} {H : AHeap} {a : Act} {w w1 : World} (rel : Rel w0 ex N R0 ρ s H a w) {b : Nat} (hb : w0.heap.size ≤ b) {str : ByteArray} {pos : Nat} (hi : w.heap[b]? = some (.stringIter str pos))
    (h1 : w1.os = w.os) (h2 : w1.tape = w.tape) (h3 : w1.output = w.output) (h4 : w1.heap.size = w.heap.size) (h5 : ∀ k : Nat, k ≠ b → w1.heap[k]? = w.heap[k]?) : Rel w0 ex N R0 ρ s H a w1 := by
  refine ⟨⟨rel.inv.sim.heap_same fun k C e fr hk => h5 k ?_, ⟨h1.trans rel.inv.frm.os, h2.trans rel.inv.frm.tape, h3.trans rel.inv.frm.output, by rw [h4]; exact rel.inv.frm.size, fun k hk hne => ?_⟩⟩, rel.tmps, rel.size, rel.defers, rel.base⟩
  · rintro rfl; rw [hi] at hk; cases hk
  · rw [h5 k (by omega)]; exact rel.inv.frm.block k hk hne

theorem exOf_not_iter {ρ : RMap} {s : St} {H : AHeap} {a : Act} {w : World} (rel : Rel w0 ex N R0 ρ s H a w) {b : Nat} {str : ByteArray} {pos : Nat} (hi : w.heap[b]? = some (.stringIter str pos)) : ¬ exOf ρ H b := by
  rintro ⟨r, row, x, h1, h2, h3, h4, rfl⟩
  obtain ⟨_, ⟨C, e, fr, hc, _⟩, _⟩ := (rel.inv.sim.own r row x h1 h2 h3).2.2 h4
  rw [hi] at hc; cases hc
end
end Go.Vh
