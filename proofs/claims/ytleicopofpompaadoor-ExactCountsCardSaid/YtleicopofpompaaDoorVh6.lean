/- The operations that read or write the heap do what they mean on the virtual one. -/
import Derived.Test.YtleicopofpompaaDoorVh5
set_option linter.unusedSimpArgs false
set_option linter.unusedVariables false
namespace Go.Vh
open Go

/-- What an operation leaves. -/
def Does (P : Program) (a : Act) (o : Oper) (w0 : World) (ex : Nat → Prop) (ρ : RMap) (w : World) (v : AV) (H' : AHeap) (safe : Bool) : Prop :=
  ∃ v' w' ρ', ((execOp a.eval o).run P w = .ok (.value v') w' ∨ ((execOp a.eval o).run P w = .ok .skip w' ∧ v' = undef)) ∧ ρ.le ρ' ∧ VRel ρ' v v' ∧ Inv w0 ex ρ' H' w' ∧ w.heap.size ≤ w'.heap.size ∧
    (safe = true → ∀ k, k < w.heap.size → w'.heap[k]? = w.heap[k]?)

/-- What leaves every old block as it is. -/
def EOp.safe : EOp → Bool
  | .load1 _ | .loadN _ _ | .alloc _ | .box _ | .buildSlice _ _ _ | .makeSlice _ _ _ _ | .makeSliceN _ _ _ _ | .bytesToStr _ => true
  | _ => false

variable {P : Program} {a : Act} {ρ : RMap} {s : St} {w0 w : World} {ex : Nat → Prop} {H H' : AHeap}

theorem oneCell_of {c : AV} {v : Value} (hr : VRel ρ c v) (hc : c.cell = true) : v.oneCell' = true := by
  cases hr
  case lit => cases v <;> first | rfl | (simp [AV.cell] at hc; done)
  all_goals first | rfl | (simp [AV.cell] at hc; done)

theorem array_one (A : Array Value) (h : A.size = 1) : ∃ u, A = #[u] := by
  rcases A with ⟨l⟩
  match l, h with
  | [u], _ => exact ⟨u, rfl⟩

theorem oneCells_of : ∀ {l : List AV} {vs : List Value}, VRelL ρ l vs → l.all AV.cell = true → ∀ v ∈ vs, v.oneCell' = true
  | _, _, .nil, _, v, hv => by cases hv
  | _, _, .cons a x l vs h t, hc, v, hv => by
    simp only [List.all_cons, Bool.and_eq_true] at hc
    rcases List.mem_cons.1 hv with rfl | hv
    · exact oneCell_of h hc.1
    · exact oneCells_of t hc.2 v hv

theorem cells_of_parts {u : AV} {v : Value} (hr : VRel ρ u v) (hc : (aparts u).all AV.cell = true) : VRelL ρ (aparts u) v.cells.toList := by
  have one : ∀ {u : AV} {v : Value}, VRel ρ u v → u.cell = true → VRelL ρ [u] v.cells.toList := fun {u v} hr hc => by
    have h1 := oneCell_of hr hc
    have : v.cells = #[v] := by cases v <;> first | rfl | (simp [Value.oneCell'] at h1)
    rw [this]
    exact .cons _ _ _ _ hr .nil
  cases u
  case agg l =>
    obtain ⟨cs, rfl, h⟩ := hr.agg_inv
    exact h
  all_goals
    simp only [aparts, List.all_cons, List.all_nil, Bool.and_true] at hc ⊢
    exact one hr hc

theorem cellsAt_spec {r off n l} (h : cellsAt H r off n = some l) : ∃ row, rowAt H r = some row ∧ off + n ≤ row.cells.length ∧ l = (row.cells.drop off).take n := by
  simp only [cellsAt, Option.bind_eq_some_iff] at h
  obtain ⟨row, h1, h2⟩ := h
  split at h2
  · simp only [Option.some.injEq] at h2; exact ⟨row, h1, ‹_›, h2.symm⟩
  · cases h2

/-- The cells of a row, read. -/
theorem Sim.read {B} (h : Sim B ex ρ H w) {r row x off n} (hr : rowAt H r = some row) (hx : ρ r = some x) (hle : off + n ≤ row.cells.length) :
    ∃ vs : List Value, vs.length = n ∧ VRelL ρ ((row.cells.drop off).take n) vs ∧ (((row.cells.drop off).take n).all AV.cell = true) ∧ ∀ j v, vs[j]? = some v → w.cell? ((⟨x.b, x.d + off, none⟩ : Addr).add j) = some v := by
  induction n generalizing off with
  | zero => exact ⟨[], rfl, by simp; exact .nil, by simp, fun j v hj => by simp at hj⟩
  | succ n ih =>
    obtain ⟨vs, h1, h2, h3, h4⟩ := ih (off := off + 1) (by omega)
    obtain ⟨hc, v, hv, hrv⟩ := h.cells r row x hr hx off row.cells[off] (by simp)
    have hd : row.cells.drop off = row.cells[off] :: row.cells.drop (off + 1) := List.drop_eq_getElem_cons (by omega)
    refine ⟨v :: vs, by simp [h1], ?_, ?_, fun j u hj => ?_⟩
    · rw [hd, List.take_succ_cons]; exact .cons _ _ _ _ hrv h2
    · rw [hd, List.take_succ_cons]; simp [hc]; simpa using h3
    · cases j with
      | zero =>
        simp at hj; subst hj
        rw [Addr.add_eq]; exact hv
      | succ j =>
        have := h4 j u (by simpa using hj)
        rw [Addr.add_eq] at this ⊢
        rw [show x.d + off + (j + 1) = x.d + (off + 1) + j by omega]; exact this

theorem Inv.hle (inv : Inv w0 ex ρ H w) : w0.heap.size ≤ w.heap.size := inv.frm.size

theorem Frm.alloc {B} (h : Frm B ex w0 w) (hB : B ≤ w.heap.size) (o : Obj) : Frm B ex w0 (w.alloc o) :=
  h.trans ⟨rfl, rfl, rfl, by simp, fun k hk _ => RowKit.Below.heap_alloc _ _ _ (by omega)⟩
theorem Frm.drew {B} (h : Frm B ex w0 w) : Frm B ex w0 w.drew := ⟨h.os, h.tape, h.output, h.size, h.block⟩
theorem Frm.setCells {B} (h : Frm B ex w0 w) {b : Nat} (hb : B ≤ b ∨ ex b) (o : Nat) (vs : List Value) : Frm B ex w0 (w.setCells b o vs) := by
  obtain ⟨h1, h2, h3⟩ := os_setCells b vs o w
  refine h.trans ⟨h1, h2, h3, by rw [size_setCells]; exact Nat.le_refl _, fun k hk hne => heap_setCells _ _ _ _ _ (fun e => ?_)⟩
  subst e
  rcases hb with hb | hb
  · omega
  · exact hne hb

/-- A new block, for the invariant. -/
theorem Inv.alloc (inv : Inv w0 ex ρ H w) (slack : Bool) {cells : List AV} (C : Array Value) (e : TypeId) (hcell : cells.all AV.cell = true) (hrel : VRelL ρ cells (C.toList.take cells.length)) (hs : slack = false → cells.length = C.size) :
    Inv w0 ex (ρ.put H.length ⟨w.heap.size, 0, C.size⟩) (H ++ [some ⟨true, slack, cells⟩]) (w.alloc (.cells C e)) ∧ ρ.le (ρ.put H.length ⟨w.heap.size, 0, C.size⟩) :=
  ⟨⟨inv.sim.alloc inv.hle slack cells C e (fun c hc => (List.all_eq_true.1 hcell) c hc) hrel hs, inv.frm.alloc inv.hle _⟩, RMap.le_put (inv.sim.dom _ (Nat.le_refl _))⟩

theorem anew_spec {slack cells} (h : anew H slack cells = some H') : cells.all AV.cell = true ∧ H' = H ++ [some ⟨true, slack, cells⟩] := by
  unfold anew at h
  split at h
  · simp only [Option.some.injEq] at h; exact ⟨‹_›, h.symm⟩
  · cases h

theorem aput_spec {r off cs} (h : aput H r off cs = some H') : ∃ row, rowAt H r = some row ∧ row.own = true ∧ off + cs.length ≤ row.cells.length ∧ cs.all AV.cell = true ∧ H' = H.set r (some { row with cells := splice row.cells off cs }) := by
  simp only [aput, Option.bind_eq_some_iff] at h
  obtain ⟨row, h1, h2⟩ := h
  split at h2
  · rename_i hc
    simp only [Option.some.injEq] at h2
    exact ⟨row, h1, hc.1, hc.2.1, hc.2.2, h2.symm⟩
  · cases h2

/-- Cells of an own row, written, for the invariant. -/
theorem Inv.write (inv : Inv w0 ex ρ H w) {r row x off} {cs : List AV} {vs : List Value} (hr : rowAt H r = some row) (ho : row.own = true) (hx : ρ r = some x) (hle : off + cs.length ≤ row.cells.length) (hc : cs.all AV.cell = true) (hrel : VRelL ρ cs vs) :
    Inv w0 ex ρ (H.set r (some { row with cells := splice row.cells off cs })) (w.setCells x.b (x.d + off) vs) ∧
      (∀ j, j < vs.length → (w.cell? ⟨x.b, x.d + off + j, none⟩).isSome = true) ∧ (∀ j, j < vs.length → w.frozen? ⟨x.b, x.d + off + j, none⟩ = false) := by
  have hlen := VRelL.length hrel
  obtain ⟨o1, o2, o3⟩ := inv.sim.own r row x hr ho hx
  refine ⟨⟨inv.sim.write hr ho hx off cs vs (fun c hm => (List.all_eq_true.1 hc) c hm) hrel hle, ?_⟩, fun j hj => ?_, fun j hj => ?_⟩
  · by_cases hv : vs = []
    · subst hv; exact inv.frm
    · have : 0 < vs.length := List.length_pos_iff.2 hv
      exact inv.frm.setCells ((o3 (by omega)).1) _ _
  · obtain ⟨_, v, hv, _⟩ := inv.sim.cells r row x hr hx (off + j) row.cells[off + j] (by simp)
    rw [Nat.add_assoc, hv]; rfl
  · exact (o3 (by omega)).2.2 _ (by omega)

variable {dst : Option Nat} {ty : TypeId} {pos : String} {af : Array Edge} {g : Option (Nat × Bool)} {v : AV}

theorem does_load (inv : Inv w0 ex ρ H w) (hs : SRel ρ s a) {t x e} (hc : effOf P (.load t x) = some e) (h : ieff e s H = some (v, H')) :
    H' = H ∧ ∃ v', VRel ρ v v' ∧ (execOp a.eval ⟨dst, .load t x, ty, pos, af, g⟩).run P w = .ok (.value v') w := by
  simp only [effOf, Option.bind_eq_bind, Option.bind_eq_some_iff] at hc
  obtain ⟨x', hx', hc⟩ := hc
  have rx := evo_rel hs hx'
  split at hc
  · rename_i d n hd hn
    simp only [Option.some.injEq] at hc; subst hc
    split at h
    · rename_i hagg
      simp only [ieff] at h
      split at h
      · rename_i r off e; rw [e] at rx
        simp only [Option.map_eq_some_iff, Prod.mk.injEq] at h
        obtain ⟨l, hl, rfl, rfl⟩ := h
        refine ⟨rfl, ?_⟩
        obtain ⟨y, hy, hv⟩ := rx.ptr_inv
        obtain ⟨row, hr, hle, rfl⟩ := cellsAt_spec hl
        obtain ⟨vs, k1, k2, k3, k4⟩ := inv.sim.read hr hy hle
        refine ⟨.agg vs.toArray, .agg _ _ (by simpa using k2), ?_⟩
        have hl := run_loadCells_list (P := P) w ⟨y.b, y.d + off, none⟩ vs k4
        rw [k1] at hl
        simp [execOp, hv, Instr.loadAt, Instr.sureAddr, loadVar, run_isAgg hd, hagg, run_size hn, hl]
      · cases h
    · rename_i hagg
      simp only [ieff] at h
      split at h
      · rename_i r off e; rw [e] at rx
        simp only [Option.map_eq_some_iff, Option.bind_eq_some_iff, Prod.mk.injEq] at h
        obtain ⟨c, ⟨row, hr, hcell⟩, rfl, rfl⟩ := h
        refine ⟨rfl, ?_⟩
        obtain ⟨y, hy, hv⟩ := rx.ptr_inv
        obtain ⟨_, u, hu, hru⟩ := inv.sim.cells r row y hr hy off c hcell
        refine ⟨u, hru, ?_⟩
        simp [execOp, hv, Instr.loadAt, Instr.sureAddr, loadVar, run_isAgg hd, hagg, run_load, hu]
      · cases h
  · cases hc

theorem zipRel_const (l : List Value) : VRelL ρ (l.map AV.const1) l := VRelL.const1 l

theorem does_alloc (inv : Inv w0 ex ρ H w) {t e} (hc : effOf P (.alloc t) = some e) (h : ieff e s H = some (v, H')) : Does P a ⟨dst, .alloc t, ty, pos, af, g⟩ w0 ex ρ w v H' e.safe := by
  simp only [effOf] at hc
  split at hc
  · rename_i ti hti
    simp only [Option.map_eq_some_iff] at hc
    obtain ⟨z, hz, rfl⟩ := hc
    simp only [ieff, Option.map_eq_some_iff, Prod.mk.injEq] at h
    obtain ⟨H1, h1, rfl, rfl⟩ := h
    obtain ⟨k1, rfl⟩ := anew_spec h1
    obtain ⟨i1, i2⟩ := inv.alloc false z.cells t k1 (by simp [List.take_of_length_le]; exact VRelL.const1 _) (by simp)
    have hp := VRel.ptr (ρ := ρ.put H.length ⟨w.heap.size, 0, z.cells.size⟩) H.length 0 ⟨w.heap.size, 0, z.cells.size⟩ RMap.put_same
    refine ⟨.pointer (some ⟨w.heap.size, 0, none⟩), w.alloc (.cells z.cells t), _, .inl ?_, i2, hp, i1, by simp, fun _ k hk => RowKit.Below.heap_alloc _ _ _ hk⟩
    simp [execOp, Instr.alloc, zeroValue, typeInfo, hti, hz, newVar, newRow]
  · cases hc

theorem does_box (inv : Inv w0 ex ρ H w) (hs : SRel ρ s a) {t x e} (hc : effOf P (.box t x) = some e) (h : ieff e s H = some (v, H')) : Does P a ⟨dst, .box t x, ty, pos, af, g⟩ w0 ex ρ w v H' e.safe := by
  simp only [effOf, Option.map_eq_some_iff] at hc
  obtain ⟨x', hx', rfl⟩ := hc
  have rx := evo_rel hs hx'
  simp only [ieff, Option.map_eq_some_iff, Prod.mk.injEq] at h
  obtain ⟨H1, h1, rfl, rfl⟩ := h
  obtain ⟨k1, rfl⟩ := anew_spec h1
  have hr := cells_of_parts rx k1
  have hl := VRelL.length hr
  obtain ⟨i1, i2⟩ := inv.alloc false (a.eval x).cells t k1 (by rw [List.take_of_length_le (by simp [hl])]; exact hr) (by simp [hl])
  have hp := VRel.ptr (ρ := ρ.put H.length ⟨w.heap.size, 0, (a.eval x).cells.size⟩) H.length 0 ⟨w.heap.size, 0, (a.eval x).cells.size⟩ RMap.put_same
  refine ⟨.pointer (some ⟨w.heap.size, 0, none⟩), w.alloc (.cells (a.eval x).cells t), _, .inl ?_, i2, hp, i1, by simp, fun _ k hk => RowKit.Below.heap_alloc _ _ _ hk⟩
  simp [execOp, Instr.box, newVar, newRow]

theorem does_store (inv : Inv w0 ex ρ H w) (hs : SRel ρ s a) {t x y e} (hc : effOf P (.store t x y) = some e) (h : ieff e s H = some (v, H')) : Does P a ⟨dst, .store t x y, ty, pos, af, g⟩ w0 ex ρ w v H' e.safe := by
  simp only [effOf, Option.bind_eq_bind, Option.bind_eq_some_iff] at hc
  obtain ⟨x', hx', y', hy', hc⟩ := hc
  have rx := evo_rel hs hx'
  have ry := evo_rel hs hy'
  split at hc
  · rename_i n hn
    simp only [Option.some.injEq] at hc; subst hc
    simp only [ieff] at h
    split at h
    · rename_i r off e; rw [e] at rx
      split at h
      · rename_i hlen
        simp only [Option.map_eq_some_iff, Prod.mk.injEq] at h
        obtain ⟨H1, h1, rfl, rfl⟩ := h
        obtain ⟨row, k1, k2, k3, k4, rfl⟩ := aput_spec h1
        obtain ⟨z, hz, hv⟩ := rx.ptr_inv
        have hr := cells_of_parts ry k4
        have hl := VRelL.length hr
        obtain ⟨i1, i2, i3⟩ := inv.write k1 k2 hz k3 k4 hr
        refine ⟨undef, _, ρ, .inr ⟨?_, rfl⟩, RMap.le_refl _, .any _, i1, by rw [size_setCells]; exact Nat.le_refl _, fun h => by cases h⟩
        have hst := run_storeCells_cells (P := P) z.b (z.d + off) (a.eval y).cells.toList 0 w (by simpa using i2) (by simpa using i3) (oneCells_of hr k4)
        have hsz : (a.eval y).cells.size = n := by rw [← hlen, hl]; simp
        simp only [Nat.add_zero] at hst
        simp [execOp, hv, Instr.storeAt, Instr.sureAddr, storeVar, run_size hn, hsz, hst]
      · cases h
    · cases h
  · cases hc

theorem replicate_rel {z : AV} {u : Value} (h : VRel ρ z u) : ∀ n, VRelL ρ (List.replicate n z) (List.replicate n u)
  | 0 => .nil
  | n + 1 => by rw [List.replicate_succ, List.replicate_succ]; exact .cons _ _ _ _ h (replicate_rel h n)

theorem madeCells_one (u : Value) (n : Nat) : (madeCells #[u] n).toList = List.replicate n u := by
  apply List.ext_getElem
  · simp [madeCells]
  · intro i h1 h2
    simp [madeCells, Nat.mod_one]

theorem madeCells_many (z : Array Value) (h : 0 < z.size) : ∀ n, (madeCells z (n * z.size)).toList = (List.replicate n z.toList).flatten
  | 0 => by simp [madeCells]
  | n + 1 => by
    rw [List.replicate_succ', List.flatten_concat, ← madeCells_many z h n]
    apply List.ext_getElem
    · simp [madeCells, Nat.succ_mul]
    · intro i h1 h2
      simp only [madeCells, Array.toList_map, Array.toList_range, List.length_map, List.length_range] at h1
      rw [List.getElem_append]
      by_cases hi : i < n * z.size
      · rw [dif_pos (by simpa [madeCells] using hi)]
        simp [madeCells]
      · rw [dif_neg (by simpa [madeCells] using hi)]
        simp only [madeCells, Array.toList_map, Array.toList_range, List.getElem_map, List.getElem_range, List.length_map, List.length_range]
        have e : i % z.size = i - n * z.size := by
          rw [Nat.succ_mul] at h1
          rw [← Nat.mod_eq_of_lt (show i - n * z.size < z.size by omega)]
          conv => lhs; rw [show i = (i - n * z.size) + n * z.size by omega]
          exact Nat.add_mul_mod_self_right _ _ _
        have hlt : i - n * z.size < z.size := by rw [Nat.succ_mul] at h1; omega
        rw [e, getElem!_pos z _ hlt]
        simp

theorem flatten_rel {zs : List AV} {us : List Value} (h : VRelL ρ zs us) : ∀ n, VRelL ρ (List.replicate n zs).flatten (List.replicate n us).flatten
  | 0 => .nil
  | n + 1 => by
    rw [List.replicate_succ, List.replicate_succ, List.flatten_cons, List.flatten_cons]
    exact h.append (flatten_rel h n)

theorem does_make (inv : Inv w0 ex ρ H w) (hs : SRel ρ s a) {t x y e} (hc : effOf P (.makeSlice t x y) = some e) (h : ieff e s H = some (v, H')) : Does P a ⟨dst, .makeSlice t x y, ty, pos, af, g⟩ w0 ex ρ w v H' e.safe := by
  simp only [effOf, Option.bind_eq_bind, Option.bind_eq_some_iff] at hc
  obtain ⟨x', hx', y', hy', hc⟩ := hc
  have rx := evo_rel hs hx'
  have ry := evo_rel hs hy'
  split at hc
  · rename_i el hu
    split at hc
    · rename_i ti hti
      split at hc
      · rename_i z hz
        split at hc
        · rename_i h1
          obtain ⟨hsz, hzc⟩ := h1
          simp only [Option.some.injEq] at hc; subst hc
          simp only [ieff] at h
          split at h
          · rename_i kl l kc c e1 e2
            rw [e1] at rx; rw [e2] at ry
            split at h
            · rename_i hb
              obtain ⟨b1, b2, b3, b4⟩ := hb
              simp only [Option.map_eq_some_iff, Prod.mk.injEq] at h
              obtain ⟨H1, h1, rfl, rfl⟩ := h
              obtain ⟨k1, rfl⟩ := anew_spec h1
              obtain ⟨u, hu1⟩ := array_one _ hzc
              have hmk := run_make (P := P) w t el ti z hu hti hz kl kc l c b1 b2 b3 b4
              have hM : (madeCells z.cells (c.toNat * ti.size)).toList = List.replicate c.toNat u := by rw [hu1, hsz, Nat.mul_one, madeCells_one]
              have hzz : AV.const1 (z.cells.getD 0 z) = AV.const1 u := by rw [hu1]; rfl
              have hrel : VRelL ρ (List.replicate c.toNat (AV.const1 (z.cells.getD 0 z))) (madeCells z.cells (c.toNat * ti.size)).toList := by
                rw [hM, hzz]; exact replicate_rel (VRel.const1 u) _
              have hl := VRelL.length hrel
              obtain ⟨i1, i2⟩ := inv.alloc false (madeCells z.cells (c.toNat * ti.size)) el k1 (by rw [hl, List.take_length]; exact hrel) (fun _ => by rw [hl]; simp)
              have hp := VRel.slice (ρ := ρ.put H.length ⟨w.heap.size, 0, (madeCells z.cells (c.toNat * ti.size)).size⟩) H.length 0 l.toNat c.toNat ⟨w.heap.size, 0, (madeCells z.cells (c.toNat * ti.size)).size⟩ RMap.put_same (by omega)
              refine ⟨.slice (some ⟨w.heap.size, 0, none⟩) l.toNat c.toNat, _, _, .inl ?_, i2, hp, i1, by simp, fun _ k hk => RowKit.Below.heap_alloc _ _ _ hk⟩
              simp [execOp, rx.int_inv, ry.int_inv, hmk]
            · cases h
          · cases h
        · split at hc
          · rename_i h1
            obtain ⟨hsz, hpos⟩ := h1
            simp only [Option.some.injEq] at hc; subst hc
            simp only [ieff] at h
            split at h
            · rename_i kl l kc c e1 e2
              rw [e1] at rx; rw [e2] at ry
              split at h
              · rename_i hb
                obtain ⟨b1, b2, b3, b4⟩ := hb
                simp only [Option.map_eq_some_iff, Prod.mk.injEq] at h
                obtain ⟨H1, h1, rfl, rfl⟩ := h
                obtain ⟨k1, rfl⟩ := anew_spec h1
                have hmk := run_make (P := P) w t el ti z hu hti hz kl kc l c b1 b2 b3 b4
                have hM : (madeCells z.cells (c.toNat * ti.size)).toList = (List.replicate c.toNat z.cells.toList).flatten := by rw [hsz]; exact madeCells_many _ (by omega) _
                have hrel : VRelL ρ (List.replicate c.toNat (z.cells.toList.map AV.const1)).flatten (madeCells z.cells (c.toNat * ti.size)).toList := by
                  rw [hM]; exact flatten_rel (VRelL.const1 _) _
                have hl := VRelL.length hrel
                obtain ⟨i1, i2⟩ := inv.alloc false (madeCells z.cells (c.toNat * ti.size)) el k1 (by rw [hl, List.take_length]; exact hrel) (fun _ => by rw [hl]; simp)
                have hp := VRel.slice (ρ := ρ.put H.length ⟨w.heap.size, 0, (madeCells z.cells (c.toNat * ti.size)).size⟩) H.length 0 l.toNat c.toNat ⟨w.heap.size, 0, (madeCells z.cells (c.toNat * ti.size)).size⟩ RMap.put_same (by omega)
                refine ⟨.slice (some ⟨w.heap.size, 0, none⟩) l.toNat c.toNat, _, _, .inl ?_, i2, hp, i1, by simp, fun _ k hk => RowKit.Below.heap_alloc _ _ _ hk⟩
                simp [execOp, rx.int_inv, ry.int_inv, hmk]
              · cases h
            · cases h
          · cases hc
      · cases hc
    · cases hc
  · cases hc
end Go.Vh
