/- Composite values, and copy. -/
import Derived.Test.YthbhljolpnbdlaaV2
import Derived.Deep.LoopGhost
import Derived.OrdersHeld
set_option linter.unusedSimpArgs false
set_option linter.unusedVariables false
namespace Go.Vh
open Go

variable {P : Program} {a : Act} {ρ : RMap} {s : St} {w0 w : World} {ex : Nat → Prop} {H H' : AHeap}

theorem fold_set (off : Nat) : ∀ (vs : List Value) (k : Nat) (C : Array Value), off + k + vs.length ≤ C.size →
    ((vs.zipIdx k).foldl (fun cs (p : Value × Nat) => cs.setIfInBounds (off + p.2) p.1) C).toList = C.toList.take (off + k) ++ vs ++ C.toList.drop (off + k + vs.length)
  | [], k, C, _ => by simp
  | v :: vs, k, C, h => by
    simp only [List.zipIdx_cons, List.foldl_cons]
    simp only [List.length_cons] at h
    rw [fold_set off vs (k + 1) _ (by simp; omega)]
    simp only [Array.toList_setIfInBounds, List.length_cons]
    have h1 : off + k < C.toList.length := by simp; omega
    rw [List.take_set, List.drop_set]
    simp only [show off + (k + 1) = off + k + 1 by omega]
    rw [if_pos (by omega), List.take_succ_eq_append_getElem h1, List.set_append_right _ _ (by simp; omega)]
    have hm : off + k - min (off + k) C.size = 0 := by omega
    simp [hm, Nat.add_assoc, Nat.add_comm 1 vs.length]

theorem VRelL.splice {l : List AV} {C : List Value} (h : VRelL ρ l C) {cs : List AV} {vs : List Value} (h' : VRelL ρ cs vs) (off : Nat) :
    VRelL ρ (l.take off ++ cs ++ l.drop (off + cs.length)) (C.take off ++ vs ++ C.drop (off + vs.length)) := by
  rw [← VRelL.length h']
  exact ((h.take off).append h').append (h.drop _)

/-- The parts of a composite value, each at its place. -/
inductive Parts (ρ : RMap) (place : Nat → Option (Nat × Nat)) : List (Nat × Nat × AV) → List (Nat × Value) → Prop
  | nil : Parts ρ place [] []
  | cons (i off n u v l l') : place i = some (off, n) → VRel ρ u v → Parts ρ place l l' → Parts ρ place ((off, n, u) :: l) ((i, v) :: l')

theorem fill_ok {place : Nat → Option (Nat × Nat)} : ∀ {ps : List (Nat × Nat × AV)} {ps' : List (Nat × Value)}, Parts ρ place ps ps' → ∀ {cs l : List AV} {C : Array Value}, VRelL ρ cs C.toList → afill cs ps = some l →
    ∃ C', Instr.fill place C ps' = some C' ∧ VRelL ρ l C'.toList ∧ C'.size = C.size
  | _, _, .nil, cs, l, C, hr, h => by
    simp only [afill, Option.some.injEq] at h; subst h
    exact ⟨C, rfl, hr, rfl⟩
  | _, _, .cons i off n u v ps ps' hp hv ht, cs, l, C, hr, h => by
    simp only [afill] at h
    split at h
    · rename_i hc
      obtain ⟨h1, h2, h3⟩ := hc
      have hrel := cells_of_parts hv h3
      have hl := VRelL.length hrel
      have hlC := VRelL.length hr
      simp only [Array.length_toList] at hl hlC
      have hf := fold_set off v.cells.toList 0 C (by simp; omega)
      have hspl := hr.splice hrel off
      rw [h1] at hspl
      obtain ⟨C', k1, k2, k3⟩ := fill_ok ht (C := (v.cells.zipIdx.foldl (fun cs (p : Value × Nat) => cs.setIfInBounds (off + p.2) p.1) C)) (by
        rw [← Array.foldl_toList, Array.toList_zipIdx, hf]
        simp only [Nat.add_zero, Array.length_toList, ← hl, h1] at hspl ⊢
        exact hspl) h
      have hsz : (v.cells.zipIdx.foldl (fun cs (p : Value × Nat) => cs.setIfInBounds (off + p.2) p.1) C).size = C.size := by
        have := congrArg List.length hf
        rw [← Array.foldl_toList, Array.toList_zipIdx]
        simp only [Nat.add_zero, List.length_append, List.length_take, List.length_drop, Array.length_toList] at this
        omega
      refine ⟨C', ?_, k2, by omega⟩
      rw [Instr.fill]
      simp only [hp]
      rw [if_neg (by simp only [Bool.or_eq_true, decide_eq_true_eq]; omega)]
      exact k1
    · cases h

def placesOf (P : Program) (t : TypeId) : Option (List (Nat × Nat)) :=
  match P.underlying t with
  | some (.struct fs) => fs.toList.mapM fun f => (sizeA P f.type).map fun n => (f.offset, n)
  | _ => none

def partsOf (place : Nat → Option (Nat × Nat)) : List (Nat × Operand) → Option (List (Nat × Nat × Opd))
  | [] => some []
  | (i, x) :: l => match place i, Opd.of x, partsOf place l with
    | some (off, n), some x, some r => some ((off, n, x) :: r)
    | _, _, _ => none

theorem parts_rel (hs : SRel ρ s a) {place : Nat → Option (Nat × Nat)} : ∀ {l : List (Nat × Operand)} {r : List (Nat × Nat × Opd)}, partsOf place l = some r →
    Parts ρ place (r.map fun (o, n, x) => (o, n, evo s x)) (l.map fun (i, x) => (i, a.eval x))
  | [], r, h => by simp only [partsOf, Option.some.injEq] at h; subst h; exact .nil
  | (i, x) :: l, r, h => by
    simp only [partsOf] at h
    split at h
    · rename_i off n y r' h1 h2 h3
      simp only [Option.some.injEq] at h; subst h
      exact .cons _ _ _ _ _ _ _ h1 (evo_rel hs h2) (parts_rel hs h3)
    · cases h

theorem run_places {fs : List Field} : ∀ {pl : List (Nat × Nat)}, (fs.mapM fun f => (sizeA P f.type).map fun n => (f.offset, n)) = some pl →
    ∀ w, (fs.mapM (m := Sem) fun f => Prod.mk f.offset <$> sizeOf f.type).run P w = .ok pl w := by
  induction fs with
  | nil => intro pl h w; simp at h; subst h; simp
  | cons f fs ih =>
    intro pl h w
    simp only [List.mapM_cons, Option.pure_def, Option.bind_eq_bind, Option.bind_eq_some_iff, Option.map_eq_some_iff] at h
    obtain ⟨p, ⟨n, hn, rfl⟩, ps, hps, e⟩ := h
    simp only [Option.some.injEq] at e; subst e
    simp [List.mapM_cons, run_size hn, ih hps]

/-- where the parts of a struct, or of an array, lie -/
def placeOf (P : Program) (t : TypeId) : Option (Nat → Option (Nat × Nat)) :=
  match P.underlying t with
  | some (.array _ e) => (sizeA P e).map fun n => fun i => some (i * n, n)
  | _ => (placesOf P t).map fun pl => fun i => pl[i]?
def buildOf (P : Program) (t : TypeId) (parts : Array (Nat × Operand)) : Option (List AV × List (Nat × Nat × Opd)) :=
  match P.info? t, placeOf P t with
  | some ti, some place => match ti.zero, partsOf place parts.toList with
    | some z, some ps => some (z.cells.toList.map AV.const1, ps)
    | _, _ => none
  | _, _ => none

variable {dst : Option Nat} {ty : TypeId} {pos : String} {af : Array Edge} {g : Option (Nat × Bool)} {v : AV}

theorem gives_build (hs : SRel ρ s a) {t parts zs ps} (hc : buildOf P t parts = some (zs, ps)) (h : ipure (.build zs ps) s = some v) : Gives P a ⟨dst, .build t parts, ty, pos, af, g⟩ ρ v := by
  unfold buildOf at hc
  split at hc
  · rename_i ti pl hti hpl
    split at hc
    · rename_i z qs hz hqs
      simp only [Option.some.injEq, Prod.mk.injEq] at hc
      obtain ⟨rfl, rfl⟩ := hc
      simp only [ipure, Option.map_eq_some_iff] at h
      obtain ⟨l, hl, rfl⟩ := h
      obtain ⟨C', k1, k2, _⟩ := fill_ok (parts_rel hs hqs) (C := z.cells) (VRelL.const1 _) hl
      refine ⟨.agg C', .agg _ _ k2, fun w => ?_⟩
      have hparts : (parts.map fun (p : Nat × Operand) => (p.1, a.eval p.2)).toList = parts.toList.map fun (i, x) => (i, a.eval x) := by simp
      unfold placeOf at hpl
      split at hpl
      · rename_i n e hue
        simp only [Option.map_eq_some_iff] at hpl
        obtain ⟨n, hn, rfl⟩ := hpl
        simp only [execOp, Instr.build, zeroValue, typeInfo]
        simp [hti, hz, run_und hue, run_size hn]
        rw [show (fun x : Nat × Operand => (x.1, a.eval x.2)) = fun (i, x) => (i, a.eval x) from rfl, k1]
        simp
      · simp only [Option.map_eq_some_iff] at hpl
        obtain ⟨pl, hpl, rfl⟩ := hpl
        unfold placesOf at hpl
        split at hpl
        · rename_i fs hfs
          have hm : (fs.mapM (m := Sem) fun f => Prod.mk f.offset <$> sizeOf f.type).run P w = .ok pl.toArray w := by
            rw [Array.mapM_eq_mapM_toList, Sem.run_map, run_places hpl w]; rfl
          simp only [execOp, Instr.build, zeroValue, typeInfo]
          simp [hti, hz, run_und hfs, hm]
          rw [show (fun x : Nat × Operand => (x.1, a.eval x.2)) = fun (i, x) => (i, a.eval x) from rfl, k1]
          simp
        · cases hpl
    · cases hc
  · cases hc

def sliceOf (P : Program) (t : TypeId) (len : Nat) (parts : Array (Nat × Operand)) : Option EOp :=
  match P.underlying t with
  | some (.slice e) => match P.info? e with
    | some ti => match ti.zero, partsOf (fun i => some (i * ti.size, ti.size)) parts.toList with
      | some z, some ps => if len * ti.size ≤ 16777216 ∧ z.cells.size = ti.size then
          some (.buildSlice len (if len * ti.size = 0 then [] else (List.range (len * ti.size)).map fun i => AV.const1 (z.cells[i % z.cells.size]!)) ps) else none
      | _, _ => none
    | none => none
  | _ => none

theorem rel_map {α : Type} (f : α → AV) (f' : α → Value) (h : ∀ x, VRel ρ (f x) (f' x)) : ∀ l : List α, VRelL ρ (l.map f) (l.map f')
  | [] => .nil
  | x :: l => .cons _ _ _ _ (h x) (rel_map f f' h l)

theorem does_buildSlice (inv : Inv w0 ex ρ H w) (hs : SRel ρ s a) {t len parts e} (hc : sliceOf P t len parts = some e) (h : ieff e s H = some (v, H')) : Does P a ⟨dst, .buildSlice t len parts, ty, pos, af, g⟩ w0 ex ρ w v H' e.safe := by
  unfold sliceOf at hc
  split at hc
  · rename_i el hu
    split at hc
    · rename_i ti hti
      split at hc
      · rename_i z ps hz hps
        split at hc
        · rename_i hb
          simp only [Option.some.injEq] at hc; subst hc
          simp only [ieff, Option.bind_eq_some_iff, Option.map_eq_some_iff, Prod.mk.injEq] at h
          obtain ⟨l, hl, H1, h1, rfl, rfl⟩ := h
          obtain ⟨k1, rfl⟩ := anew_spec h1
          have hz0 : VRelL ρ (if len * ti.size = 0 then [] else (List.range (len * ti.size)).map fun i => AV.const1 (z.cells[i % z.cells.size]!)) (madeCells (if len * ti.size = 0 then #[] else z.cells) (len * ti.size)).toList := by
            split
            · rename_i h0; rw [h0]; simp [madeCells]; exact .nil
            · simp only [madeCells, Array.toList_map, Array.toList_range]
              exact rel_map _ _ (fun i => VRel.const1 _) _
          obtain ⟨C', j1, j2, j3⟩ := fill_ok (parts_rel hs hps) hz0 hl
          have hll := VRelL.length j2
          obtain ⟨i1, i2⟩ := inv.alloc false C' el k1 (by rw [hll, List.take_length]; exact j2) (fun _ => by rw [hll]; simp)
          have hp := VRel.slice (ρ := ρ.put H.length ⟨w.heap.size, 0, C'.size⟩) H.length 0 len len ⟨w.heap.size, 0, C'.size⟩ RMap.put_same (Nat.le_refl _)
          refine ⟨.slice (some ⟨w.heap.size, 0, none⟩) len len, _, _, .inl ?_, i2, hp, i1, by simp, fun _ k hk => RowKit.Below.heap_alloc _ _ _ hk⟩
          have hfill : Instr.fill (fun i => some (i * ti.size, ti.size)) (Array.map (fun x => (if len * ti.size = 0 then #[] else z.cells)[x % (if len * ti.size = 0 then #[] else z.cells).size]!) (Array.range (len * ti.size))) (parts.toList.map fun (x : Nat × Operand) => (x.1, a.eval x.2)) = some C' := j1
          have hsz := run_size (P := P) (t := el) (n := ti.size) (by simp [sizeA, hti])
          have hlt : ¬ (16777216 < len * ti.size) := by omega
          by_cases h0 : len * ti.size = 0
          · simp only [h0, if_true] at hfill
            simp [execOp, Instr.buildSlice, run_und hu, hsz, h0, newRow]
            simp at hfill
            rw [hfill]; simp
          · simp only [h0, if_false] at hfill
            simp [execOp, Instr.buildSlice, run_und hu, hsz, h0, hlt, zeroValue, typeInfo, hti, hz, newRow]
            rw [hfill]; simp
        · cases hc
      · cases hc
    · cases hc
  · cases hc

theorem run_copy {t u ty e : TypeId} {sz : Nat} (ht : P.underlying t = some (.slice e)) (hsz : sizeA P e = some sz)
    (b off n cap : Nat) (src : Option Addr) (m c : Nat) (news : List Value) (hfn : (Builtin.firstCells sz (min m n) (.slice src m c)).run P w = .ok news.toArray w)
    (h1 : ∀ u ∈ news, u.oneCell' = true) (hc : ∀ j, j < news.length → (w.cell? ⟨b, off + j, none⟩).isSome = true) (hf : ∀ j, j < news.length → w.frozen? ⟨b, off + j, none⟩ = false) :
    (Builtin.copy_ #[t, u] ty #[.slice (some ⟨b, off, none⟩) n cap, .slice src m c]).run P w = .ok (.int .i64 (min m n : Nat)) (w.setCells b off news) := by
  have hst := run_storeCells_cells (P := P) b off news 0 w (by simpa using hc) (by simpa using hf) h1
  simp only [Nat.add_zero] at hst
  have hm : Nat.min m n = min m n := rfl
  simp [Builtin.copy_, run_und ht, run_size hsz, Builtin.lenOf, hm, hfn, hst, goInt]

theorem run_copy_none {t u ty e : TypeId} {sz : Nat} (ht : P.underlying t = some (.slice e)) (hsz : sizeA P e = some sz)
    (base : Option Addr) (n cap : Nat) (src : Option Addr) (m c : Nat) (h0 : min m n = 0) :
    (Builtin.copy_ #[t, u] ty #[.slice base n cap, .slice src m c]).run P w = .ok (.int .i64 0) w := by
  have hm : Nat.min m n = 0 := h0
  cases base <;> cases src <;> simp [Builtin.copy_, run_und ht, run_size hsz, Builtin.lenOf, hm, Builtin.firstCells, loadCells, loadCellsFrom, storeCells, goInt]

theorem does_copy (inv : Inv w0 ex ρ H w) (hs : SRel ρ s a) {X Y : Operand} {t u e1 : TypeId} {x y : Opd} {sz : Nat} (hx : Opd.of X = some x) (hy : Opd.of Y = some y)
    (ht : P.underlying t = some (.slice e1)) (hsz : sizeA P e1 = some sz)
    (h : ieff (.copy sz x y) s H = some (v, H')) : Does P a ⟨dst, .call ⟨.builtin .copy, #[X, Y], #[t, u]⟩, ty, pos, af, g⟩ w0 ex ρ w v H' false := by
  have rx := evo_rel hs hx
  have ry := evo_rel hs hy
  have fin : ∀ {r w1}, (Builtin.copy_ #[t, u] ty #[a.eval X, a.eval Y]).run P w = .ok r w1 → VRel ρ v r → Inv w0 ex ρ H' w1 → w.heap.size ≤ w1.heap.size → Does P a ⟨dst, .call ⟨.builtin .copy, #[X, Y], #[t, u]⟩, ty, pos, af, g⟩ w0 ex ρ w v H' false := fun {r w1} hr hv hi hsz =>
    ⟨r, w1, ρ, .inl (by simp [execOp, resolve, invoke, builtin, hr]), RMap.le_refl _, hv, hi, hsz, fun h => by cases h⟩
  simp only [ieff] at h
  split at h
  case h_2 => cases h
  rename_i n m hn hm
  simp only [Option.bind_eq_some_iff] at h
  obtain ⟨xs, hxs, h⟩ := h
  obtain ⟨p, c, vs, hY, hrel, hlen, hcells, hfirst⟩ := src_ok (P := P) inv ry hxs hm
  have zero : ∀ {base k}, min m n = 0 → a.eval X = .slice base n k → v = .int .i64 0 → H' = H → Does P a ⟨dst, .call ⟨.builtin .copy, #[X, Y], #[t, u]⟩, ty, pos, af, g⟩ w0 ex ρ w v H' false := fun {base k} h0 hX hv hH => by
    subst hv; subst hH
    refine fin (r := .int .i64 0) ?_ (.int _ _) inv (Nat.le_refl _)
    rw [hX, hY, run_copy_none ht hsz base n k p m c h0]
  have put : ∀ {r off l k}, min m n ≠ 0 → ρ r = some l → a.eval X = .slice (some ⟨l.b, l.d + off, none⟩) n k → (aput H r off (xs.take (min m n * sz))).map (fun H' => (AV.int .i64 (min m n : Nat), H')) = some (v, H') →
      Does P a ⟨dst, .call ⟨.builtin .copy, #[X, Y], #[t, u]⟩, ty, pos, af, g⟩ w0 ex ρ w v H' false := fun {r off l k} h0 hl hX h => by
    simp only [Option.map_eq_some_iff, Prod.mk.injEq] at h
    obtain ⟨H1, h1, rfl, rfl⟩ := h
    obtain ⟨row, k1, k2, k3, k4, rfl⟩ := aput_spec h1
    have hrel' := hrel.take (min m n * sz)
    obtain ⟨i1, i2, i3⟩ := inv.write k1 k2 hl k3 k4 hrel'
    have hlt : min m n * sz ≤ m * sz := Nat.mul_le_mul_right _ (Nat.min_le_left _ _)
    have hf : (Builtin.firstCells sz (min m n) (.slice p m c)).run P w = .ok (vs.take (min m n * sz)).toArray w := by
      cases p with
      | none =>
        have hm0 : ∀ r2 off2 l2 v2, evo s y = .slice r2 off2 l2 v2 → True := fun _ _ _ _ _ => trivial
        have := hfirst w hcells
        simp only [Builtin.firstCells, Sem.run_pure] at this ⊢
        have hv : vs = [] := by
          have : (#[] : Array Value) = vs.toArray := by injection this
          simpa using congrArg Array.toList this.symm
        subst hv; simp
      | some b => exact run_firstCells_some w sz (min m n) b m c _ (by rw [List.length_take, hlen]; omega) (fun j v hj => hcells b j v rfl (by
          rw [List.getElem?_take] at hj
          split at hj
          · exact hj
          · cases hj))
    refine fin ?_ (.int _ _) i1 (by rw [size_setCells]; exact Nat.le_refl _)
    rw [hX, hY, run_copy ht hsz l.b (l.d + off) n k p m c _ hf (oneCells_of hrel' k4) (by simpa using i2) (by simpa using i3)]
  split at h
  · rename_i r off n' cap e0; rw [e0] at rx hn
    simp only [alen, Option.some.injEq] at hn; subst hn
    rcases rx.slice_inv with ⟨l, hl, hle, hX⟩ | ⟨k0, k1, q, hX⟩
    · split at h
      · rename_i h0
        simp only [Option.some.injEq, Prod.mk.injEq] at h
        exact zero h0 hX h.1.symm h.2.symm
      · exact put ‹_› hl hX h
    · subst k0
      rw [if_pos (by simp)] at h
      simp only [Option.some.injEq, Prod.mk.injEq] at h
      exact zero (by simp) hX h.1.symm h.2.symm
  · rename_i r off n' sz' e0; rw [e0] at rx hn
    simp only [alen, Option.some.injEq] at hn; subst hn
    rcases rx.sliceU_inv with ⟨l, k, hl, hle, hfit, hX⟩ | ⟨k0, q, hX⟩
    · split at h
      · rename_i h0
        simp only [Option.some.injEq, Prod.mk.injEq] at h
        exact zero h0 hX h.1.symm h.2.symm
      · split at h
        · exact put ‹_› hl hX h
        · cases h
    · subst k0
      rw [if_pos (by simp)] at h
      simp only [Option.some.injEq, Prod.mk.injEq] at h
      exact zero (by simp) hX h.1.symm h.2.symm
  · rename_i e0; rw [e0] at rx hn
    simp only [alen, Option.some.injEq] at hn; subst hn
    simp only [Option.some.injEq, Prod.mk.injEq] at h
    exact zero (by simp) rx.nilslice_inv h.1.symm h.2.symm
  · cases h

/-- An operation, for the virtual heap. -/
inductive IOp where
  | pure (p : POp)
  | eff (e : EOp)
  | call (f : Opd) (args : List Opd)
  deriving Inhabited

/-- A call of the assembly that looks for a byte in a string. -/
def isIdxByte (P : Program) (f : FuncId) : Bool := match P.funcs[f]? with
  | some fn => fn.body.isNone && fn.name == "internal/bytealg.IndexByteString" && (Extern.findNext fn).isNone
  | none => false
def extOf (P : Program) : Call → Option POp
  | ⟨.value (.func f), ⟨[x, y]⟩, _⟩ => if isIdxByte P f = true then (Opd.of x).bind fun x => (Opd.of y).map fun y => .idxByte x y else none
  | _ => none

theorem find_idxByte {fn : Func} (h : fn.name = "internal/bytealg.IndexByteString") : Extern.find fn = some Extern.BytealgIndexByte.indexByte := by
  have h1 : Extern.allGenericRows.lookup "internal/bytealg.IndexByteString" = none := by kernel_rfl
  have h2 : Extern.allTypedRows.lookup "internal/bytealg.IndexByteString" = none := by kernel_rfl
  have h3 : Extern.allRows.lookup "internal/bytealg.IndexByteString" = some Extern.BytealgIndexByte.indexByte := by kernel_rfl
  simp only [Extern.find, h, h1, h2, h3]
  rfl

theorem gives_ext {P : Program} {a : Act} {ρ : RMap} {s : St} {v : AV} {dst : Option Nat} {ty : TypeId} {pos : String} {af : Array Edge} {g : Option (Nat × Bool)} (hs : SRel ρ s a) {c : Call} {p : POp} (hc : extOf P c = some p) (h : ipure p s = some v) : Gives P a ⟨dst, .call c, ty, pos, af, g⟩ ρ v := by
  unfold extOf at hc
  split at hc
  · rename_i f X Y T
    split at hc
    · rename_i hf
      simp only [Option.bind_eq_some_iff, Option.map_eq_some_iff] at hc
      obtain ⟨x, hx, y, hy, rfl⟩ := hc
      have rx := evo_rel hs hx
      have ry := evo_rel hs hy
      simp only [ipure] at h
      split at h
      · rename_i b n hb hn
        rw [hb] at rx; rw [hn] at ry
        simp only [Option.some.injEq] at h; subst h
        refine ⟨_, .int _ _, fun w => ?_⟩
        unfold isIdxByte at hf
        split at hf
        · rename_i fn hfn
          simp only [Bool.and_eq_true, beq_iff_eq, Option.isNone_iff_eq_none] at hf
          obtain ⟨⟨h1, h2⟩, h3⟩ := hf
          have e := run_callFunc_extern (P := P) (f := f) hfn (by rw [h2]; rfl) (by simp [h1]) h3 (find_idxByte h2) #[.string b, .int .u8 n] w
          have q := run_indexByte_string (P := P) b n w
          have e0 : a.eval (.func f) = .func (.func f) #[] #[] := rfl
          simp [execOp, resolve, Deferred.ofValue, e0, invoke, rx.str_inv, ry.int_inv, e, q, Result.andThen]
        · cases hf
      · cases h
    · cases hc
  · cases hc

def opOf (P : Program) (o : Op) : Option IOp :=
  match o with
  | .build t parts => (buildOf P t parts).map fun x => .pure (.build x.1 x.2)
  | .buildSlice t len parts => (sliceOf P t len parts).map .eff
  | .call c => match extOf P c with
    | some p => some (.pure p)
    | none => match c.callee with
      | .value f => match Opd.of f, opds c.args.toList with
        | some f, some l => some (.call f l)
        | _, _ => none
      | _ => match pureOf P (.call c) with
        | some p => some (.pure p)
        | none => match effOf P (.call c) with
          | some e => some (.eff e)
          | none => some (.pure .stuck)
  | o => match pureOf P o with
    | some p => some (.pure p)
    | none => match effOf P o with
      | some e => some (.eff e)
      | none => some (.pure .stuck)

theorem gives_of_op (hs : SRel ρ s a) {o : Oper} {p : POp} (hc : opOf P o.op = some (.pure p)) (h : ipure p s = some v) : Gives P a o ρ v := by
  obtain ⟨dst, op, ty, pos, af, g⟩ := o
  simp only at hc
  have base : ∀ op, (match pureOf P op with | some p => some (IOp.pure p) | none => match effOf P op with | some e => some (.eff e) | none => some (.pure .stuck)) = some (.pure p) → pureOf P op = some p := fun op hc => by
    split at hc
    · simp only [Option.some.injEq, IOp.pure.injEq] at hc; subst hc; assumption
    · split at hc
      · cases hc
      · simp only [Option.some.injEq, IOp.pure.injEq] at hc; subst hc; simp [ipure] at h
  cases op
  case build t parts =>
    simp only [opOf, Option.map_eq_some_iff] at hc
    obtain ⟨⟨zs, ps⟩, h1, h2⟩ := hc
    simp only [IOp.pure.injEq] at h2; subst h2
    exact gives_build hs h1 h
  case buildSlice t len parts =>
    simp only [opOf, Option.map_eq_some_iff] at hc
    obtain ⟨_, _, e⟩ := hc; cases e
  case call c =>
    simp only [opOf] at hc
    split at hc
    · rename_i p' hp'
      simp only [Option.some.injEq, IOp.pure.injEq] at hc; subst hc
      exact gives_ext hs hp' h
    · split at hc
      · split at hc <;> cases hc
      · exact pure_sound hs (base _ hc) h
  all_goals exact pure_sound hs (base _ hc) h

theorem abytes_ok : ∀ {l : List AV} {ns : List Int}, abytes l = some ns → l = ns.map (AV.int .u8)
  | [], ns, h => by simp only [abytes, Option.some.injEq] at h; subst h; rfl
  | x :: l, ns, h => by
    unfold abytes at h
    split at h
    · cases ‹_ :: _ = []›
    · rename_i n l' e
      cases e
      simp only [Option.map_eq_some_iff] at h
      obtain ⟨r, h1, rfl⟩ := h
      rw [abytes_ok h1]; rfl
    · cases h
theorem VRelL.ints_inv {k : IntKind} : ∀ {ns : List Int} {vs : List Value}, VRelL ρ (ns.map (AV.int k)) vs → vs = ns.map (Value.int k)
  | [], _, h => by cases h; rfl
  | n :: ns, _, h => by
    cases h with
    | cons _ _ _ _ h1 h2 => rw [h1.int_inv, VRelL.ints_inv h2]; rfl
theorem alen_none {x : AV} {n : Nat} {c : Int} {len : Nat} {cap : Nat} (hx : VRel ρ x (.slice none len cap)) (hn : alen x = some n) : len = 0 := by
  unfold alen at hn
  split at hn <;> first | cases hn | skip
  · have := hx.nilslice_inv; cases this; rfl
  · rcases hx.slice_inv with ⟨y, _, _, he⟩ | ⟨h0, h1, p, he⟩
    · cases he
    · cases he; rfl
  · rcases hx.sliceU_inv with ⟨y, c, _, _, _, he⟩ | ⟨h0, p, he⟩
    · cases he
    · cases he; rfl
  · cases hx

theorem does_bytes (inv : Inv w0 ex ρ H w) (hs : SRel ρ s a) {dst : Option Nat} {ty : TypeId} {pos : String} {af : Array Edge} {g : Option (Nat × Bool)} {t u x e} (hc : effOf P (.convert t u x) = some e) (h : ieff e s H = some (v, H')) :
    Does P a ⟨dst, .convert t u x, ty, pos, af, g⟩ w0 ex ρ w v H' e.safe := by
  simp only [effOf, Option.bind_eq_bind, Option.bind_eq_some_iff] at hc
  obtain ⟨x', hx', hc⟩ := hc
  have rx := evo_rel hs hx'
  split at hc
  · rename_i el ht hu
    split at hc
    · rename_i he
      simp only [Option.some.injEq] at hc; subst hc
      simp only [ieff] at h
      split at h
      · rename_i n hn
        simp only [Option.bind_eq_some_iff, Option.map_eq_some_iff, Prod.mk.injEq] at h
        obtain ⟨l, hl, ns, hns, rfl, rfl⟩ := h
        obtain ⟨p, c, vs, k1, k2, k3, k4, _⟩ := src_ok (P := P) inv rx hl hn
        have hlv := abytes_ok hns
        subst hlv
        have hvs := k2.ints_inv
        subst hvs
        have hlen : ns.length = n := by simpa using k3
        refine ⟨.string (strOfNums ns), w, ρ, .inl ?_, RMap.le_refl _, .str _, inv, Nat.le_refl _, fun _ _ _ => rfl⟩
        cases p with
        | none =>
          have h0 := alen_none (c := 0) (by rw [k1] at rx; exact rx) hn
          have : ns = [] := List.length_eq_zero_iff.1 (hlen.trans h0)
          subst this
          have := run_convert_bytes_nil (P := P) w t el ht he n c u hu
          simp [execOp, k1, this]
          rfl
        | some b =>
          have hl2 := run_loadCells_list (P := P) w b (ns.map (Value.int .u8)) (fun j v hj => k4 b j v rfl hj)
          have := run_convert_bytes_string (P := P) w t u el (some b) n c ht he hu
          rw [run_bytesToString w b n c ns (by simpa [hlen] using hl2), foldl_push_bytes] at this
          have e2 : (⟨ByteArray.empty.data ++ (ns.map fun n => UInt8.ofNat n.toNat).toArray⟩ : ByteArray) = strOfNums ns := by simp [strOfNums, ByteArray.empty, ByteArray.emptyWithCapacity]; rfl
          rw [e2] at this
          simp [execOp, k1, this]
      · cases h
    · cases hc
  · cases hc

theorem does_of_op (inv : Inv w0 ex ρ H w) (hs : SRel ρ s a) {o : Oper} {e : EOp} (hc : opOf P o.op = some (.eff e)) (h : ieff e s H = some (v, H')) : Does P a o w0 ex ρ w v H' e.safe := by
  obtain ⟨dst, op, ty, pos, af, g⟩ := o
  simp only at hc
  have base : ∀ op, (match pureOf P op with | some p => some (IOp.pure p) | none => match effOf P op with | some e => some (.eff e) | none => some (.pure .stuck)) = some (.eff e) → effOf P op = some e := fun op hc => by
    split at hc
    · cases hc
    · split at hc
      · simp only [Option.some.injEq, IOp.eff.injEq] at hc; subst hc; assumption
      · cases hc
  cases op
  case build t parts =>
    simp only [opOf, Option.map_eq_some_iff] at hc
    obtain ⟨_, _, e⟩ := hc; cases e
  case buildSlice t len parts =>
    simp only [opOf, Option.map_eq_some_iff] at hc
    obtain ⟨e', h1, h2⟩ := hc
    cases h2
    exact does_buildSlice inv hs h1 h
  case load =>
    obtain ⟨rfl, v', h1, h2⟩ := does_load (dst := dst) (ty := ty) (pos := pos) (af := af) (g := g) inv hs (base _ hc) h
    exact ⟨v', w, ρ, .inl h2, RMap.le_refl _, h1, inv, Nat.le_refl _, fun _ _ _ => rfl⟩
  case alloc => exact does_alloc inv (base _ hc) h
  case box => exact does_box inv hs (base _ hc) h
  case store => exact does_store inv hs (base _ hc) h
  case makeSlice => exact does_make inv hs (base _ hc) h
  case convert => exact does_bytes inv hs (base _ hc) h
  case call c =>
    obtain ⟨callee, ⟨args⟩, ⟨argTypes⟩⟩ := c
    simp only [opOf] at hc
    split at hc
    · cases hc
    split at hc
    · split at hc <;> cases hc
    · have hc := base _ hc
      simp only [effOf] at hc
      split at hc
      · rename_i X Y t u
        simp only [Option.bind_eq_bind, Option.bind_eq_some_iff] at hc
        obtain ⟨x, hx, y, hy, hc⟩ := hc
        split at hc
        · rename_i e1 e2 ht hu
          split at hc
          · rename_i ti hti
            split at hc
            · rename_i z hz
              split at hc
              · rename_i hb
                simp only [Option.some.injEq] at hc; subst hc
                exact does_append inv hs hx hy ht hu hti hz hb.1 hb.2 h
              · cases hc
            · cases hc
          · cases hc
        · cases hc
      · rename_i X Y t u
        simp only [Option.bind_eq_bind, Option.bind_eq_some_iff] at hc
        obtain ⟨x, hx, y, hy, hc⟩ := hc
        split at hc
        · rename_i e1 e2 ht hu
          simp only [Option.map_eq_some_iff] at hc
          obtain ⟨n, hn, rfl⟩ := hc
          exact does_copy inv hs hx hy ht hn h
        · cases hc
      · cases hc
  all_goals (simp only [opOf] at hc; split at hc; · cases hc
             · split at hc
               · rename_i h1; simp [effOf] at h1
               · cases hc)
end Go.Vh


/- Regions, calls, code: a weakest precondition over the virtual heap. -/
namespace Go.Vh
open Go

def exOf (ρ : RMap) (H : AHeap) : Nat → Prop := fun b => ∃ r row x, rowAt H r = some row ∧ row.own = true ∧ ρ r = some x ∧ x.n ≠ 0 ∧ x.b = b

/-- The blocks of the own rows among W. -/
def exW (W : List Nat) (ρ : RMap) (H : AHeap) : Nat → Prop := fun b => ∃ r row x, r ∈ W ∧ rowAt H r = some row ∧ row.own = true ∧ ρ r = some x ∧ x.n ≠ 0 ∧ x.b = b
theorem exW_exOf {W ρ H b} (h : exW W ρ H b) : exOf ρ H b := let ⟨r, row, x, _, h⟩ := h; ⟨r, row, x, h⟩

def enters (P : Program) (f : FuncId) : Bool := (P.funcs[f]?).any fun fn => fn.body.isSome && fn.name != "runtime.NumGoroutine"

/-- What a call of a Go function leaves, said of the virtual heap. Of the rows that were there those alone are written that are 'own' and among W. γ: what is known of the package's variables. -/
structure ACallsG (P : Program) (γ : Nat → AV) (f : FuncId) (args : List AV) (H : AHeap) (W : List Nat) (R : AV → AHeap → Prop) : Prop where
  ent : enters P f = true
  calls : ∀ (ρ : RMap) (w : World) (vs : List Value), Sim w.heap.size (exOf ρ H) ρ H w → VRelL ρ args vs → (∀ g, VRel ρ (γ g) (.pointer (some ⟨g, 0, none⟩))) →
    Calls P f vs.toArray w fun e w' => ∃ v v' ρ' H', e = .returned v' ∧ R v H' ∧ ρ.le ρ' ∧ VRel ρ' v v' ∧ Sim w.heap.size (exOf ρ H) ρ' H' w' ∧ Frm w.heap.size (exW W ρ H) w w' ∧ H.length ≤ H'.length

abbrev noG : Nat → AV := fun _ => .any
abbrev ACalls (P : Program) (f : FuncId) (args : List AV) (H : AHeap) (W : List Nat) (R : AV → AHeap → Prop) : Prop := ACallsG P noG f args H W R

theorem ACallsG.mono {P γ f args H W R R'} (h : ACallsG P γ f args H W R) (hr : ∀ v H', R v H' → R' v H') : ACallsG P γ f args H W R' :=
  ⟨h.ent, fun ρ w vs hs hv hg => (h.calls ρ w vs hs hv hg).mono fun _ _ ⟨v, v', ρ', H', h1, h2, h3⟩ => ⟨v, v', ρ', H', h1, hr _ _ h2, h3⟩⟩
theorem ACalls.mono {P f args H W R R'} (h : ACalls P f args H W R) (hr : ∀ v H', R v H' → R' v H') : ACalls P f args H W R' := ACallsG.mono h hr
/-- What needs no variable of the package serves wherever. -/
theorem ACalls.g {P γ f args H W R} (h : ACalls P f args H W R) : ACallsG P γ f args H W R := ⟨h.ent, fun ρ w vs hs hv _ => h.calls ρ w vs hs hv fun _ => .any _⟩

/-- What a state says of the package's variables. -/
def gl (s : St) : Nat → AV := fun g => s (1048576 + g)

structure IStep where
  dst : Option Nat
  guard : Option (Nat × Bool)
  op : IOp
  deriving Inhabited

def putI (d : Option Nat) (s : St) (v : AV) : St := match d with | some d => upd s d v | none => s

def thenP (K : St → AHeap → Prop) (d : Option Nat) (s : St) (H : AHeap) : Option AV → Prop
  | some v => K (putI d s v) H
  | none => False
def thenE (K : St → AHeap → Prop) (d : Option Nat) (s : St) : Option (AV × AHeap) → Prop
  | some (v, H') => K (putI d s v) H'
  | none => False
def thenC (P : Program) (K : St → AHeap → Prop) (d : Option Nat) (s : St) (H : AHeap) (args : List AV) : AV → Prop
  | .func f caps => ∃ W, ACallsG P (gl s) f (args ++ caps) H W fun v H' => K (putI d s v) H'
  | .bound f first caps => ∃ W, ACallsG P (gl s) f (first ++ (args ++ caps)) H W fun v H' => K (putI d s v) H'
  | _ => False

def iop (P : Program) (d : Option Nat) (o : IOp) (K : St → AHeap → Prop) (s : St) (H : AHeap) : Prop :=
  match o with
  | .pure p => thenP K d s H (ipure p s)
  | .eff e => thenE K d s (ieff e s H)
  | .call f args => thenC P K d s H (args.map (evo s)) (evo s f)

def unv : AV := .lit undef

def guardP (K1 K0 : Prop) (want : Bool) : AV → Prop
  | .bool b => if b = want then K1 else K0
  | .lit (.tuple _) => K0
  | _ => False

def istep (P : Program) (st : IStep) (K : St → AHeap → Prop) (s : St) (H : AHeap) : Prop :=
  match st.guard with
  | none => iop P st.dst st.op K s H
  | some (t, want) => guardP (iop P st.dst st.op K s H) (K (putI st.dst s unv) H) want (s t)

def iops (P : Program) : List IStep → (St → AHeap → Prop) → St → AHeap → Prop
  | [], K, s, H => K s H
  | st :: l, K, s, H => istep P st (iops P l K) s H

def stepOf (P : Program) (N : Nat) (ops : Array Oper) (o : Oper) : Option IStep :=
  match opOf P o.op with
  | some op =>
    if o.dst.all (· < N) = true then
      match o.guard with
      | none => some ⟨o.dst, none, op⟩
      | some (j, want) => match (ops[j]?).bind (·.dst) with
        | some t => if t < N then some ⟨o.dst, some (t, want), op⟩ else none
        | none => none
    else none
  | none => none

section
variable {P : Program} {w0 : World} {ex : Nat → Prop} {N : Nat} {R0 : RMap}

/-- A virtual state and a state of the machine. -/
structure Rel (w0 : World) (ex : Nat → Prop) (N : Nat) (R0 ρ : RMap) (s : St) (H : AHeap) (a : Act) (w : World) : Prop where
  inv : Inv w0 ex ρ H w
  tmps : SRel ρ s a
  size : a.tmps.size = N ∧ N ≤ 1048576
  defers : a.defers = []
  base : R0.le ρ

theorem Rel.put {ρ ρ' : RMap} {s : St} {H H' : AHeap} {a : Act} {w w' : World} (h : Rel w0 ex N R0 ρ s H a w) (hl : ρ.le ρ') (hi : Inv w0 ex ρ' H' w') {d : Option Nat} (hd : d.all (· < N) = true) {v : AV} {v' : Value} (hv : VRel ρ' v v') :
    Rel w0 ex N R0 ρ' (putI d s v) H' (a.put d v') w' := by
  cases d with
  | none => exact ⟨hi, h.tmps.mono hl, h.size, h.defers, RMap.le_trans h.base hl⟩
  | some d =>
    refine ⟨hi, (h.tmps.mono hl).put (by rw [h.size.1]; simpa using hd) (by rw [h.size.1]; exact h.size.2) hv, ?_, h.defers, RMap.le_trans h.base hl⟩
    simp [Act.put, h.size.1, h.size.2]

/-- Where the ex is a row of H, a callee may write it too. -/
theorem exOf_sub {ρ : RMap} {H : AHeap} {w : World} (inv : Inv w0 ex ρ H w) : ∀ b, exOf ρ H b → w0.heap.size ≤ b ∨ ex b := fun b ⟨r, row, x, h1, h2, h3, h4, h5⟩ => by
  have := ((inv.sim.own r row x h1 h2 h3).2.2 h4).1
  rw [h5] at this; exact this

theorem Sim.weaken {B B' : Nat} {ex ex' : Nat → Prop} {ρ : RMap} {H : AHeap} {w : World} (h : Sim B ex ρ H w) (hx : ∀ b, (B ≤ b ∨ ex b) → (B' ≤ b ∨ ex' b)) : Sim B' ex' ρ H w :=
  ⟨h.dom, h.has, h.cells, fun r row x h1 h2 h3 => let ⟨a, b, c⟩ := h.own r row x h1 h2 h3; ⟨a, b, fun hn => ⟨hx _ (c hn).1, (c hn).2⟩⟩, h.dist, h.room⟩

/-- The call, in the caller's terms. -/
theorem Inv.call {ρ : RMap} {H : AHeap} {w : World} (inv : Inv w0 ex ρ H w) {f args W R vs} {γ : Nat → AV} (h : ACallsG P γ f args H W R) (hv : VRelL ρ args vs) (hg : ∀ g, VRel ρ (γ g) (.pointer (some ⟨g, 0, none⟩))) :
    Calls P f vs.toArray w fun e w' => ∃ v v' ρ' H', e = .returned v' ∧ R v H' ∧ ρ.le ρ' ∧ VRel ρ' v v' ∧ Inv w0 ex ρ' H' w' ∧ Frm w.heap.size (exW W ρ H) w w' := by
  have hsim : Sim w.heap.size (exOf ρ H) ρ H w := ⟨inv.sim.dom, inv.sim.has, inv.sim.cells, fun r row x h1 h2 h3 =>
    let ⟨a, b, c⟩ := inv.sim.own r row x h1 h2 h3; ⟨a, b, fun hn => ⟨.inr ⟨r, row, x, h1, h2, h3, hn, rfl⟩, (c hn).2⟩⟩, inv.sim.dist, inv.sim.room⟩
  refine (h.calls ρ w vs hsim hv hg).mono fun e w' ⟨v, v', ρ', H', h1, h2, h3, h4, h5, h6, h7⟩ => ⟨v, v', ρ', H', h1, h2, h3, h4, ⟨h5.weaken fun b hb => ?_, ?_⟩, h6⟩
  · rcases hb with hb | hb
    · exact .inl (Nat.le_trans inv.hle hb)
    · exact exOf_sub inv b hb
  · refine ⟨h6.os.trans inv.frm.os, h6.tape.trans inv.frm.tape, h6.output.trans inv.frm.output, Nat.le_trans inv.frm.size h6.size, fun k hk hne => ?_⟩
    have hk' : k < w.heap.size := Nat.lt_of_lt_of_le hk inv.hle
    have : ¬ exW W ρ H k := fun hx => by
      rcases exOf_sub inv k (exW_exOf hx) with h | h
      · omega
      · exact hne h
    exact (h6.block k hk' this).trans (inv.frm.block k hk hne)

theorem run_call {c : FuncId} {a : Act} {o : Oper} {f : Operand} {args : Array Operand} {tys : Array TypeId} {fs cs : Array Value} (ho : o.op = .call ⟨.value f, args, tys⟩) (hf : a.eval f = .func (.func c) fs cs) (he : enters P c = true) (w : World) :
    (execOp a.eval o).run P w = .ok (.enter c (fs ++ args.map a.eval ++ cs)) w := by
  unfold enters at he
  cases hq : P.funcs[c]? with
  | none => simp [hq] at he
  | some fn =>
    simp [hq] at he
    obtain ⟨h1, h2⟩ := he
    simp [execOp, ho, resolve, Deferred.ofValue, hf, invoke, callFunc, hq, h2]
    intro hb
    rw [hb] at h1
    simp at h1

/-- Which function is called, and with what. -/
def calleeOf (args : List AV) : AV → Option (FuncId × List AV)
  | .func f caps => some (f, args ++ caps)
  | .bound f first caps => some (f, first ++ (args ++ caps))
  | _ => none

theorem callee_rel {ρ : RMap} {fv : AV} {v : Value} (h : VRel ρ fv v) {args all : List AV} {c : FuncId} (hc : calleeOf args fv = some (c, all)) {A : Array Operand} {a : Act} (ha : VRelL ρ args (A.toList.map a.eval)) :
    ∃ fs cs vs, v = .func (.func c) fs cs ∧ VRelL ρ all vs ∧ vs.toArray = fs ++ A.map a.eval ++ cs := by
  unfold calleeOf at hc
  split at hc
  · simp only [Option.some.injEq, Prod.mk.injEq] at hc
    obtain ⟨rfl, rfl⟩ := hc
    obtain ⟨cs, rfl, hr⟩ := h.func_inv
    exact ⟨_, _, _, rfl, ha.append hr, by apply Array.ext'; simp⟩
  · simp only [Option.some.injEq, Prod.mk.injEq] at hc
    obtain ⟨rfl, rfl⟩ := hc
    obtain ⟨fs, cs, rfl, hk, hr⟩ := h.bound_inv
    exact ⟨_, _, _, rfl, hk.append (ha.append hr), by apply Array.ext'; simp⟩
  · cases hc

theorem thenC_spec {K : St → AHeap → Prop} {d : Option Nat} {s : St} {H : AHeap} {args : List AV} {fv : AV} (h : thenC P K d s H args fv) :
    ∃ c all W, calleeOf args fv = some (c, all) ∧ ACallsG P (gl s) c all H W (fun v H' => K (putI d s v) H') := by
  unfold thenC at h
  split at h
  · obtain ⟨W, h⟩ := h; exact ⟨_, _, W, rfl, h⟩
  · obtain ⟨W, h⟩ := h; exact ⟨_, _, W, rfl, h⟩
  · exact h.elim

theorem Rel.glob {ρ : RMap} {s : St} {H : AHeap} {a : Act} {w : World} (rel : Rel w0 ex N R0 ρ s H a w) (g : Nat) : VRel ρ (gl s g) (.pointer (some ⟨g, 0, none⟩)) := by
  have := rel.tmps (1048576 + g)
  rwa [tv_glob] at this

theorem opOf_call {op' : Op} {f : Opd} {args : List Opd} (hop : opOf P op' = some (.call f args)) : ∃ F A T, op' = .call ⟨.value F, A, T⟩ ∧ Opd.of F = some f ∧ opds A.toList = some args := by
  have base : ∀ op, (match pureOf P op with | some p => some (IOp.pure p) | none => match effOf P op with | some e => some (.eff e) | none => some (.pure .stuck)) = some (.call f args) → False := fun op hc => by
    split at hc
    · cases hc
    · split at hc <;> cases hc
  cases op'
  case call c =>
    obtain ⟨callee, A, T⟩ := c
    simp only [opOf] at hop
    split at hop
    · cases hop
    split at hop
    · rename_i F _
      split at hop
      · rename_i f' l hf hl
        simp only [Option.some.injEq, IOp.call.injEq] at hop
        obtain ⟨rfl, rfl⟩ := hop
        exact ⟨F, A, T, rfl, hf, hl⟩
      · cases hop
    · exact (base _ hop).elim
  case build => simp only [opOf, Option.map_eq_some_iff] at hop; obtain ⟨_, _, e⟩ := hop; cases e
  case buildSlice => simp only [opOf, Option.map_eq_some_iff] at hop; obtain ⟨_, _, e⟩ := hop; cases e
  all_goals
    simp only [opOf] at hop
    split at hop
    · cases hop
    · split at hop <;> cases hop

/-- One operation. -/
theorem iop_sound {ρ : RMap} {s : St} {H : AHeap} {a : Act} {w : World} (rel : Rel w0 ex N R0 ρ s H a w) {o : Oper} {op : IOp} (hop : opOf P o.op = some op) (hd : o.dst.all (· < N) = true) {K : St → AHeap → Prop}
    (h : iop P o.dst op K s H) {next : Act → World → Prop} {Q : Exit → Act → World → Prop} (hK : ∀ s' H' ρ' a' w', K s' H' → Rel w0 ex N R0 ρ' s' H' a' w' → next a' w') : o.wp P a w next Q := by
  unfold Oper.wp
  cases op with
  | pure p =>
    simp only [iop] at h
    cases hp : ipure p s with
    | none => rw [hp] at h; exact h.elim
    | some v =>
      rw [hp] at h
      obtain ⟨v', h1, h2⟩ := gives_of_op rel.tmps hop hp
      rw [h2 w]
      exact hK _ _ _ _ _ h (rel.put (RMap.le_refl _) rel.inv hd h1)
  | eff e =>
    simp only [iop] at h
    cases hp : ieff e s H with
    | none => rw [hp] at h; exact h.elim
    | some r =>
      obtain ⟨v, H'⟩ := r
      rw [hp] at h
      obtain ⟨v', w', ρ', h1, h2, h3, h4, _, _⟩ := does_of_op rel.inv rel.tmps hop hp
      rcases h1 with h1 | ⟨h1, rfl⟩
      · rw [h1]; exact hK _ _ _ _ _ h (rel.put h2 h4 hd h3)
      · rw [h1]; exact hK _ _ _ _ _ h (rel.put h2 h4 hd h3)
  | call f args =>
    simp only [iop] at h
    obtain ⟨dst, op', ty, pos, af, g⟩ := o
    simp only at hop hd h
    obtain ⟨F, A, T, ho, hF, hA⟩ := opOf_call hop
    have rf := evo_rel rel.tmps hF
    obtain ⟨c, all, W, hc, h⟩ := thenC_spec h
    obtain ⟨fs, cs, vs, hcs, hrel, hvs⟩ := callee_rel rf hc (opds_rel rel.tmps hA)
    rw [run_call (o := ⟨dst, op', ty, pos, af, g⟩) ho hcs h.ent w]
    have hcall := rel.inv.call h hrel rel.glob
    rw [hvs] at hcall
    simp only [Oper.upon]
    refine hcall.mono fun e w' ⟨v, v', ρ', H', h1, h2, h3, h4, h5, _⟩ => ?_
    subst h1
    exact hK _ _ _ _ _ h2 (rel.put h3 h5 hd h4)

theorem wanted_of {ρ : RMap} {s : St} {H : AHeap} {a : Act} {w : World} (rel : Rel w0 ex N R0 ρ s H a w) {ops : Array Oper} {o : Oper} {j t : Nat} {want : Bool} (hg : o.guard = some (j, want)) (hj : (ops[j]?).bind (·.dst) = some t) (ht : t < N) :
    (∀ b, s t = .bool b → Region.wanted o (yielded ops a.tmps) = (b == want)) ∧ (∀ vs, s t = .lit (.tuple vs) → Region.wanted o (yielded ops a.tmps) = false) := by
  have hr := rel.tmps t
  rw [tv_lt (by have := rel.size.2; omega)] at hr
  have hv : a.tmps[t]? = some (a.tmps.getD t undef) := by
    rw [Array.getD_eq_getD_getElem?, Array.getElem?_eq_getElem (by rw [rel.size.1]; exact ht)]; rfl
  refine ⟨fun b hb => ?_, fun vs hb => ?_⟩
  · rw [hb] at hr
    rw [hr.bool_inv] at hv
    simp [Region.wanted, hg, yielded, hj, hv]
  · rw [hb] at hr
    have hu : a.tmps.getD t undef = .tuple vs := by
      generalize a.tmps.getD t undef = u at hr
      cases hr; rfl
    rw [hu] at hv
    simp [Region.wanted, hg, yielded, hj, hv]

/-- One operation, guarded or not. -/
theorem istep_sound {ρ : RMap} {s : St} {H : AHeap} {a : Act} {w : World} (rel : Rel w0 ex N R0 ρ s H a w) {ops : Array Oper} {o : Oper} {st : IStep} (hst : stepOf P N ops o = some st) {K : St → AHeap → Prop}
    (h : istep P st K s H) {next : Act → World → Prop} {Q : Exit → Act → World → Prop} (hK : ∀ s' H' ρ' a' w', K s' H' → Rel w0 ex N R0 ρ' s' H' a' w' → next a' w') :
    if Region.wanted o (yielded ops a.tmps) then o.wp P a w next Q else next (a.put o.dst undef) w := by
  unfold stepOf at hst
  split at hst
  · rename_i op hop
    split at hst
    · rename_i hd
      split at hst
      · rename_i hg
        simp only [Option.some.injEq] at hst; subst hst
        have : Region.wanted o (yielded ops a.tmps) = true := by simp [Region.wanted, hg]
        rw [if_pos this]
        exact iop_sound rel hop hd h hK
      · rename_i j want hg
        split at hst
        · rename_i t hj
          split at hst
          · rename_i ht
            simp only [Option.some.injEq] at hst; subst hst
            obtain ⟨w1, w2⟩ := wanted_of rel hg hj ht
            simp only [istep] at h
            unfold guardP at h
            have skip : K (putI o.dst s unv) H → next (a.put o.dst undef) w := fun hk => hK _ _ _ _ _ hk (rel.put (RMap.le_refl _) rel.inv hd (.lit _))
            split at h
            · rename_i b hb
              rw [w1 b hb]
              split at h
              · rename_i e; subst e
                rw [if_pos (by simp)]
                exact iop_sound rel hop hd h hK
              · rename_i e
                rw [if_neg (by simpa using e)]
                exact skip h
            · rename_i vs hb
              rw [w2 vs hb]
              exact skip h
            · exact h.elim
          · cases hst
        · cases hst
    · cases hst
  · cases hst

/-- A region in the order of the text. -/
theorem iops_sound {ops : Array Oper} {Q : Exit → Act → World → Prop} {K : St → AHeap → Prop} (hK : ∀ s' H' ρ' a' w', K s' H' → Rel w0 ex N R0 ρ' s' H' a' w' → Q .normal a' w') :
    ∀ (l : List IStep) (k : Nat), (∀ j, (h : j < l.length) → ∃ o, ops[k + j]? = some o ∧ stepOf P N ops o = some l[j]) → ∀ (s : St) (H : AHeap) (ρ : RMap) (a : Act) (w : World), iops P l K s H → Rel w0 ex N R0 ρ s H a w →
      wpOps P ops Q (List.range' k l.length) a w
  | [], k, _, s, H, ρ, a, w, h, rel => hK _ _ _ _ _ h rel
  | st :: l, k, hl, s, H, ρ, a, w, h, rel => by
    obtain ⟨o, ho, hst⟩ := hl 0 (by simp)
    simp only [Nat.add_zero, List.getElem_cons_zero] at ho hst
    simp only [List.length_cons, List.range'_succ]
    have ih := fun s' H' ρ' a' w' h' rel' => iops_sound hK l (k + 1) (fun j hj => by
      obtain ⟨o', h1, h2⟩ := hl (j + 1) (by simp; omega)
      exact ⟨o', by rw [show k + 1 + j = k + (j + 1) by omega]; exact h1, by simpa using h2⟩) s' H' ρ' a' w' h' rel'
    have := istep_sound (Q := Q) rel hst h (next := wpOps P ops Q (List.range' (k + 1) l.length)) ih
    simp only [wpOps, ho]
    split
    · rename_i hw; rw [if_pos hw] at this; exact .inl this
    · rename_i hw; rw [if_neg hw] at this; exact this
end
end Go.Vh


/- A region that draws its order: what computes and what reads is taken as soon as it may come; the rest comes one behind the other. -/
namespace Go.Vh
open Go

section any
variable {P : Program} {ops : Array Oper} {Q : Exit → Act → World → Prop}

/-- Whatever is picked; of what operation number j does 'Φ j' holds. -/
def wpAnyS (P : Program) (ops : Array Oper) (Q : Exit → Act → World → Prop) (Φ : Nat → World → World → Prop) : Nat → Array Bool → Act → World → Prop
  | 0, listed, a, w => Region.ready .any ops listed = [] ∧ Q .normal a w
  | n + 1, listed, a, w => (Region.ready .any ops listed = [] → Q .normal a w) ∧
      ∀ i ∈ Region.ready .any ops listed, wpOp P ops Q i (fun a' w' => Φ i w w' ∧ wpAnyS P ops Q Φ n (listed.setIfInBounds i true) a' w') a w

theorem wpAny_of_S {Φ : Nat → World → World → Prop} : ∀ (n : Nat) (listed : Array Bool) (a : Act) (w : World), wpAnyS P ops Q Φ n listed a w → wpAny P .any ops Q n listed a w
  | 0, _, _, _, h => h
  | n + 1, _, _, _, h => ⟨h.1, fun i hi => wpOp_mono (fun a' w' h' => wpAny_of_S n _ a' w' h'.2) (h.2 i hi)⟩

/-- Does operation j wait for i, over others too? -/
def reachB (ops : Array Oper) : Nat → Nat → Nat → Bool
  | 0, _, _ => false
  | n + 1, j, i => match ops[j]? with
    | some o => o.after.any fun e => Region.binds .any e && (e.on == i || reachB ops n e.on i)
    | none => false

/-- What is listed has all that it waits for listed. -/
def Closed (ops : Array Oper) (listed : Array Bool) : Prop :=
  ∀ (k : Nat) (o : Oper), ops[k]? = some o → listed.getD k false = true → ∀ e ∈ o.after, Region.binds .any e = true → listed.getD e.on false = true

theorem Closed.reach {listed : Array Bool} (h : Closed ops listed) : ∀ (n j i : Nat), reachB ops n j i = true → (∀ o, ops[j]? = some o → ∀ e ∈ o.after, Region.binds .any e = true → listed.getD e.on false = true) → listed.getD i false = true
  | 0, _, _, hr, _ => by simp [reachB] at hr
  | n + 1, j, i, hr, hj => by
    simp only [reachB] at hr
    split at hr
    · rename_i o ho
      obtain ⟨e, he, hb⟩ := Array.any_eq_true'.1 hr
      simp only [Bool.and_eq_true, Bool.or_eq_true, beq_iff_eq] at hb
      have hl := hj o ho e he hb.1
      rcases hb.2 with h1 | h1
      · rw [← h1]; exact hl
      · exact h.reach n e.on i h1 fun o' ho' e' he' hb' => h e.on o' ho' hl e' he' hb'
    · cases hr

theorem Closed.set {listed : Array Bool} (h : Closed ops listed) {i : Nat} (hi : i ∈ Region.ready .any ops listed) : Closed ops (listed.setIfInBounds i true) := by
  intro k o ho hk e he hb
  by_cases hki : i = k
  · subst hki
    obtain ⟨_, o', ho', hall⟩ := mem_ready.1 hi
    have : o' = o := Option.some.inj (ho'.symm.trans ho)
    subst this
    exact getD_set_true (hall e he hb)
  · rw [getD_set_ne false hki] at hk
    exact getD_set_true (h k o ho hk e he hb)

/-- What yields in every world that meets S, and is passed by what keeps S alone, may be taken first. -/
theorem anyS_first {Φ : Nat → World → World → Prop} {S : World → Prop} {i : Nat} {oi : Oper} {v : Value} (hi : ops[i]? = some oi) (hsel : ∀ (j : Nat) (o : Oper) cs b, ops[j]? = some o → o.op ≠ .select cs b)
    (hQ : ∀ c a w, Q (.panic c) (a.put oi.dst v) w → Q (.panic c) a w) (hS : ∀ j, j ≠ i → reachB ops ops.size j i = false → (ops[j]?).isSome = true → ∀ w w', Φ j w w' → S w → S w') (hΦ : ∀ w, Φ i w w) :
    ∀ (n : Nat) (listed : Array Bool) (a : Act) (w : World), Closed ops listed →
      (∀ j oj, ops[j]? = some oj → j ≠ i → listed.getD j true = false → (∀ e ∈ oj.after, Region.binds .any e = true → e.on ≠ i) → oi.apart ops oj = true) →
      i ∈ Region.ready .any ops listed → YieldsIf P ops S oi v a → S w →
      wpAnyS P ops Q Φ n (listed.setIfInBounds i true) (a.put oi.dst v) w → wpAnyS P ops Q Φ (n + 1) listed a w := by
  intro n
  induction n with
  | zero =>
    intro listed a w _ _ hr hy hw hq
    refine ⟨fun h0 => by simp [h0] at hr, fun j hj => ?_⟩
    by_cases e : j = i
    · subst e; exact hy.wpOp hi hw ⟨hΦ w, hq⟩
    · have hm := ready_mono hj e
      rw [hq.1] at hm
      simp at hm
  | succ n ih =>
    intro listed a w hcl hfree hr hy hw hq
    refine ⟨fun h0 => by simp [h0] at hr, fun j hj => ?_⟩
    by_cases e : j = i
    · subst e; exact hy.wpOp hi hw ⟨hΦ w, hq⟩
    · obtain ⟨hju, oj, hoj, hja⟩ := mem_ready.1 hj
      have hiu : listed.getD i false = false := by
        have := (mem_ready.1 hr).1
        rcases Nat.lt_or_ge i listed.size with h' | h'
        · simp [h'] at this ⊢; exact this
        · simp [Array.getElem?_eq_none h'] at this
      have hnr : reachB ops ops.size j i = false := by
        cases hb : reachB ops ops.size j i with
        | false => rfl
        | true =>
          have := hcl.reach ops.size j i hb (fun o ho e' he' hb' => by
            have : o = oj := Option.some.inj (ho.symm.trans hoj)
            subst this; exact hja e' he' hb')
          rw [hiu] at this; cases this
      have hno : ∀ e' ∈ oj.after, Region.binds .any e' = true → e'.on ≠ i := fun e' he' hb' he => by
        have := hja e' he' hb'
        rw [he, hiu] at this; cases this
      have step := wpOp_putIf hoj (hfree j oj hoj e hju hno) (fun cs b => hsel i oi cs b hi) (fun cs b => hsel j oj cs b hoj) hQ hy (hq.2 j (ready_mono hj e))
      refine wpOp_mono (fun a' w' ⟨k1, k2, k3⟩ => ⟨k2, ?_⟩) step
      refine ih _ _ _ (hcl.set hj) (fun k ok hk hki hku hkn => ?_) (ready_mono hr (Ne.symm e)) k1 (hS j e hnr (by rw [hoj]; rfl) w w' k2 hw) ?_
      · refine hfree k ok hk hki ?_ hkn
        by_cases hjk : j = k
        · subst hjk; exact hju
        · rwa [getD_set_ne true hjk] at hku
      · rw [Array.setIfInBounds_comm _ _ e]
        exact k3
end any

/-- A step of a region that draws: the number of the operation, how it is met (0: it computes; 1: it reads what stood there at the region's start; 2: it keeps what stood there; 3: the rest). -/
structure DStep where
  st : IStep
  ix : Nat
  mode : Nat
  deriving Inhabited

def thenL (K : St → AHeap → Prop) (d : Option Nat) (s : St) (H : AHeap) : Option (AV × AHeap) → Prop
  | some (v, _) => K (putI d s v) H
  | none => False
def thenC0 (P : Program) (K : St → AHeap → Prop) (d : Option Nat) (s : St) (H : AHeap) (args : List AV) : AV → Prop
  | .func f caps => ACallsG P (gl s) f (args ++ caps) H [] fun v H' => K (putI d s v) H'
  | .bound f first caps => ACallsG P (gl s) f (first ++ (args ++ caps)) H [] fun v H' => K (putI d s v) H'
  | _ => False
theorem thenC0_spec {P : Program} {K : St → AHeap → Prop} {d : Option Nat} {s : St} {H : AHeap} {args : List AV} {fv : AV} (h : thenC0 P K d s H args fv) :
    ∃ c all, calleeOf args fv = some (c, all) ∧ ACallsG P (gl s) c all H [] (fun v H' => K (putI d s v) H') := by
  unfold thenC0 at h
  split at h
  · exact ⟨_, _, rfl, h⟩
  · exact ⟨_, _, rfl, h⟩
  · exact h.elim

def iopD (P : Program) (H0 : AHeap) (mode : Nat) (d : Option Nat) (o : IOp) (K : St → AHeap → Prop) (s : St) (H : AHeap) : Prop :=
  match o with
  | .pure p => thenP K d s H (ipure p s)
  | .eff e => match mode with
    | 1 => thenL K d s H (ieff e s H0)
    | _ => thenE K d s (ieff e s H)
  | .call f args => match mode with
    | 2 => thenC0 P K d s H (args.map (evo s)) (evo s f)
    | _ => thenC P K d s H (args.map (evo s)) (evo s f)

def istepD (P : Program) (H0 : AHeap) (x : DStep) (K : St → AHeap → Prop) (s : St) (H : AHeap) : Prop :=
  match x.st.guard with
  | none => iopD P H0 x.mode x.st.dst x.st.op K s H
  | some (t, want) => guardP (iopD P H0 x.mode x.st.dst x.st.op K s H) (K (putI x.st.dst s unv) H) want (s t)

def iopsD (P : Program) (H0 : AHeap) : List DStep → (St → AHeap → Prop) → St → AHeap → Prop
  | [], K, s, H => K s H
  | x :: l, K, s, H => istepD P H0 x (iopsD P H0 l K) s H

def isLoadOp : Op → Bool
  | .load _ _ => true
  | _ => false
theorem _root_.Go.Vh.RMap.le.le_trans' {ρ ρ' ρ'' : RMap} (h : ρ.le ρ') (h' : ρ'.le ρ'') : ρ.le ρ'' := RMap.le_trans h h'
theorem isLoadOp_spec {o : Op} (h : isLoadOp o = true) : ∃ t x, o = .load t x := by
  cases o <;> simp [isLoadOp] at h
  exact ⟨_, _, rfl⟩
def IOp.isPure : IOp → Bool
  | .pure _ => true
  | _ => false
def IOp.keeps : IOp → Bool
  | .pure _ => true
  | .eff e => e.safe
  | .call _ _ => true

/-- May the steps come so? 'early': nothing of mode 3 has come yet. -/
def goOK (ops : Array Oper) : List DStep → Array Bool → Bool → Bool
  | [], listed, _ => (Region.ready .any ops listed).isEmpty
  | x :: l, listed, early =>
    (match ops[x.ix]? with
      | some o => (match x.mode with
        | 0 => x.st.op.isPure && Region.free .any ops listed x.ix && (Region.ready .any ops listed).contains x.ix
        | 1 => isLoadOp o.op && early && Region.free .any ops listed x.ix && (Region.ready .any ops listed).contains x.ix
        | 2 => x.st.op.keeps && (Region.ready .any ops listed == [x.ix])
        | _ => Region.ready .any ops listed == [x.ix])
      | none => false) &&
    goOK ops l (listed.setIfInBounds x.ix true) (early && x.mode < 3)

/-- Those of mode 3. -/
def lateOf (L : List DStep) : List Nat := (L.filter fun x => 2 < x.mode).map (·.ix)
def loadsOf (L : List DStep) : List Nat := (L.filter fun x => x.mode == 1).map (·.ix)

/-- Each of mode 3 waits for each read. -/
def lateOK (ops : Array Oper) (L : List DStep) : Bool :=
  (lateOf L).all fun j => (loadsOf L).all fun k => reachB ops ops.size j k

def drawOK (ops : Array Oper) (L : List DStep) : Bool :=
  L.length == ops.size && (L.all fun x => (lateOf L).contains x.ix == decide (2 < x.mode)) && Region.noSelect ops && goOK ops L (Array.replicate ops.size false) true && lateOK ops L

section draw
variable {P : Program} {w0 : World} {ex : Nat → Prop} {N : Nat} {R0 : RMap}

/-- Every block that stood in wS is as it was. -/
def Old (wS w : World) : Prop := wS.heap.size ≤ w.heap.size ∧ ∀ k, k < wS.heap.size → w.heap[k]? = wS.heap[k]?

theorem Old.refl (w : World) : Old w w := ⟨Nat.le_refl _, fun _ _ => rfl⟩
theorem Old.step {wS w w' : World} (h : Old wS w) (hs : w.heap.size ≤ w'.heap.size) (hk : ∀ k, k < w.heap.size → w'.heap[k]? = w.heap[k]?) : Old wS w' :=
  ⟨Nat.le_trans h.1 hs, fun k hlt => (hk k (Nat.lt_of_lt_of_le hlt h.1)).trans (h.2 k hlt)⟩

/-- A read of what stood there gives the same in every world that has kept it. -/
theorem load_stable {ρ0 ρ : RMap} {H0 H' : AHeap} {wS : World} {s : St} {a : Act} {v : AV} {dst : Option Nat} {ty : TypeId} {pos : String} {af : Array Edge} {g : Option (Nat × Bool)} {t : TypeId} {x : Operand} {e : EOp}
    (inv : Inv w0 ex ρ0 H0 wS) (hle : ρ0.le ρ) (hs : SRel ρ s a) (hc : effOf P (.load t x) = some e) (h : ieff e s H0 = some (v, H')) :
    ∃ v', VRel ρ v v' ∧ ∀ w, Old wS w → (execOp a.eval ⟨dst, .load t x, ty, pos, af, g⟩).run P w = .ok (.value v') w := by
  simp only [effOf, Option.bind_eq_bind, Option.bind_eq_some_iff] at hc
  obtain ⟨x', hx', hc⟩ := hc
  have rx := evo_rel hs hx'
  have same : ∀ {r y}, ρ r = some y → ∀ row, rowAt H0 r = some row → ρ0 r = some y := fun {r y} hy row hr => by
    obtain ⟨z, hz⟩ := inv.sim.has r row hr
    have := hle _ _ hz
    rw [hy] at this; rw [hz]; exact this.symm
  have keep : ∀ w, Old wS w → ∀ {ad : Addr} {u : Value}, wS.cell? ad = some u → w.cell? ad = some u := fun w hw {ad u} hu => by
    have hlt := World.block_lt_of_cell? (w := wS) (a := ad) (u := u) hu
    rw [World.cell?_of_block (w := wS) (hw.2 ad.block hlt)]; exact hu
  split at hc
  · rename_i d n hd hn
    simp only [Option.some.injEq] at hc; subst hc
    split at h
    · rename_i hagg
      simp only [ieff] at h
      split at h
      · rename_i r off e; rw [e] at rx
        simp only [Option.map_eq_some_iff, Prod.mk.injEq] at h
        obtain ⟨l, hl, rfl, rfl⟩ := h
        obtain ⟨y, hy, hv⟩ := rx.ptr_inv
        obtain ⟨row, hr, hle', rfl⟩ := cellsAt_spec hl
        obtain ⟨vs, k1, k2, k3, k4⟩ := inv.sim.read hr (same hy row hr) hle'
        refine ⟨.agg vs.toArray, .agg _ _ (by simpa using k2.mono hle), fun w hw => ?_⟩
        have hl := run_loadCells_list (P := P) w ⟨y.b, y.d + off, none⟩ vs (fun j u hj => keep w hw (k4 j u hj))
        rw [k1] at hl
        simp [execOp, hv, Instr.loadAt, Instr.sureAddr, loadVar, run_isAgg hd, hagg, run_size hn, hl]
      · cases h
    · rename_i hagg
      simp only [ieff] at h
      split at h
      · rename_i r off e; rw [e] at rx
        simp only [Option.map_eq_some_iff, Option.bind_eq_some_iff, Prod.mk.injEq] at h
        obtain ⟨c, ⟨row, hr, hcell⟩, rfl, rfl⟩ := h
        obtain ⟨y, hy, hv⟩ := rx.ptr_inv
        obtain ⟨_, u, hu, hru⟩ := inv.sim.cells r row y hr (same hy row hr) off c hcell
        refine ⟨u, hru.mono hle, fun w hw => ?_⟩
        have hu' := keep w hw hu
        simp [execOp, hv, Instr.loadAt, Instr.sureAddr, loadVar, run_isAgg hd, hagg, run_load, hu']
      · cases h
  · cases hc

/-- No way out by a panic. -/
def NoP (Q : Exit → Act → World → Prop) : Exit → Act → World → Prop
  | .panic _, _, _ => False
  | e, a, w => Q e a w


/-- The step is that of its operation. -/
def Fits (P : Program) (N : Nat) (ops : Array Oper) (x : DStep) : Prop := ∃ o, ops[x.ix]? = some o ∧ stepOf P N ops o = some x.st

theorem stepOf_spec {ops : Array Oper} {o : Oper} {st : IStep} (h : stepOf P N ops o = some st) : opOf P o.op = some st.op ∧ st.dst = o.dst ∧ o.dst.all (· < N) = true ∧
    ((o.guard = none ∧ st.guard = none) ∨ ∃ j want t, o.guard = some (j, want) ∧ (ops[j]?).bind (·.dst) = some t ∧ t < N ∧ st.guard = some (t, want)) := by
  unfold stepOf at h
  split at h
  · rename_i op hop
    split at h
    · rename_i hd
      split at h
      · rename_i hg
        simp only [Option.some.injEq] at h; subst h
        exact ⟨hop, rfl, hd, .inl ⟨hg, rfl⟩⟩
      · rename_i j want hg
        split at h
        · rename_i t hj
          split at h
          · rename_i ht
            simp only [Option.some.injEq] at h; subst h
            exact ⟨hop, rfl, hd, .inr ⟨j, want, t, hg, hj, ht, rfl⟩⟩
          · cases h
        · cases h
    · cases h
  · cases h

/-- What a guard says. -/
theorem guard_cases {ρ : RMap} {s : St} {H : AHeap} {a : Act} {w : World} (rel : Rel w0 ex N R0 ρ s H a w) {ops : Array Oper} {o : Oper} {st : IStep} (hst : stepOf P N ops o = some st) {A B : Prop}
    (h : match st.guard with | none => A | some (t, want) => guardP A B want (s t)) : (Region.wanted o (yielded ops a.tmps) = true ∧ A) ∨ (Region.wanted o (yielded ops a.tmps) = false ∧ B) := by
  obtain ⟨_, _, _, h4⟩ := stepOf_spec hst
  rcases h4 with ⟨g1, g2⟩ | ⟨j, want, t, g1, g2, g3, g4⟩
  · rw [g2] at h
    exact .inl ⟨by simp [Region.wanted, g1], h⟩
  · rw [g4] at h
    obtain ⟨w1, w2⟩ := wanted_of rel g1 g2 g3
    simp only at h
    unfold guardP at h
    split at h
    · rename_i b hb
      rw [w1 b hb]
      split at h
      · rename_i e; subst e; exact .inl ⟨by simp, h⟩
      · rename_i e; exact .inr ⟨by simpa using e, h⟩
    · rename_i vs hb
      rw [w2 vs hb]; exact .inr ⟨rfl, h⟩
    · exact h.elim

/-- What an operation does to the old blocks. -/
def Phi (L : List DStep) : Nat → World → World → Prop := fun j w w' => j ∉ lateOf L → Old w w'

/-- What computes or reads is taken first. -/
theorem soft_sound {ρ0 ρ : RMap} {H0 : AHeap} {wS : World} {ops : Array Oper} {L : List DStep} {x : DStep} {s : St} {H : AHeap} {a : Act} {w : World} {K : St → AHeap → Prop} {Q : Exit → Act → World → Prop} {n : Nat} {listed : Array Bool}
    (inv0 : Inv w0 ex ρ0 H0 wS) (hle : ρ0.le ρ) (rel : Rel w0 ex N R0 ρ s H a w) (hf : Fits P N ops x) (h : istepD P H0 x K s H)
    (hm : (x.mode = 0 ∧ x.st.op.isPure = true) ∨ (x.mode = 1 ∧ (∀ o, ops[x.ix]? = some o → isLoadOp o.op = true) ∧ Old wS w ∧ ∀ j ∈ lateOf L, reachB ops ops.size j x.ix = true))
    (hns : Region.noSelect ops = true) (hfree : Region.free .any ops listed x.ix = true) (hr : (Region.ready .any ops listed).contains x.ix = true) (hcl : Closed ops listed)
    (hK : ∀ s' a' ρ', K s' H → Rel w0 ex N R0 ρ' s' H a' w → ρ.le ρ' → wpAnyS P ops (NoP Q) (Phi L) n (listed.setIfInBounds x.ix true) a' w) :
    wpAnyS P ops (NoP Q) (Phi L) (n + 1) listed a w := by
  obtain ⟨o, ho, hst⟩ := hf
  obtain ⟨hop, hdst, hd, _⟩ := stepOf_spec hst
  have fin : ∀ (S : World → Prop) (v : AV) (v' : Value), VRel ρ v v' → YieldsIf P ops S o v' a → S w → (∀ j, j ≠ x.ix → reachB ops ops.size j x.ix = false → (ops[j]?).isSome = true → ∀ w w', Phi L j w w' → S w → S w') → K (putI x.st.dst s v) H →
      wpAnyS P ops (NoP Q) (Phi L) (n + 1) listed a w := fun S v v' hv hy hS hj hk => by
    refine anyS_first ho (Region.noSelect_spec hns) (fun _ _ _ h => h) hj (fun w _ => Old.refl w) n listed a w hcl (Region.free_spec ho hfree) (by simpa using hr) hy hS ?_
    rw [hdst] at hk
    exact hK _ _ ρ hk (rel.put (RMap.le_refl _) rel.inv hd hv) (RMap.le_refl _)
  unfold istepD at h
  rcases guard_cases rel hst h with ⟨hw, hA⟩ | ⟨hw, hB⟩
  · rcases hm with ⟨h0, hp⟩ | ⟨h1, hl, hold, hlate⟩
    · cases hq : x.st.op with
      | pure p =>
        rw [hq] at hA hop
        simp only [iopD] at hA
        cases hv : ipure p s with
        | none => rw [hv] at hA; exact hA.elim
        | some v =>
          rw [hv] at hA
          obtain ⟨v', k1, k2⟩ := gives_of_op rel.tmps hop hv
          exact fin (fun _ => True) v v' k1 (.inl ⟨hw, fun w _ => k2 w⟩) trivial (fun _ _ _ _ _ _ _ _ => trivial) hA
      | eff e => rw [hq] at hp; simp [IOp.isPure] at hp
      | call f l => rw [hq] at hp; simp [IOp.isPure] at hp
    · have hlo := hl o ho
      obtain ⟨dst, op, ty, pos, af, g⟩ := o
      simp only at hop hlo
      obtain ⟨t, y, rfl⟩ := isLoadOp_spec hlo
      have hop' : ∃ e, effOf P (.load t y) = some e ∧ x.st.op = .eff e := by
        simp only [opOf] at hop
        have hp : pureOf P (.load t y) = none := rfl
        rw [hp] at hop
        simp only at hop
        split at hop
        · rename_i e he
          simp only [Option.some.injEq] at hop
          exact ⟨e, he, hop.symm⟩
        · simp only [Option.some.injEq] at hop
          rw [← hop] at hA
          simp only [iopD, ipure, thenP] at hA
      obtain ⟨e, he, hxe⟩ := hop'
      rw [hxe, h1] at hA
      simp only [iopD] at hA
      cases hv : ieff e s H0 with
      | none => rw [hv] at hA; exact hA.elim
      | some r =>
        obtain ⟨v, H1⟩ := r
        rw [hv] at hA
        obtain ⟨v', k1, k2⟩ := load_stable (dst := dst) (ty := ty) (pos := pos) (af := af) (g := g) inv0 hle rel.tmps he hv
        refine fin (Old wS) v v' k1 (.inl ⟨hw, k2⟩) hold (fun j hj hnr _ u u' hu hS => ?_) hA
        have hnl : j ∉ lateOf L := fun hjl => by rw [hlate j hjl] at hnr; cases hnr
        have := hu hnl
        exact hS.step this.1 this.2
  · have hS : wpAnyS P ops (NoP Q) (Phi L) (n + 1) listed a w :=
      fin (fun _ => True) unv undef (.lit _) (.inr ⟨hw, rfl⟩) trivial (fun _ _ _ _ _ _ _ _ => trivial) hB
    exact hS

/-- What comes alone, or among others. -/
theorem hard_op {ρ : RMap} {H0 : AHeap} {ops : Array Oper} {L : List DStep} {x : DStep} {s : St} {H : AHeap} {a : Act} {w : World} {K : St → AHeap → Prop} {Q : Exit → Act → World → Prop} {n : Nat} {listed : Array Bool}
    (rel : Rel w0 ex N R0 ρ s H a w) (hf : Fits P N ops x) (h : istepD P H0 x K s H) (hm1 : x.mode ≠ 1) (hkeep : x.ix ∉ lateOf L → x.mode = 2 ∧ x.st.op.keeps = true)
    (hK : ∀ s' H' a' w' ρ', K s' H' → Rel w0 ex N R0 ρ' s' H' a' w' → ρ.le ρ' → (x.ix ∉ lateOf L → Old w w') → wpAnyS P ops (NoP Q) (Phi L) n (listed.setIfInBounds x.ix true) a' w') :
    wpOp P ops (NoP Q) x.ix (fun a' w' => Phi L x.ix w w' ∧ wpAnyS P ops (NoP Q) (Phi L) n (listed.setIfInBounds x.ix true) a' w') a w := by
  obtain ⟨o, ho, hst⟩ := hf
  obtain ⟨hop, hdst, hd, _⟩ := stepOf_spec hst
  unfold wpOp
  simp only [ho]
  unfold istepD at h
  rcases guard_cases rel hst h with ⟨hw, hA⟩ | ⟨hw, hB⟩
  · rw [if_pos hw]
    refine .inl ?_
    have put : ∀ {ρ' s' H' w' v v'}, ρ.le ρ' → s' = putI x.st.dst s v → K s' H' → VRel ρ' v v' → Inv w0 ex ρ' H' w' → (x.ix ∉ lateOf L → Old w w') →
        Phi L x.ix w w' ∧ wpAnyS P ops (NoP Q) (Phi L) n (listed.setIfInBounds x.ix true) (a.put o.dst v') w' := fun {ρ' s' H' w' v v'} hl hs hk hv hi ho => by
      refine ⟨ho, hK s' H' _ _ ρ' hk ?_ hl ho⟩
      rw [hs, hdst]
      exact rel.put hl hi hd hv
    unfold Oper.wp
    cases hq : x.st.op with
    | pure p =>
      rw [hq] at hA hop
      simp only [iopD] at hA
      cases hv : ipure p s with
      | none => rw [hv] at hA; exact hA.elim
      | some v =>
        rw [hv] at hA
        obtain ⟨v', k1, k2⟩ := gives_of_op rel.tmps hop hv
        rw [k2 w]
        exact put (RMap.le_refl _) rfl hA k1 rel.inv (fun _ => Old.refl w)
    | eff e =>
      rw [hq] at hA hop hkeep
      have hA' : thenE K x.st.dst s (ieff e s H) := by
        simp only [iopD] at hA
        exact hA
      cases hv : ieff e s H with
      | none => rw [hv] at hA'; exact hA'.elim
      | some r =>
        obtain ⟨v, H'⟩ := r
        rw [hv] at hA'
        obtain ⟨v', w', ρ', h1, h2, h3, h4, h5, h6⟩ := does_of_op rel.inv rel.tmps hop hv
        have hold : x.ix ∉ lateOf L → Old w w' := fun hx => ⟨h5, h6 (hkeep hx).2⟩
        rcases h1 with h1 | ⟨h1, rfl⟩
        · rw [h1]; exact put h2 rfl hA' h3 h4 hold
        · rw [h1]; exact put h2 rfl hA' h3 h4 hold
    | call f args =>
      rw [hq] at hA hop hkeep
      have hcall : ∃ c all W, calleeOf (args.map (evo s)) (evo s f) = some (c, all) ∧ ACallsG P (gl s) c all H W (fun v H' => K (putI x.st.dst s v) H') ∧ (x.ix ∉ lateOf L → W = []) := by
        simp only [iopD] at hA
        split at hA
        · obtain ⟨c, all, h1, h2⟩ := thenC0_spec hA
          exact ⟨c, all, [], h1, h2, fun _ => rfl⟩
        · rename_i hne
          obtain ⟨c, all, W, h1, h2⟩ := thenC_spec hA
          exact ⟨c, all, W, h1, h2, fun hx => absurd (hkeep hx).1 hne⟩
      obtain ⟨c, all, W, hc, hAc, hW⟩ := hcall
      obtain ⟨dst, op', ty, pos, af, g⟩ := o
      simp only at hop hd hdst
      obtain ⟨F, A, T, ho', hF, hA2⟩ : ∃ F A T, op' = .call ⟨.value F, A, T⟩ ∧ Opd.of F = some f ∧ opds A.toList = some args := opOf_call hop
      have rf := evo_rel rel.tmps hF
      obtain ⟨fs, cs, vs, hcs, hrel, hvs⟩ := callee_rel rf hc (opds_rel rel.tmps hA2)
      rw [run_call (o := ⟨dst, op', ty, pos, af, g⟩) ho' hcs hAc.ent w]
      have hcall := rel.inv.call hAc hrel rel.glob
      rw [hvs] at hcall
      simp only [Oper.upon]
      refine hcall.mono fun e w' ⟨v, v', ρ', H', h1, h2, h3, h4, h5, h6⟩ => ?_
      subst h1
      refine put h3 rfl h2 h4 h5 fun hx => ⟨h6.size, fun k hk => h6.block k hk fun hex => ?_⟩
      rw [hW hx] at hex
      obtain ⟨_, _, _, hmem, _⟩ := hex
      cases hmem
  · rw [if_neg (by simp [hw])]
    refine ⟨fun _ => Old.refl w, hK _ _ _ _ ρ hB ?_ (RMap.le_refl _) (fun _ => Old.refl w)⟩
    rw [hdst]
    exact rel.put (RMap.le_refl _) rel.inv hd (.lit _)

theorem hard_sound {ρ : RMap} {H0 : AHeap} {ops : Array Oper} {L : List DStep} {x : DStep} {s : St} {H : AHeap} {a : Act} {w : World} {K : St → AHeap → Prop} {Q : Exit → Act → World → Prop} {n : Nat} {listed : Array Bool}
    (rel : Rel w0 ex N R0 ρ s H a w) (hf : Fits P N ops x) (h : istepD P H0 x K s H) (hm1 : x.mode ≠ 1) (hkeep : x.ix ∉ lateOf L → x.mode = 2 ∧ x.st.op.keeps = true) (hr : Region.ready .any ops listed = [x.ix])
    (hK : ∀ s' H' a' w' ρ', K s' H' → Rel w0 ex N R0 ρ' s' H' a' w' → ρ.le ρ' → (x.ix ∉ lateOf L → Old w w') → wpAnyS P ops (NoP Q) (Phi L) n (listed.setIfInBounds x.ix true) a' w') :
    wpAnyS P ops (NoP Q) (Phi L) (n + 1) listed a w := by
  refine ⟨fun h0 => (by rw [h0] at hr; cases hr), fun i hi => ?_⟩
  rw [hr, List.mem_singleton] at hi
  subst hi
  exact hard_op rel hf h hm1 hkeep hK

/-- The steps of a region that draws, all of them. -/
theorem dops_sound {ρ0 : RMap} {H0 : AHeap} {wS : World} {ops : Array Oper} {L : List DStep} {K : St → AHeap → Prop} {Q : Exit → Act → World → Prop}
    (inv0 : Inv w0 ex ρ0 H0 wS) (hns : Region.noSelect ops = true) (hlate : lateOK ops L = true) (hK : ∀ s' H' ρ' a' w', K s' H' → Rel w0 ex N R0 ρ' s' H' a' w' → Q .normal a' w') :
    ∀ (l : List DStep) (listed : Array Bool) (early : Bool), (∀ x ∈ l, x ∈ L ∧ Fits P N ops x) → (∀ x ∈ l, (x.ix ∈ lateOf L ↔ 2 < x.mode)) → goOK ops l listed early = true → Closed ops listed →
      ∀ (s : St) (H : AHeap) (ρ : RMap) (a : Act) (w : World), iopsD P H0 l K s H → Rel w0 ex N R0 ρ s H a w → ρ0.le ρ → (early = true → Old wS w) → wpAnyS P ops (NoP Q) (Phi L) l.length listed a w
  | [], listed, early, _, _, hgo, _, s, H, ρ, a, w, h, rel, _, _ => by
    simp only [goOK, List.isEmpty_iff] at hgo
    exact ⟨hgo, hK _ _ _ _ _ h rel⟩
  | x :: l, listed, early, hmem, hmode, hgo, hcl, s, H, ρ, a, w, h, rel, hle, hold => by
    obtain ⟨hxL, hfit⟩ := hmem x (by simp)
    have hxm := hmode x (by simp)
    simp only [goOK, Bool.and_eq_true] at hgo
    obtain ⟨hx, hgo⟩ := hgo
    obtain ⟨o, ho, hst⟩ := hfit
    rw [ho] at hx
    simp only at hx
    have hready : x.ix ∈ Region.ready .any ops listed := by
      split at hx
      · simp only [Bool.and_eq_true] at hx; simpa using hx.2
      · simp only [Bool.and_eq_true] at hx; simpa using hx.2
      · simp only [Bool.and_eq_true, beq_iff_eq] at hx; rw [hx.2]; simp
      · simp only [beq_iff_eq] at hx; rw [hx]; simp
    have ih := fun s' H' ρ' a' w' h' rel' hle' hold' => dops_sound inv0 hns hlate hK l (listed.setIfInBounds x.ix true) (early && decide (x.mode < 3)) (fun y hy => hmem y (by simp [hy])) (fun y hy => hmode y (by simp [hy])) hgo (hcl.set hready) s' H' ρ' a' w' h' rel' hle' hold'
    simp only [iopsD] at h
    simp only [List.length_cons]
    split at hx
    · rename_i hm
      simp only [Bool.and_eq_true] at hx
      exact soft_sound inv0 hle rel ⟨o, ho, hst⟩ h (.inl ⟨hm, hx.1.1⟩) hns hx.1.2 hx.2 hcl fun s' a' ρ' k1 k2 k3 => ih _ _ ρ' _ _ k1 k2 (hle.le_trans' k3) (fun he => hold (by simp at he; exact he.1))
    · rename_i hm
      simp only [Bool.and_eq_true] at hx
      have hlt : ∀ j ∈ lateOf L, reachB ops ops.size j x.ix = true := fun j hj => by
        have h1 := (List.all_eq_true.1 hlate) j hj
        refine (List.all_eq_true.1 h1) x.ix ?_
        simp only [loadsOf, List.mem_map, List.mem_filter, beq_iff_eq]
        exact ⟨x, ⟨hxL, hm⟩, rfl⟩
      exact soft_sound inv0 hle rel ⟨o, ho, hst⟩ h (.inr ⟨hm, fun o' ho' => (by
          have : o' = o := Option.some.inj (ho'.symm.trans ho)
          subst this; exact hx.1.1.1), hold hx.1.1.2, hlt⟩) hns hx.1.2 hx.2 hcl fun s' a' ρ' k1 k2 k3 => ih _ _ ρ' _ _ k1 k2 (hle.le_trans' k3) (fun he => hold (by simp at he; exact he.1))
    · rename_i hm
      simp only [Bool.and_eq_true, beq_iff_eq] at hx
      refine hard_sound rel ⟨o, ho, hst⟩ h (by omega) (fun _ => ⟨hm, hx.1⟩) hx.2 fun s' H' a' w' ρ' k1 k2 k3 k4 => ih _ _ ρ' _ _ k1 k2 (hle.le_trans' k3) (fun he => ?_)
      have hnl : x.ix ∉ lateOf L := fun hl => by have := hxm.1 hl; omega
      have := k4 hnl
      exact (hold (by simp at he; exact he.1)).step this.1 this.2
    · rename_i hm0 hm1 hm2
      simp only [beq_iff_eq] at hx
      have h3 : 2 < x.mode := by
        have e0 : x.mode ≠ 0 := hm0
        have e1 : x.mode ≠ 1 := hm1
        have e2 : x.mode ≠ 2 := hm2
        omega
      refine hard_sound rel ⟨o, ho, hst⟩ h (by omega) (fun hl => absurd (hxm.2 h3) hl) hx fun s' H' a' w' ρ' k1 k2 k3 _ => ih _ _ ρ' _ _ k1 k2 (hle.le_trans' k3) (fun he => ?_)
      simp at he; omega

/-! ### All orders of what may come in more than one -/
/-- 'soft': taken first · 'alt': one of those that may come, the others behind. -/
inductive DTree where
  | done
  | soft (x : DStep) (t : DTree)
  | alt (x : DStep) (t rest : DTree)
  | none
  deriving Inhabited

def iopsT (P : Program) (H0 : AHeap) : DTree → (St → AHeap → Prop) → St → AHeap → Prop
  | .done, K, s, H => K s H
  | .soft x t, K, s, H => istepD P H0 x (iopsT P H0 t K) s H
  | .alt x t .none, K, s, H => istepD P H0 x (iopsT P H0 t K) s H
  | .alt x t rest, K, s, H => istepD P H0 x (iopsT P H0 t K) s H ∧ iopsT P H0 rest K s H
  | .none, _, _, _ => True

def DTree.steps : DTree → List DStep
  | .done | .none => []
  | .soft x t => x :: t.steps
  | .alt x t rest => x :: (t.steps ++ rest.steps)

/-- 'todo': what of those that may come is not yet there. -/
def treeOK (ops : Array Oper) : DTree → Nat → Array Bool → Bool → Option (List Nat) → Bool
  | .done, n, listed, _, none => n == 0 && (Region.ready .any ops listed).isEmpty
  | .soft x t, n + 1, listed, early, none =>
    (match ops[x.ix]? with
      | some o => (match x.mode with
        | 0 => x.st.op.isPure && Region.free .any ops listed x.ix && (Region.ready .any ops listed).contains x.ix
        | 1 => isLoadOp o.op && early && Region.free .any ops listed x.ix && (Region.ready .any ops listed).contains x.ix
        | _ => false)
      | none => false) && treeOK ops t n (listed.setIfInBounds x.ix true) early none
  | .alt x t rest, n + 1, listed, early, td =>
    let todo := td.getD (Region.ready .any ops listed)
    (!(Region.ready .any ops listed).isEmpty && todo.head? == some x.ix && (Region.ready .any ops listed).contains x.ix && (match x.mode with | 0 | 1 => false | 2 => x.st.op.keeps | _ => true)) &&
      treeOK ops t n (listed.setIfInBounds x.ix true) (early && x.mode < 3) none && treeOK ops rest (n + 1) listed early (some todo.tail)
  | .none, _, _, _, some [] => true
  | _, _, _, _, _ => false

def drawOKT (ops : Array Oper) (T : DTree) : Bool :=
  (T.steps.all fun x => (lateOf T.steps).contains x.ix == decide (2 < x.mode)) && Region.noSelect ops && treeOK ops T ops.size (Array.replicate ops.size false) true none && lateOK ops T.steps

theorem iopsT_alt {H0 : AHeap} {x : DStep} {t rest : DTree} {K : St → AHeap → Prop} {s : St} {H : AHeap} (h : iopsT P H0 (.alt x t rest) K s H) : istepD P H0 x (iopsT P H0 t K) s H ∧ (rest = .none ∨ iopsT P H0 rest K s H) := by
  cases rest with
  | none => exact ⟨h, .inl rfl⟩
  | done => exact ⟨h.1, .inr h.2⟩
  | soft => exact ⟨h.1, .inr h.2⟩
  | alt => exact ⟨h.1, .inr h.2⟩

/-- The steps of a region that draws, in all orders. -/
theorem tops_sound {ρ0 : RMap} {H0 : AHeap} {wS : World} {ops : Array Oper} {L : List DStep} {K : St → AHeap → Prop} {Q : Exit → Act → World → Prop}
    (inv0 : Inv w0 ex ρ0 H0 wS) (hns : Region.noSelect ops = true) (hlate : lateOK ops L = true) (hK : ∀ s' H' ρ' a' w', K s' H' → Rel w0 ex N R0 ρ' s' H' a' w' → Q .normal a' w') :
    ∀ (T : DTree) (n : Nat) (listed : Array Bool) (early : Bool) (td : Option (List Nat)), (∀ x ∈ T.steps, x ∈ L ∧ Fits P N ops x) → (∀ x ∈ T.steps, (x.ix ∈ lateOf L ↔ 2 < x.mode)) → treeOK ops T n listed early td = true → Closed ops listed →
      ∀ (s : St) (H : AHeap) (ρ : RMap) (a : Act) (w : World), (T = .none ∨ iopsT P H0 T K s H) → Rel w0 ex N R0 ρ s H a w → ρ0.le ρ → (early = true → Old wS w) →
        match td with
        | none => wpAnyS P ops (NoP Q) (Phi L) n listed a w
        | some todo => ∀ i ∈ todo, ∀ m, n = m + 1 → wpOp P ops (NoP Q) i (fun a' w' => Phi L i w w' ∧ wpAnyS P ops (NoP Q) (Phi L) m (listed.setIfInBounds i true) a' w') a w := by
  intro T
  induction T with
  | done =>
    intro n listed early td _ _ hok _ s H ρ a w h rel _ _
    cases td with
    | some l => simp [treeOK] at hok
    | none =>
      simp only [treeOK, Bool.and_eq_true, beq_iff_eq, List.isEmpty_iff] at hok
      obtain ⟨rfl, hr⟩ := hok
      rcases h with h | h
      · cases h
      · exact ⟨hr, hK _ _ _ _ _ h rel⟩
  | none =>
    intro n listed early td _ _ hok _ s H ρ a w h rel _ _
    cases td with
    | none => simp [treeOK] at hok
    | some l =>
      cases l with
      | nil => intro i hi; cases hi
      | cons => simp [treeOK] at hok
  | soft x t iht =>
    intro n listed early td hmem hmode hok hcl s H ρ a w h rel hle hold
    cases td with
    | some l => cases n <;> simp [treeOK] at hok
    | none =>
      cases n with
      | zero => simp [treeOK] at hok
      | succ n =>
        obtain ⟨hxL, hfit⟩ := hmem x (by simp [DTree.steps])
        simp only [treeOK, Bool.and_eq_true] at hok
        obtain ⟨hx, hgo⟩ := hok
        obtain ⟨o, ho, hst⟩ := hfit
        rw [ho] at hx
        simp only at hx
        have h : iopsT P H0 (.soft x t) K s H := by rcases h with h | h; cases h; exact h
        have hready : x.ix ∈ Region.ready .any ops listed := by
          split at hx
          · simp only [Bool.and_eq_true] at hx; simpa using hx.2
          · simp only [Bool.and_eq_true] at hx; simpa using hx.2
          · cases hx
        have ih := fun s' a' ρ' w' h' rel' hle' hold' => iht n (listed.setIfInBounds x.ix true) early none (fun y hy => hmem y (by simp [DTree.steps, hy])) (fun y hy => hmode y (by simp [DTree.steps, hy])) hgo (hcl.set hready) s' H ρ' a' w' (.inr h') rel' hle' hold'
        simp only [iopsT] at h
        split at hx
        · rename_i hm
          simp only [Bool.and_eq_true] at hx
          exact soft_sound inv0 hle rel ⟨o, ho, hst⟩ h (.inl ⟨hm, hx.1.1⟩) hns hx.1.2 hx.2 hcl fun s' a' ρ' k1 k2 k3 => ih _ _ ρ' _ k1 k2 (hle.le_trans' k3) hold
        · rename_i hm
          simp only [Bool.and_eq_true] at hx
          have hlt : ∀ j ∈ lateOf L, reachB ops ops.size j x.ix = true := fun j hj => by
            have h1 := (List.all_eq_true.1 hlate) j hj
            refine (List.all_eq_true.1 h1) x.ix ?_
            simp only [loadsOf, List.mem_map, List.mem_filter, beq_iff_eq]
            exact ⟨x, ⟨hxL, hm⟩, rfl⟩
          exact soft_sound inv0 hle rel ⟨o, ho, hst⟩ h (.inr ⟨hm, fun o' ho' => (by
              have : o' = o := Option.some.inj (ho'.symm.trans ho)
              subst this; exact hx.1.1.1), hold hx.1.1.2, hlt⟩) hns hx.1.2 hx.2 hcl fun s' a' ρ' k1 k2 k3 => ih _ _ ρ' _ k1 k2 (hle.le_trans' k3) hold
        · cases hx
  | alt x t rest iht ihr =>
    intro n listed early td hmem hmode hok hcl s H ρ a w h rel hle hold
    cases n with
    | zero => cases td <;> simp [treeOK] at hok
    | succ n =>
      obtain ⟨hxL, hfit⟩ := hmem x (by simp [DTree.steps])
      have hxm := hmode x (by simp [DTree.steps])
      have h : iopsT P H0 (.alt x t rest) K s H := by rcases h with h | h; cases h; exact h
      obtain ⟨h1, h2⟩ := iopsT_alt h
      simp only [treeOK, Bool.and_eq_true, Bool.not_eq_true', List.isEmpty_eq_false_iff, beq_iff_eq] at hok
      obtain ⟨⟨⟨⟨⟨hne, hhead⟩, hin⟩, hm⟩, hgo⟩, hgr⟩ := hok
      have hready : x.ix ∈ Region.ready .any ops listed := by simpa using hin
      have hm' : x.mode ≠ 1 ∧ (x.ix ∉ lateOf L → x.mode = 2 ∧ x.st.op.keeps = true) ∧ x.mode ≠ 0 := by
        split at hm
        · cases hm
        · cases hm
        · rename_i e; exact ⟨by omega, fun _ => ⟨e, hm⟩, by omega⟩
        · rename_i e0 e1 e2
          have e0 : x.mode ≠ 0 := e0
          have e1 : x.mode ≠ 1 := e1
          have e2 : x.mode ≠ 2 := e2
          exact ⟨e1, fun hl => absurd (hxm.2 (by omega)) hl, e0⟩
      have first : wpOp P ops (NoP Q) x.ix (fun a' w' => Phi L x.ix w w' ∧ wpAnyS P ops (NoP Q) (Phi L) n (listed.setIfInBounds x.ix true) a' w') a w := by
        refine hard_op rel hfit h1 hm'.1 hm'.2.1 fun s' H' a' w' ρ' k1 k2 k3 k4 => ?_
        refine iht n (listed.setIfInBounds x.ix true) (early && decide (x.mode < 3)) none (fun y hy => hmem y (by simp [DTree.steps, hy])) (fun y hy => hmode y (by simp [DTree.steps, hy])) hgo (hcl.set hready) s' H' ρ' a' w' (.inr k1) k2 (hle.le_trans' k3) (fun he => ?_)
        simp only [Bool.and_eq_true, decide_eq_true_eq] at he
        have hnl : x.ix ∉ lateOf L := fun hl => by have := hxm.1 hl; omega
        have := k4 hnl
        exact (hold he.1).step this.1 this.2
      have others : ∀ i ∈ (td.getD (Region.ready .any ops listed)).tail, ∀ m, n + 1 = m + 1 → wpOp P ops (NoP Q) i (fun a' w' => Phi L i w w' ∧ wpAnyS P ops (NoP Q) (Phi L) m (listed.setIfInBounds i true) a' w') a w :=
        ihr (n + 1) listed early (some (td.getD (Region.ready .any ops listed)).tail) (fun y hy => hmem y (by simp [DTree.steps, hy])) (fun y hy => hmode y (by simp [DTree.steps, hy])) hgr hcl s H ρ a w h2 rel hle hold
      have all : ∀ i ∈ td.getD (Region.ready .any ops listed), wpOp P ops (NoP Q) i (fun a' w' => Phi L i w w' ∧ wpAnyS P ops (NoP Q) (Phi L) n (listed.setIfInBounds i true) a' w') a w := by
        intro i hi
        generalize td.getD (Region.ready .any ops listed) = l at hi hhead others
        cases l with
        | nil => cases hi
        | cons j l =>
          simp only [List.head?_cons, Option.some.injEq] at hhead
          subst hhead
          rcases List.mem_cons.1 hi with rfl | hi
          · exact first
          · exact others i hi n rfl
      cases td with
      | none => exact ⟨fun h0 => (by rw [h0] at hne; exact (hne rfl).elim), fun i hi => all i hi⟩
      | some todo =>
        intro i hi m hm
        obtain rfl : n = m := by omega
        exact all i hi
end draw
end Go.Vh

