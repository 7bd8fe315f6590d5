/- Composite values, and copy. -/
import Derived.Test.YtjmceapnhmeflaaDoorV2
import Derived.Deep.LoopGhost
set_option linter.unusedSimpArgs false
set_option linter.unusedVariables false
namespace Go.Vh
open Go

variable {P : Program} {a : Act} {ρ : RMap} {s : St} {w0 w : World} {ex : Nat → Prop} {H H' : AHeap}

theorem fold_set (off : Nat) : ∀ (vs : List Value) (k : Nat) (C : Array Value), off + k + vs.length ≤ C.size →
    ((vs.zipIdx k).foldl (fun cs (p : Value × Nat) => cs.setIfInBounds (off + p.2) p.1) C).toList = C.toList.take (off + k) ++ vs ++ C.toList.drop (off + k + vs.length)
  | [], k, C, _ => by simp
  | v :: vs, k, C, h => by
    simp only [List.zipIdx_cons, List.foldl_cons]
    simp only [List.length_cons] at h
    rw [fold_set off vs (k + 1) _ (by simp; omega)]
    simp only [Array.toList_setIfInBounds, List.length_cons]
    have h1 : off + k < C.toList.length := by simp; omega
    rw [List.take_set, List.drop_set]
    simp only [show off + (k + 1) = off + k + 1 by omega]
    rw [if_pos (by omega), List.take_succ_eq_append_getElem h1, List.set_append_right _ _ (by simp; omega)]
    have hm : off + k - min (off + k) C.size = 0 := by omega
    simp [hm, Nat.add_assoc, Nat.add_comm 1 vs.length]

theorem VRelL.splice {l : List AV} {C : List Value} (h : VRelL ρ l C) {cs : List AV} {vs : List Value} (h' : VRelL ρ cs vs) (off : Nat) :
    VRelL ρ (l.take off ++ cs ++ l.drop (off + cs.length)) (C.take off ++ vs ++ C.drop (off + vs.length)) := by
  rw [← VRelL.length h']
  exact ((h.take off).append h').append (h.drop _)

/-- The parts of a composite value, each at its place. -/
inductive Parts (ρ : RMap) (place : Nat → Option (Nat × Nat)) : List (Nat × Nat × AV) → List (Nat × Value) → Prop
  | nil : Parts ρ place [] []
  | cons (i off n u v l l') : place i = some (off, n) → VRel ρ u v → Parts ρ place l l' → Parts ρ place ((off, n, u) :: l) ((i, v) :: l')

theorem fill_ok {place : Nat → Option (Nat × Nat)} : ∀ {ps : List (Nat × Nat × AV)} {ps' : List (Nat × Value)}, Parts ρ place ps ps' → ∀ {cs l : List AV} {C : Array Value}, VRelL ρ cs C.toList → afill cs ps = some l →
    ∃ C', Instr.fill place C ps' = some C' ∧ VRelL ρ l C'.toList ∧ C'.size = C.size
  | _, _, .nil, cs, l, C, hr, h => by
    simp only [afill, Option.some.injEq] at h; subst h
    exact ⟨C, rfl, hr, rfl⟩
  | _, _, .cons i off n u v ps ps' hp hv ht, cs, l, C, hr, h => by
    simp only [afill] at h
    split at h
    · rename_i hc
      obtain ⟨h1, h2, h3⟩ := hc
      have hrel := cells_of_parts hv h3
      have hl := VRelL.length hrel
      have hlC := VRelL.length hr
      simp only [Array.length_toList] at hl hlC
      have hf := fold_set off v.cells.toList 0 C (by simp; omega)
      have hspl := hr.splice hrel off
      rw [h1] at hspl
      obtain ⟨C', k1, k2, k3⟩ := fill_ok ht (C := (v.cells.zipIdx.foldl (fun cs (p : Value × Nat) => cs.setIfInBounds (off + p.2) p.1) C)) (by
        rw [← Array.foldl_toList, Array.toList_zipIdx, hf]
        simp only [Nat.add_zero, Array.length_toList, ← hl, h1] at hspl ⊢
        exact hspl) h
      have hsz : (v.cells.zipIdx.foldl (fun cs (p : Value × Nat) => cs.setIfInBounds (off + p.2) p.1) C).size = C.size := by
        have := congrArg List.length hf
        rw [← Array.foldl_toList, Array.toList_zipIdx]
        simp only [Nat.add_zero, List.length_append, List.length_take, List.length_drop, Array.length_toList] at this
        omega
      refine ⟨C', ?_, k2, by omega⟩
      rw [Instr.fill]
      simp only [hp]
      rw [if_neg (by simp only [Bool.or_eq_true, decide_eq_true_eq]; omega)]
      exact k1
    · cases h

def placesOf (P : Program) (t : TypeId) : Option (List (Nat × Nat)) :=
  match P.underlying t with
  | some (.struct fs) => fs.toList.mapM fun f => (sizeA P f.type).map fun n => (f.offset, n)
  | _ => none

def partsOf (place : Nat → Option (Nat × Nat)) : List (Nat × Operand) → Option (List (Nat × Nat × Opd))
  | [] => some []
  | (i, x) :: l => match place i, Opd.of x, partsOf place l with
    | some (off, n), some x, some r => some ((off, n, x) :: r)
    | _, _, _ => none

theorem parts_rel (hs : SRel ρ s a) {place : Nat → Option (Nat × Nat)} : ∀ {l : List (Nat × Operand)} {r : List (Nat × Nat × Opd)}, partsOf place l = some r →
    Parts ρ place (r.map fun (o, n, x) => (o, n, evo s x)) (l.map fun (i, x) => (i, a.eval x))
  | [], r, h => by simp only [partsOf, Option.some.injEq] at h; subst h; exact .nil
  | (i, x) :: l, r, h => by
    simp only [partsOf] at h
    split at h
    · rename_i off n y r' h1 h2 h3
      simp only [Option.some.injEq] at h; subst h
      exact .cons _ _ _ _ _ _ _ h1 (evo_rel hs h2) (parts_rel hs h3)
    · cases h

theorem run_places {fs : List Field} : ∀ {pl : List (Nat × Nat)}, (fs.mapM fun f => (sizeA P f.type).map fun n => (f.offset, n)) = some pl →
    ∀ w, (fs.mapM (m := Sem) fun f => Prod.mk f.offset <$> sizeOf f.type).run P w = .ok pl w := by
  induction fs with
  | nil => intro pl h w; simp at h; subst h; simp
  | cons f fs ih =>
    intro pl h w
    simp only [List.mapM_cons, Option.pure_def, Option.bind_eq_bind, Option.bind_eq_some_iff, Option.map_eq_some_iff] at h
    obtain ⟨p, ⟨n, hn, rfl⟩, ps, hps, e⟩ := h
    simp only [Option.some.injEq] at e; subst e
    simp [List.mapM_cons, run_size hn, ih hps]

def buildOf (P : Program) (t : TypeId) (parts : Array (Nat × Operand)) : Option (List AV × List (Nat × Nat × Opd)) :=
  match P.info? t, placesOf P t with
  | some ti, some pl => match ti.zero, partsOf (pl[·]?) parts.toList with
    | some z, some ps => some (z.cells.toList.map AV.const1, ps)
    | _, _ => none
  | _, _ => none

variable {dst : Option Nat} {ty : TypeId} {pos : String} {af : Array Edge} {g : Option (Nat × Bool)} {v : AV}

theorem gives_build (hs : SRel ρ s a) {t parts zs ps} (hc : buildOf P t parts = some (zs, ps)) (h : ipure (.build zs ps) s = some v) : Gives P a ⟨dst, .build t parts, ty, pos, af, g⟩ ρ v := by
  unfold buildOf at hc
  split at hc
  · rename_i ti pl hti hpl
    split at hc
    · rename_i z qs hz hqs
      simp only [Option.some.injEq, Prod.mk.injEq] at hc
      obtain ⟨rfl, rfl⟩ := hc
      simp only [ipure, Option.map_eq_some_iff] at h
      obtain ⟨l, hl, rfl⟩ := h
      unfold placesOf at hpl
      split at hpl
      · rename_i fs hfs
        obtain ⟨C', k1, k2, _⟩ := fill_ok (parts_rel hs hqs) (C := z.cells) (VRelL.const1 _) hl
        refine ⟨.agg C', .agg _ _ k2, fun w => ?_⟩
        have hm : (fs.mapM (m := Sem) fun f => Prod.mk f.offset <$> sizeOf f.type).run P w = .ok pl.toArray w := by
          rw [Array.mapM_eq_mapM_toList, Sem.run_map, run_places hpl w]; rfl
        have hparts : (parts.map fun (p : Nat × Operand) => (p.1, a.eval p.2)).toList = parts.toList.map fun (i, x) => (i, a.eval x) := by simp
        simp only [execOp, Instr.build, zeroValue, typeInfo]
        simp [hti, hz, run_und hfs, hm]
        rw [show (fun x : Nat × Operand => (x.1, a.eval x.2)) = fun (i, x) => (i, a.eval x) from rfl, k1]
        simp
      · cases hpl
    · cases hc
  · cases hc

def sliceOf (P : Program) (t : TypeId) (len : Nat) (parts : Array (Nat × Operand)) : Option EOp :=
  match P.underlying t with
  | some (.slice e) => match P.info? e with
    | some ti => match ti.zero, partsOf (fun i => some (i * ti.size, ti.size)) parts.toList with
      | some z, some ps => if len * ti.size ≤ 16777216 ∧ z.cells.size = ti.size then
          some (.buildSlice len (if len * ti.size = 0 then [] else (List.range (len * ti.size)).map fun i => AV.const1 (z.cells[i % z.cells.size]!)) ps) else none
      | _, _ => none
    | none => none
  | _ => none

theorem rel_map {α : Type} (f : α → AV) (f' : α → Value) (h : ∀ x, VRel ρ (f x) (f' x)) : ∀ l : List α, VRelL ρ (l.map f) (l.map f')
  | [] => .nil
  | x :: l => .cons _ _ _ _ (h x) (rel_map f f' h l)

theorem does_buildSlice (inv : Inv w0 ex ρ H w) (hs : SRel ρ s a) {t len parts e} (hc : sliceOf P t len parts = some e) (h : ieff e s H = some (v, H')) : Does P a ⟨dst, .buildSlice t len parts, ty, pos, af, g⟩ w0 ex ρ w v H' e.safe := by
  unfold sliceOf at hc
  split at hc
  · rename_i el hu
    split at hc
    · rename_i ti hti
      split at hc
      · rename_i z ps hz hps
        split at hc
        · rename_i hb
          simp only [Option.some.injEq] at hc; subst hc
          simp only [ieff, Option.bind_eq_some_iff, Option.map_eq_some_iff, Prod.mk.injEq] at h
          obtain ⟨l, hl, H1, h1, rfl, rfl⟩ := h
          obtain ⟨k1, rfl⟩ := anew_spec h1
          have hz0 : VRelL ρ (if len * ti.size = 0 then [] else (List.range (len * ti.size)).map fun i => AV.const1 (z.cells[i % z.cells.size]!)) (madeCells (if len * ti.size = 0 then #[] else z.cells) (len * ti.size)).toList := by
            split
            · rename_i h0; rw [h0]; simp [madeCells]; exact .nil
            · simp only [madeCells, Array.toList_map, Array.toList_range]
              exact rel_map _ _ (fun i => VRel.const1 _) _
          obtain ⟨C', j1, j2, j3⟩ := fill_ok (parts_rel hs hps) hz0 hl
          have hll := VRelL.length j2
          obtain ⟨i1, i2⟩ := inv.alloc false C' el k1 (by rw [hll, List.take_length]; exact j2) (fun _ => by rw [hll]; simp)
          have hp := VRel.slice (ρ := ρ.put H.length ⟨w.heap.size, 0, C'.size⟩) H.length 0 len len ⟨w.heap.size, 0, C'.size⟩ RMap.put_same (Nat.le_refl _)
          refine ⟨.slice (some ⟨w.heap.size, 0, none⟩) len len, _, _, .inl ?_, i2, hp, i1, by simp, fun _ k hk => RowKit.Below.heap_alloc _ _ _ hk⟩
          have hfill : Instr.fill (fun i => some (i * ti.size, ti.size)) (Array.map (fun x => (if len * ti.size = 0 then #[] else z.cells)[x % (if len * ti.size = 0 then #[] else z.cells).size]!) (Array.range (len * ti.size))) (parts.toList.map fun (x : Nat × Operand) => (x.1, a.eval x.2)) = some C' := j1
          have hsz := run_size (P := P) (t := el) (n := ti.size) (by simp [sizeA, hti])
          have hlt : ¬ (16777216 < len * ti.size) := by omega
          by_cases h0 : len * ti.size = 0
          · simp only [h0, if_true] at hfill
            simp [execOp, Instr.buildSlice, run_und hu, hsz, h0, newRow]
            simp at hfill
            rw [hfill]; simp
          · simp only [h0, if_false] at hfill
            simp [execOp, Instr.buildSlice, run_und hu, hsz, h0, hlt, zeroValue, typeInfo, hti, hz, newRow]
            rw [hfill]; simp
        · cases hc
      · cases hc
    · cases hc
  · cases hc

theorem run_copy {t u ty e : TypeId} {sz : Nat} (ht : P.underlying t = some (.slice e)) (hsz : sizeA P e = some sz)
    (b off n cap : Nat) (src : Option Addr) (m c : Nat) (news : List Value) (hfn : (Builtin.firstCells sz (min m n) (.slice src m c)).run P w = .ok news.toArray w)
    (h1 : ∀ u ∈ news, u.oneCell' = true) (hc : ∀ j, j < news.length → (w.cell? ⟨b, off + j, none⟩).isSome = true) (hf : ∀ j, j < news.length → w.frozen? ⟨b, off + j, none⟩ = false) :
    (Builtin.copy_ #[t, u] ty #[.slice (some ⟨b, off, none⟩) n cap, .slice src m c]).run P w = .ok (.int .i64 (min m n : Nat)) (w.setCells b off news) := by
  have hst := run_storeCells_cells (P := P) b off news 0 w (by simpa using hc) (by simpa using hf) h1
  simp only [Nat.add_zero] at hst
  have hm : Nat.min m n = min m n := rfl
  simp [Builtin.copy_, run_und ht, run_size hsz, Builtin.lenOf, hm, hfn, hst, goInt]

theorem run_copy_none {t u ty e : TypeId} {sz : Nat} (ht : P.underlying t = some (.slice e)) (hsz : sizeA P e = some sz)
    (base : Option Addr) (n cap : Nat) (src : Option Addr) (m c : Nat) (h0 : min m n = 0) :
    (Builtin.copy_ #[t, u] ty #[.slice base n cap, .slice src m c]).run P w = .ok (.int .i64 0) w := by
  have hm : Nat.min m n = 0 := h0
  cases base <;> cases src <;> simp [Builtin.copy_, run_und ht, run_size hsz, Builtin.lenOf, hm, Builtin.firstCells, loadCells, loadCellsFrom, storeCells, goInt]

theorem does_copy (inv : Inv w0 ex ρ H w) (hs : SRel ρ s a) {X Y : Operand} {t u e1 : TypeId} {x y : Opd} {sz : Nat} (hx : Opd.of X = some x) (hy : Opd.of Y = some y)
    (ht : P.underlying t = some (.slice e1)) (hsz : sizeA P e1 = some sz)
    (h : ieff (.copy sz x y) s H = some (v, H')) : Does P a ⟨dst, .call ⟨.builtin .copy, #[X, Y], #[t, u]⟩, ty, pos, af, g⟩ w0 ex ρ w v H' false := by
  have rx := evo_rel hs hx
  have ry := evo_rel hs hy
  have fin : ∀ {r w1}, (Builtin.copy_ #[t, u] ty #[a.eval X, a.eval Y]).run P w = .ok r w1 → VRel ρ v r → Inv w0 ex ρ H' w1 → w.heap.size ≤ w1.heap.size → Does P a ⟨dst, .call ⟨.builtin .copy, #[X, Y], #[t, u]⟩, ty, pos, af, g⟩ w0 ex ρ w v H' false := fun {r w1} hr hv hi hsz =>
    ⟨r, w1, ρ, .inl (by simp [execOp, resolve, invoke, builtin, hr]), RMap.le_refl _, hv, hi, hsz, fun h => by cases h⟩
  simp only [ieff] at h
  split at h
  case h_2 => cases h
  rename_i n m hn hm
  simp only [Option.bind_eq_some_iff] at h
  obtain ⟨xs, hxs, h⟩ := h
  obtain ⟨p, c, vs, hY, hrel, hlen, hcells, hfirst⟩ := src_ok (P := P) inv ry hxs hm
  have zero : ∀ {base k}, min m n = 0 → a.eval X = .slice base n k → v = .int .i64 0 → H' = H → Does P a ⟨dst, .call ⟨.builtin .copy, #[X, Y], #[t, u]⟩, ty, pos, af, g⟩ w0 ex ρ w v H' false := fun {base k} h0 hX hv hH => by
    subst hv; subst hH
    refine fin (r := .int .i64 0) ?_ (.int _ _) inv (Nat.le_refl _)
    rw [hX, hY, run_copy_none ht hsz base n k p m c h0]
  have put : ∀ {r off l k}, min m n ≠ 0 → ρ r = some l → a.eval X = .slice (some ⟨l.b, l.d + off, none⟩) n k → (aput H r off (xs.take (min m n * sz))).map (fun H' => (AV.int .i64 (min m n : Nat), H')) = some (v, H') →
      Does P a ⟨dst, .call ⟨.builtin .copy, #[X, Y], #[t, u]⟩, ty, pos, af, g⟩ w0 ex ρ w v H' false := fun {r off l k} h0 hl hX h => by
    simp only [Option.map_eq_some_iff, Prod.mk.injEq] at h
    obtain ⟨H1, h1, rfl, rfl⟩ := h
    obtain ⟨row, k1, k2, k3, k4, rfl⟩ := aput_spec h1
    have hrel' := hrel.take (min m n * sz)
    obtain ⟨i1, i2, i3⟩ := inv.write k1 k2 hl k3 k4 hrel'
    have hlt : min m n * sz ≤ m * sz := Nat.mul_le_mul_right _ (Nat.min_le_left _ _)
    have hf : (Builtin.firstCells sz (min m n) (.slice p m c)).run P w = .ok (vs.take (min m n * sz)).toArray w := by
      cases p with
      | none =>
        have hm0 : ∀ r2 off2 l2 v2, evo s y = .slice r2 off2 l2 v2 → True := fun _ _ _ _ _ => trivial
        have := hfirst w hcells
        simp only [Builtin.firstCells, Sem.run_pure] at this ⊢
        have hv : vs = [] := by
          have : (#[] : Array Value) = vs.toArray := by injection this
          simpa using congrArg Array.toList this.symm
        subst hv; simp
      | some b => exact run_firstCells_some w sz (min m n) b m c _ (by rw [List.length_take, hlen]; omega) (fun j v hj => hcells b j v rfl (by
          rw [List.getElem?_take] at hj
          split at hj
          · exact hj
          · cases hj))
    refine fin ?_ (.int _ _) i1 (by rw [size_setCells]; exact Nat.le_refl _)
    rw [hX, hY, run_copy ht hsz l.b (l.d + off) n k p m c _ hf (oneCells_of hrel' k4) (by simpa using i2) (by simpa using i3)]
  split at h
  · rename_i r off n' cap e0; rw [e0] at rx hn
    simp only [alen, Option.some.injEq] at hn; subst hn
    rcases rx.slice_inv with ⟨l, hl, hle, hX⟩ | ⟨k0, k1, q, hX⟩
    · split at h
      · rename_i h0
        simp only [Option.some.injEq, Prod.mk.injEq] at h
        exact zero h0 hX h.1.symm h.2.symm
      · exact put ‹_› hl hX h
    · subst k0
      rw [if_pos (by simp)] at h
      simp only [Option.some.injEq, Prod.mk.injEq] at h
      exact zero (by simp) hX h.1.symm h.2.symm
  · rename_i r off n' sz' e0; rw [e0] at rx hn
    simp only [alen, Option.some.injEq] at hn; subst hn
    rcases rx.sliceU_inv with ⟨l, k, hl, hle, hfit, hX⟩ | ⟨k0, q, hX⟩
    · split at h
      · rename_i h0
        simp only [Option.some.injEq, Prod.mk.injEq] at h
        exact zero h0 hX h.1.symm h.2.symm
      · split at h
        · exact put ‹_› hl hX h
        · cases h
    · subst k0
      rw [if_pos (by simp)] at h
      simp only [Option.some.injEq, Prod.mk.injEq] at h
      exact zero (by simp) hX h.1.symm h.2.symm
  · rename_i e0; rw [e0] at rx hn
    simp only [alen, Option.some.injEq] at hn; subst hn
    simp only [Option.some.injEq, Prod.mk.injEq] at h
    exact zero (by simp) rx.nilslice_inv h.1.symm h.2.symm
  · cases h

/-- An operation, for the virtual heap. -/
inductive IOp where
  | pure (p : POp)
  | eff (e : EOp)
  | call (f : Opd) (args : List Opd)
  deriving Inhabited

/-- A call of the assembly that looks for a byte in a string. -/
def isIdxByte (P : Program) (f : FuncId) : Bool := match P.funcs[f]? with
  | some fn => fn.body.isNone && fn.name == "internal/bytealg.IndexByteString" && (Extern.findNext fn).isNone
  | none => false
def extOf (P : Program) : Call → Option POp
  | ⟨.value (.func f), ⟨[x, y]⟩, _⟩ => if isIdxByte P f = true then (Opd.of x).bind fun x => (Opd.of y).map fun y => .idxByte x y else none
  | _ => none

theorem find_idxByte {fn : Func} (h : fn.name = "internal/bytealg.IndexByteString") : Extern.find fn = some Extern.BytealgIndexByte.indexByte := by
  have h1 : Extern.allGenericRows.lookup "internal/bytealg.IndexByteString" = none := by kernel_rfl
  have h2 : Extern.allTypedRows.lookup "internal/bytealg.IndexByteString" = none := by kernel_rfl
  have h3 : Extern.allRows.lookup "internal/bytealg.IndexByteString" = some Extern.BytealgIndexByte.indexByte := by kernel_rfl
  simp only [Extern.find, h, h1, h2, h3]
  rfl

theorem gives_ext {P : Program} {a : Act} {ρ : RMap} {s : St} {v : AV} {dst : Option Nat} {ty : TypeId} {pos : String} {af : Array Edge} {g : Option (Nat × Bool)} (hs : SRel ρ s a) {c : Call} {p : POp} (hc : extOf P c = some p) (h : ipure p s = some v) : Gives P a ⟨dst, .call c, ty, pos, af, g⟩ ρ v := by
  unfold extOf at hc
  split at hc
  · rename_i f X Y T
    split at hc
    · rename_i hf
      simp only [Option.bind_eq_some_iff, Option.map_eq_some_iff] at hc
      obtain ⟨x, hx, y, hy, rfl⟩ := hc
      have rx := evo_rel hs hx
      have ry := evo_rel hs hy
      simp only [ipure] at h
      split at h
      · rename_i b n hb hn
        rw [hb] at rx; rw [hn] at ry
        simp only [Option.some.injEq] at h; subst h
        refine ⟨_, .int _ _, fun w => ?_⟩
        unfold isIdxByte at hf
        split at hf
        · rename_i fn hfn
          simp only [Bool.and_eq_true, beq_iff_eq, Option.isNone_iff_eq_none] at hf
          obtain ⟨⟨h1, h2⟩, h3⟩ := hf
          have e := run_callFunc_extern (P := P) (f := f) hfn (by rw [h2]; rfl) (by simp [h1]) h3 (find_idxByte h2) #[.string b, .int .u8 n] w
          have q := run_indexByte_string (P := P) b n w
          have e0 : a.eval (.func f) = .func (.func f) #[] #[] := rfl
          simp [execOp, resolve, Deferred.ofValue, e0, invoke, rx.str_inv, ry.int_inv, e, q, Result.andThen]
        · cases hf
      · cases h
    · cases hc
  · cases hc

def opOf (P : Program) (o : Op) : Option IOp :=
  match o with
  | .build t parts => (buildOf P t parts).map fun x => .pure (.build x.1 x.2)
  | .buildSlice t len parts => (sliceOf P t len parts).map .eff
  | .call c => match extOf P c with
    | some p => some (.pure p)
    | none => match c.callee with
      | .value f => match Opd.of f, opds c.args.toList with
        | some f, some l => some (.call f l)
        | _, _ => none
      | _ => match pureOf P (.call c) with
        | some p => some (.pure p)
        | none => match effOf P (.call c) with
          | some e => some (.eff e)
          | none => some (.pure .stuck)
  | o => match pureOf P o with
    | some p => some (.pure p)
    | none => match effOf P o with
      | some e => some (.eff e)
      | none => some (.pure .stuck)

theorem gives_of_op (hs : SRel ρ s a) {o : Oper} {p : POp} (hc : opOf P o.op = some (.pure p)) (h : ipure p s = some v) : Gives P a o ρ v := by
  obtain ⟨dst, op, ty, pos, af, g⟩ := o
  simp only at hc
  have base : ∀ op, (match pureOf P op with | some p => some (IOp.pure p) | none => match effOf P op with | some e => some (.eff e) | none => some (.pure .stuck)) = some (.pure p) → pureOf P op = some p := fun op hc => by
    split at hc
    · simp only [Option.some.injEq, IOp.pure.injEq] at hc; subst hc; assumption
    · split at hc
      · cases hc
      · simp only [Option.some.injEq, IOp.pure.injEq] at hc; subst hc; simp [ipure] at h
  cases op
  case build t parts =>
    simp only [opOf, Option.map_eq_some_iff] at hc
    obtain ⟨⟨zs, ps⟩, h1, h2⟩ := hc
    simp only [IOp.pure.injEq] at h2; subst h2
    exact gives_build hs h1 h
  case buildSlice t len parts =>
    simp only [opOf, Option.map_eq_some_iff] at hc
    obtain ⟨_, _, e⟩ := hc; cases e
  case call c =>
    simp only [opOf] at hc
    split at hc
    · rename_i p' hp'
      simp only [Option.some.injEq, IOp.pure.injEq] at hc; subst hc
      exact gives_ext hs hp' h
    · split at hc
      · split at hc <;> cases hc
      · exact pure_sound hs (base _ hc) h
  all_goals exact pure_sound hs (base _ hc) h

theorem abytes_ok : ∀ {l : List AV} {ns : List Int}, abytes l = some ns → l = ns.map (AV.int .u8)
  | [], ns, h => by simp only [abytes, Option.some.injEq] at h; subst h; rfl
  | x :: l, ns, h => by
    unfold abytes at h
    split at h
    · cases ‹_ :: _ = []›
    · rename_i n l' e
      cases e
      simp only [Option.map_eq_some_iff] at h
      obtain ⟨r, h1, rfl⟩ := h
      rw [abytes_ok h1]; rfl
    · cases h
theorem VRelL.ints_inv {k : IntKind} : ∀ {ns : List Int} {vs : List Value}, VRelL ρ (ns.map (AV.int k)) vs → vs = ns.map (Value.int k)
  | [], _, h => by cases h; rfl
  | n :: ns, _, h => by
    cases h with
    | cons _ _ _ _ h1 h2 => rw [h1.int_inv, VRelL.ints_inv h2]; rfl
theorem alen_none {x : AV} {n : Nat} {c : Int} {len : Nat} {cap : Nat} (hx : VRel ρ x (.slice none len cap)) (hn : alen x = some n) : len = 0 := by
  unfold alen at hn
  split at hn <;> first | cases hn | skip
  · have := hx.nilslice_inv; cases this; rfl
  · rcases hx.slice_inv with ⟨y, _, _, he⟩ | ⟨h0, h1, p, he⟩
    · cases he
    · cases he; rfl
  · rcases hx.sliceU_inv with ⟨y, c, _, _, _, he⟩ | ⟨h0, p, he⟩
    · cases he
    · cases he; rfl
  · cases hx

theorem does_bytes (inv : Inv w0 ex ρ H w) (hs : SRel ρ s a) {dst : Option Nat} {ty : TypeId} {pos : String} {af : Array Edge} {g : Option (Nat × Bool)} {t u x e} (hc : effOf P (.convert t u x) = some e) (h : ieff e s H = some (v, H')) :
    Does P a ⟨dst, .convert t u x, ty, pos, af, g⟩ w0 ex ρ w v H' e.safe := by
  simp only [effOf, Option.bind_eq_bind, Option.bind_eq_some_iff] at hc
  obtain ⟨x', hx', hc⟩ := hc
  have rx := evo_rel hs hx'
  split at hc
  · rename_i el ht hu
    split at hc
    · rename_i he
      simp only [Option.some.injEq] at hc; subst hc
      simp only [ieff] at h
      split at h
      · rename_i n hn
        simp only [Option.bind_eq_some_iff, Option.map_eq_some_iff, Prod.mk.injEq] at h
        obtain ⟨l, hl, ns, hns, rfl, rfl⟩ := h
        obtain ⟨p, c, vs, k1, k2, k3, k4, _⟩ := src_ok (P := P) inv rx hl hn
        have hlv := abytes_ok hns
        subst hlv
        have hvs := k2.ints_inv
        subst hvs
        have hlen : ns.length = n := by simpa using k3
        refine ⟨.string (strOfNums ns), w, ρ, .inl ?_, RMap.le_refl _, .str _, inv, Nat.le_refl _, fun _ _ _ => rfl⟩
        cases p with
        | none =>
          have h0 := alen_none (c := 0) (by rw [k1] at rx; exact rx) hn
          have : ns = [] := List.length_eq_zero_iff.1 (hlen.trans h0)
          subst this
          have := run_convert_bytes_nil (P := P) w t el ht he n c u hu
          simp [execOp, k1, this]
          rfl
        | some b =>
          have hl2 := run_loadCells_list (P := P) w b (ns.map (Value.int .u8)) (fun j v hj => k4 b j v rfl hj)
          have := run_convert_bytes_string (P := P) w t u el (some b) n c ht he hu
          rw [run_bytesToString w b n c ns (by simpa [hlen] using hl2), foldl_push_bytes] at this
          have e2 : (⟨ByteArray.empty.data ++ (ns.map fun n => UInt8.ofNat n.toNat).toArray⟩ : ByteArray) = strOfNums ns := by simp [strOfNums, ByteArray.empty, ByteArray.emptyWithCapacity]; rfl
          rw [e2] at this
          simp [execOp, k1, this]
      · cases h
    · cases hc
  · cases hc

theorem does_of_op (inv : Inv w0 ex ρ H w) (hs : SRel ρ s a) {o : Oper} {e : EOp} (hc : opOf P o.op = some (.eff e)) (h : ieff e s H = some (v, H')) : Does P a o w0 ex ρ w v H' e.safe := by
  obtain ⟨dst, op, ty, pos, af, g⟩ := o
  simp only at hc
  have base : ∀ op, (match pureOf P op with | some p => some (IOp.pure p) | none => match effOf P op with | some e => some (.eff e) | none => some (.pure .stuck)) = some (.eff e) → effOf P op = some e := fun op hc => by
    split at hc
    · cases hc
    · split at hc
      · simp only [Option.some.injEq, IOp.eff.injEq] at hc; subst hc; assumption
      · cases hc
  cases op
  case build t parts =>
    simp only [opOf, Option.map_eq_some_iff] at hc
    obtain ⟨_, _, e⟩ := hc; cases e
  case buildSlice t len parts =>
    simp only [opOf, Option.map_eq_some_iff] at hc
    obtain ⟨e', h1, h2⟩ := hc
    cases h2
    exact does_buildSlice inv hs h1 h
  case load =>
    obtain ⟨rfl, v', h1, h2⟩ := does_load (dst := dst) (ty := ty) (pos := pos) (af := af) (g := g) inv hs (base _ hc) h
    exact ⟨v', w, ρ, .inl h2, RMap.le_refl _, h1, inv, Nat.le_refl _, fun _ _ _ => rfl⟩
  case alloc => exact does_alloc inv (base _ hc) h
  case box => exact does_box inv hs (base _ hc) h
  case store => exact does_store inv hs (base _ hc) h
  case makeSlice => exact does_make inv hs (base _ hc) h
  case convert => exact does_bytes inv hs (base _ hc) h
  case call c =>
    obtain ⟨callee, ⟨args⟩, ⟨argTypes⟩⟩ := c
    simp only [opOf] at hc
    split at hc
    · cases hc
    split at hc
    · split at hc <;> cases hc
    · have hc := base _ hc
      simp only [effOf] at hc
      split at hc
      · rename_i X Y t u
        simp only [Option.bind_eq_bind, Option.bind_eq_some_iff] at hc
        obtain ⟨x, hx, y, hy, hc⟩ := hc
        split at hc
        · rename_i e1 e2 ht hu
          split at hc
          · rename_i ti hti
            split at hc
            · rename_i z hz
              split at hc
              · rename_i hb
                simp only [Option.some.injEq] at hc; subst hc
                exact does_append inv hs hx hy ht hu hti hz hb.1 hb.2 h
              · cases hc
            · cases hc
          · cases hc
        · cases hc
      · rename_i X Y t u
        simp only [Option.bind_eq_bind, Option.bind_eq_some_iff] at hc
        obtain ⟨x, hx, y, hy, hc⟩ := hc
        split at hc
        · rename_i e1 e2 ht hu
          simp only [Option.map_eq_some_iff] at hc
          obtain ⟨n, hn, rfl⟩ := hc
          exact does_copy inv hs hx hy ht hn h
        · cases hc
      · cases hc
  all_goals (simp only [opOf] at hc; split at hc; · cases hc
             · split at hc
               · rename_i h1; simp [effOf] at h1
               · cases hc)
end Go.Vh


/- Regions, calls, code: a weakest precondition over the virtual heap. -/
namespace Go.Vh
open Go

def exOf (ρ : RMap) (H : AHeap) : Nat → Prop := fun b => ∃ r row x, rowAt H r = some row ∧ row.own = true ∧ ρ r = some x ∧ x.n ≠ 0 ∧ x.b = b

/-- The blocks of the own rows among W. -/
def exW (W : List Nat) (ρ : RMap) (H : AHeap) : Nat → Prop := fun b => ∃ r row x, r ∈ W ∧ rowAt H r = some row ∧ row.own = true ∧ ρ r = some x ∧ x.n ≠ 0 ∧ x.b = b
theorem exW_exOf {W ρ H b} (h : exW W ρ H b) : exOf ρ H b := let ⟨r, row, x, _, h⟩ := h; ⟨r, row, x, h⟩

def enters (P : Program) (f : FuncId) : Bool := (P.funcs[f]?).any fun fn => fn.body.isSome && fn.name != "runtime.NumGoroutine"

/-- What a call of a Go function leaves, said of the virtual heap. Of the rows that were there those alone are written that are 'own' and among W. γ: what is known of the package's variables. -/
structure ACallsG (P : Program) (γ : Nat → AV) (f : FuncId) (args : List AV) (H : AHeap) (W : List Nat) (R : AV → AHeap → Prop) : Prop where
  ent : enters P f = true
  calls : ∀ (ρ : RMap) (w : World) (vs : List Value), Sim w.heap.size (exOf ρ H) ρ H w → VRelL ρ args vs → (∀ g, VRel ρ (γ g) (.pointer (some ⟨g, 0, none⟩))) →
    Calls P f vs.toArray w fun e w' => ∃ v v' ρ' H', e = .returned v' ∧ R v H' ∧ ρ.le ρ' ∧ VRel ρ' v v' ∧ Sim w.heap.size (exOf ρ H) ρ' H' w' ∧ Frm w.heap.size (exW W ρ H) w w' ∧ H.length ≤ H'.length

abbrev noG : Nat → AV := fun _ => .any
abbrev ACalls (P : Program) (f : FuncId) (args : List AV) (H : AHeap) (W : List Nat) (R : AV → AHeap → Prop) : Prop := ACallsG P noG f args H W R

theorem ACallsG.mono {P γ f args H W R R'} (h : ACallsG P γ f args H W R) (hr : ∀ v H', R v H' → R' v H') : ACallsG P γ f args H W R' :=
  ⟨h.ent, fun ρ w vs hs hv hg => (h.calls ρ w vs hs hv hg).mono fun _ _ ⟨v, v', ρ', H', h1, h2, h3⟩ => ⟨v, v', ρ', H', h1, hr _ _ h2, h3⟩⟩
theorem ACalls.mono {P f args H W R R'} (h : ACalls P f args H W R) (hr : ∀ v H', R v H' → R' v H') : ACalls P f args H W R' := ACallsG.mono h hr
/-- What needs no variable of the package serves wherever. -/
theorem ACalls.g {P γ f args H W R} (h : ACalls P f args H W R) : ACallsG P γ f args H W R := ⟨h.ent, fun ρ w vs hs hv _ => h.calls ρ w vs hs hv fun _ => .any _⟩

/-- What a state says of the package's variables. -/
def gl (s : St) : Nat → AV := fun g => s (1048576 + g)

structure IStep where
  dst : Option Nat
  guard : Option (Nat × Bool)
  op : IOp
  deriving Inhabited

def putI (d : Option Nat) (s : St) (v : AV) : St := match d with | some d => upd s d v | none => s

def thenP (K : St → AHeap → Prop) (d : Option Nat) (s : St) (H : AHeap) : Option AV → Prop
  | some v => K (putI d s v) H
  | none => False
def thenE (K : St → AHeap → Prop) (d : Option Nat) (s : St) : Option (AV × AHeap) → Prop
  | some (v, H') => K (putI d s v) H'
  | none => False
def thenC (P : Program) (K : St → AHeap → Prop) (d : Option Nat) (s : St) (H : AHeap) (args : List AV) : AV → Prop
  | .func f caps => ∃ W, ACallsG P (gl s) f (args ++ caps) H W fun v H' => K (putI d s v) H'
  | .bound f first caps => ∃ W, ACallsG P (gl s) f (first ++ (args ++ caps)) H W fun v H' => K (putI d s v) H'
  | _ => False

def iop (P : Program) (d : Option Nat) (o : IOp) (K : St → AHeap → Prop) (s : St) (H : AHeap) : Prop :=
  match o with
  | .pure p => thenP K d s H (ipure p s)
  | .eff e => thenE K d s (ieff e s H)
  | .call f args => thenC P K d s H (args.map (evo s)) (evo s f)

def unv : AV := .lit undef

def guardP (K1 K0 : Prop) (want : Bool) : AV → Prop
  | .bool b => if b = want then K1 else K0
  | .lit (.tuple _) => K0
  | _ => False

def istep (P : Program) (st : IStep) (K : St → AHeap → Prop) (s : St) (H : AHeap) : Prop :=
  match st.guard with
  | none => iop P st.dst st.op K s H
  | some (t, want) => guardP (iop P st.dst st.op K s H) (K (putI st.dst s unv) H) want (s t)

def iops (P : Program) : List IStep → (St → AHeap → Prop) → St → AHeap → Prop
  | [], K, s, H => K s H
  | st :: l, K, s, H => istep P st (iops P l K) s H

def stepOf (P : Program) (N : Nat) (ops : Array Oper) (o : Oper) : Option IStep :=
  match opOf P o.op with
  | some op =>
    if o.dst.all (· < N) = true then
      match o.guard with
      | none => some ⟨o.dst, none, op⟩
      | some (j, want) => match (ops[j]?).bind (·.dst) with
        | some t => if t < N then some ⟨o.dst, some (t, want), op⟩ else none
        | none => none
    else none
  | none => none

section
variable {P : Program} {w0 : World} {ex : Nat → Prop} {N : Nat} {R0 : RMap}

/-- A virtual state and a state of the machine. -/
structure Rel (w0 : World) (ex : Nat → Prop) (N : Nat) (R0 ρ : RMap) (s : St) (H : AHeap) (a : Act) (w : World) : Prop where
  inv : Inv w0 ex ρ H w
  tmps : SRel ρ s a
  size : a.tmps.size = N ∧ N ≤ 1048576
  defers : a.defers = []
  base : R0.le ρ

theorem Rel.put {ρ ρ' : RMap} {s : St} {H H' : AHeap} {a : Act} {w w' : World} (h : Rel w0 ex N R0 ρ s H a w) (hl : ρ.le ρ') (hi : Inv w0 ex ρ' H' w') {d : Option Nat} (hd : d.all (· < N) = true) {v : AV} {v' : Value} (hv : VRel ρ' v v') :
    Rel w0 ex N R0 ρ' (putI d s v) H' (a.put d v') w' := by
  cases d with
  | none => exact ⟨hi, h.tmps.mono hl, h.size, h.defers, RMap.le_trans h.base hl⟩
  | some d =>
    refine ⟨hi, (h.tmps.mono hl).put (by rw [h.size.1]; simpa using hd) (by rw [h.size.1]; exact h.size.2) hv, ?_, h.defers, RMap.le_trans h.base hl⟩
    simp [Act.put, h.size.1, h.size.2]

/-- Where the ex is a row of H, a callee may write it too. -/
theorem exOf_sub {ρ : RMap} {H : AHeap} {w : World} (inv : Inv w0 ex ρ H w) : ∀ b, exOf ρ H b → w0.heap.size ≤ b ∨ ex b := fun b ⟨r, row, x, h1, h2, h3, h4, h5⟩ => by
  have := ((inv.sim.own r row x h1 h2 h3).2.2 h4).1
  rw [h5] at this; exact this

theorem Sim.weaken {B B' : Nat} {ex ex' : Nat → Prop} {ρ : RMap} {H : AHeap} {w : World} (h : Sim B ex ρ H w) (hx : ∀ b, (B ≤ b ∨ ex b) → (B' ≤ b ∨ ex' b)) : Sim B' ex' ρ H w :=
  ⟨h.dom, h.has, h.cells, fun r row x h1 h2 h3 => let ⟨a, b, c⟩ := h.own r row x h1 h2 h3; ⟨a, b, fun hn => ⟨hx _ (c hn).1, (c hn).2⟩⟩, h.dist, h.room⟩

/-- The call, in the caller's terms. -/
theorem Inv.call {ρ : RMap} {H : AHeap} {w : World} (inv : Inv w0 ex ρ H w) {f args W R vs} {γ : Nat → AV} (h : ACallsG P γ f args H W R) (hv : VRelL ρ args vs) (hg : ∀ g, VRel ρ (γ g) (.pointer (some ⟨g, 0, none⟩))) :
    Calls P f vs.toArray w fun e w' => ∃ v v' ρ' H', e = .returned v' ∧ R v H' ∧ ρ.le ρ' ∧ VRel ρ' v v' ∧ Inv w0 ex ρ' H' w' ∧ Frm w.heap.size (exW W ρ H) w w' := by
  have hsim : Sim w.heap.size (exOf ρ H) ρ H w := ⟨inv.sim.dom, inv.sim.has, inv.sim.cells, fun r row x h1 h2 h3 =>
    let ⟨a, b, c⟩ := inv.sim.own r row x h1 h2 h3; ⟨a, b, fun hn => ⟨.inr ⟨r, row, x, h1, h2, h3, hn, rfl⟩, (c hn).2⟩⟩, inv.sim.dist, inv.sim.room⟩
  refine (h.calls ρ w vs hsim hv hg).mono fun e w' ⟨v, v', ρ', H', h1, h2, h3, h4, h5, h6, h7⟩ => ⟨v, v', ρ', H', h1, h2, h3, h4, ⟨h5.weaken fun b hb => ?_, ?_⟩, h6⟩
  · rcases hb with hb | hb
    · exact .inl (Nat.le_trans inv.hle hb)
    · exact exOf_sub inv b hb
  · refine ⟨h6.os.trans inv.frm.os, h6.tape.trans inv.frm.tape, h6.output.trans inv.frm.output, Nat.le_trans inv.frm.size h6.size, fun k hk hne => ?_⟩
    have hk' : k < w.heap.size := Nat.lt_of_lt_of_le hk inv.hle
    have : ¬ exW W ρ H k := fun hx => by
      rcases exOf_sub inv k (exW_exOf hx) with h | h
      · omega
      · exact hne h
    exact (h6.block k hk' this).trans (inv.frm.block k hk hne)

theorem run_call {c : FuncId} {a : Act} {o : Oper} {f : Operand} {args : Array Operand} {tys : Array TypeId} {fs cs : Array Value} (ho : o.op = .call ⟨.value f, args, tys⟩) (hf : a.eval f = .func (.func c) fs cs) (he : enters P c = true) (w : World) :
    (execOp a.eval o).run P w = .ok (.enter c (fs ++ args.map a.eval ++ cs)) w := by
  unfold enters at he
  cases hq : P.funcs[c]? with
  | none => simp [hq] at he
  | some fn =>
    simp [hq] at he
    obtain ⟨h1, h2⟩ := he
    simp [execOp, ho, resolve, Deferred.ofValue, hf, invoke, callFunc, hq, h2]
    intro hb
    rw [hb] at h1
    simp at h1

/-- Which function is called, and with what. -/
def calleeOf (args : List AV) : AV → Option (FuncId × List AV)
  | .func f caps => some (f, args ++ caps)
  | .bound f first caps => some (f, first ++ (args ++ caps))
  | _ => none

theorem callee_rel {ρ : RMap} {fv : AV} {v : Value} (h : VRel ρ fv v) {args all : List AV} {c : FuncId} (hc : calleeOf args fv = some (c, all)) {A : Array Operand} {a : Act} (ha : VRelL ρ args (A.toList.map a.eval)) :
    ∃ fs cs vs, v = .func (.func c) fs cs ∧ VRelL ρ all vs ∧ vs.toArray = fs ++ A.map a.eval ++ cs := by
  unfold calleeOf at hc
  split at hc
  · simp only [Option.some.injEq, Prod.mk.injEq] at hc
    obtain ⟨rfl, rfl⟩ := hc
    obtain ⟨cs, rfl, hr⟩ := h.func_inv
    exact ⟨_, _, _, rfl, ha.append hr, by apply Array.ext'; simp⟩
  · simp only [Option.some.injEq, Prod.mk.injEq] at hc
    obtain ⟨rfl, rfl⟩ := hc
    obtain ⟨fs, cs, rfl, hk, hr⟩ := h.bound_inv
    exact ⟨_, _, _, rfl, hk.append (ha.append hr), by apply Array.ext'; simp⟩
  · cases hc

theorem thenC_spec {K : St → AHeap → Prop} {d : Option Nat} {s : St} {H : AHeap} {args : List AV} {fv : AV} (h : thenC P K d s H args fv) :
    ∃ c all W, calleeOf args fv = some (c, all) ∧ ACallsG P (gl s) c all H W (fun v H' => K (putI d s v) H') := by
  unfold thenC at h
  split at h
  · obtain ⟨W, h⟩ := h; exact ⟨_, _, W, rfl, h⟩
  · obtain ⟨W, h⟩ := h; exact ⟨_, _, W, rfl, h⟩
  · exact h.elim

theorem Rel.glob {ρ : RMap} {s : St} {H : AHeap} {a : Act} {w : World} (rel : Rel w0 ex N R0 ρ s H a w) (g : Nat) : VRel ρ (gl s g) (.pointer (some ⟨g, 0, none⟩)) := by
  have := rel.tmps (1048576 + g)
  rwa [tv_glob] at this

theorem opOf_call {op' : Op} {f : Opd} {args : List Opd} (hop : opOf P op' = some (.call f args)) : ∃ F A T, op' = .call ⟨.value F, A, T⟩ ∧ Opd.of F = some f ∧ opds A.toList = some args := by
  have base : ∀ op, (match pureOf P op with | some p => some (IOp.pure p) | none => match effOf P op with | some e => some (.eff e) | none => some (.pure .stuck)) = some (.call f args) → False := fun op hc => by
    split at hc
    · cases hc
    · split at hc <;> cases hc
  cases op'
  case call c =>
    obtain ⟨callee, A, T⟩ := c
    simp only [opOf] at hop
    split at hop
    · cases hop
    split at hop
    · rename_i F _
      split at hop
      · rename_i f' l hf hl
        simp only [Option.some.injEq, IOp.call.injEq] at hop
        obtain ⟨rfl, rfl⟩ := hop
        exact ⟨F, A, T, rfl, hf, hl⟩
      · cases hop
    · exact (base _ hop).elim
  case build => simp only [opOf, Option.map_eq_some_iff] at hop; obtain ⟨_, _, e⟩ := hop; cases e
  case buildSlice => simp only [opOf, Option.map_eq_some_iff] at hop; obtain ⟨_, _, e⟩ := hop; cases e
  all_goals
    simp only [opOf] at hop
    split at hop
    · cases hop
    · split at hop <;> cases hop

/-- One operation. -/
theorem iop_sound {ρ : RMap} {s : St} {H : AHeap} {a : Act} {w : World} (rel : Rel w0 ex N R0 ρ s H a w) {o : Oper} {op : IOp} (hop : opOf P o.op = some op) (hd : o.dst.all (· < N) = true) {K : St → AHeap → Prop}
    (h : iop P o.dst op K s H) {next : Act → World → Prop} {Q : Exit → Act → World → Prop} (hK : ∀ s' H' ρ' a' w', K s' H' → Rel w0 ex N R0 ρ' s' H' a' w' → next a' w') : o.wp P a w next Q := by
  unfold Oper.wp
  cases op with
  | pure p =>
    simp only [iop] at h
    cases hp : ipure p s with
    | none => rw [hp] at h; exact h.elim
    | some v =>
      rw [hp] at h
      obtain ⟨v', h1, h2⟩ := gives_of_op rel.tmps hop hp
      rw [h2 w]
      exact hK _ _ _ _ _ h (rel.put (RMap.le_refl _) rel.inv hd h1)
  | eff e =>
    simp only [iop] at h
    cases hp : ieff e s H with
    | none => rw [hp] at h; exact h.elim
    | some r =>
      obtain ⟨v, H'⟩ := r
      rw [hp] at h
      obtain ⟨v', w', ρ', h1, h2, h3, h4, _, _⟩ := does_of_op rel.inv rel.tmps hop hp
      rcases h1 with h1 | ⟨h1, rfl⟩
      · rw [h1]; exact hK _ _ _ _ _ h (rel.put h2 h4 hd h3)
      · rw [h1]; exact hK _ _ _ _ _ h (rel.put h2 h4 hd h3)
  | call f args =>
    simp only [iop] at h
    obtain ⟨dst, op', ty, pos, af, g⟩ := o
    simp only at hop hd h
    obtain ⟨F, A, T, ho, hF, hA⟩ := opOf_call hop
    have rf := evo_rel rel.tmps hF
    obtain ⟨c, all, W, hc, h⟩ := thenC_spec h
    obtain ⟨fs, cs, vs, hcs, hrel, hvs⟩ := callee_rel rf hc (opds_rel rel.tmps hA)
    rw [run_call (o := ⟨dst, op', ty, pos, af, g⟩) ho hcs h.ent w]
    have hcall := rel.inv.call h hrel rel.glob
    rw [hvs] at hcall
    simp only [Oper.upon]
    refine hcall.mono fun e w' ⟨v, v', ρ', H', h1, h2, h3, h4, h5, _⟩ => ?_
    subst h1
    exact hK _ _ _ _ _ h2 (rel.put h3 h5 hd h4)

theorem wanted_of {ρ : RMap} {s : St} {H : AHeap} {a : Act} {w : World} (rel : Rel w0 ex N R0 ρ s H a w) {ops : Array Oper} {o : Oper} {j t : Nat} {want : Bool} (hg : o.guard = some (j, want)) (hj : (ops[j]?).bind (·.dst) = some t) (ht : t < N) :
    (∀ b, s t = .bool b → Region.wanted o (yielded ops a.tmps) = (b == want)) ∧ (∀ vs, s t = .lit (.tuple vs) → Region.wanted o (yielded ops a.tmps) = false) := by
  have hr := rel.tmps t
  rw [tv_lt (by have := rel.size.2; omega)] at hr
  have hv : a.tmps[t]? = some (a.tmps.getD t undef) := by
    rw [Array.getD_eq_getD_getElem?, Array.getElem?_eq_getElem (by rw [rel.size.1]; exact ht)]; rfl
  refine ⟨fun b hb => ?_, fun vs hb => ?_⟩
  · rw [hb] at hr
    rw [hr.bool_inv] at hv
    simp [Region.wanted, hg, yielded, hj, hv]
  · rw [hb] at hr
    have hu : a.tmps.getD t undef = .tuple vs := by
      generalize a.tmps.getD t undef = u at hr
      cases hr; rfl
    rw [hu] at hv
    simp [Region.wanted, hg, yielded, hj, hv]

/-- One operation, guarded or not. -/
theorem istep_sound {ρ : RMap} {s : St} {H : AHeap} {a : Act} {w : World} (rel : Rel w0 ex N R0 ρ s H a w) {ops : Array Oper} {o : Oper} {st : IStep} (hst : stepOf P N ops o = some st) {K : St → AHeap → Prop}
    (h : istep P st K s H) {next : Act → World → Prop} {Q : Exit → Act → World → Prop} (hK : ∀ s' H' ρ' a' w', K s' H' → Rel w0 ex N R0 ρ' s' H' a' w' → next a' w') :
    if Region.wanted o (yielded ops a.tmps) then o.wp P a w next Q else next (a.put o.dst undef) w := by
  unfold stepOf at hst
  split at hst
  · rename_i op hop
    split at hst
    · rename_i hd
      split at hst
      · rename_i hg
        simp only [Option.some.injEq] at hst; subst hst
        have : Region.wanted o (yielded ops a.tmps) = true := by simp [Region.wanted, hg]
        rw [if_pos this]
        exact iop_sound rel hop hd h hK
      · rename_i j want hg
        split at hst
        · rename_i t hj
          split at hst
          · rename_i ht
            simp only [Option.some.injEq] at hst; subst hst
            obtain ⟨w1, w2⟩ := wanted_of rel hg hj ht
            simp only [istep] at h
            unfold guardP at h
            have skip : K (putI o.dst s unv) H → next (a.put o.dst undef) w := fun hk => hK _ _ _ _ _ hk (rel.put (RMap.le_refl _) rel.inv hd (.lit _))
            split at h
            · rename_i b hb
              rw [w1 b hb]
              split at h
              · rename_i e; subst e
                rw [if_pos (by simp)]
                exact iop_sound rel hop hd h hK
              · rename_i e
                rw [if_neg (by simpa using e)]
                exact skip h
            · rename_i vs hb
              rw [w2 vs hb]
              exact skip h
            · exact h.elim
          · cases hst
        · cases hst
    · cases hst
  · cases hst

/-- A region in the order of the text. -/
theorem iops_sound {ops : Array Oper} {Q : Exit → Act → World → Prop} {K : St → AHeap → Prop} (hK : ∀ s' H' ρ' a' w', K s' H' → Rel w0 ex N R0 ρ' s' H' a' w' → Q .normal a' w') :
    ∀ (l : List IStep) (k : Nat), (∀ j, (h : j < l.length) → ∃ o, ops[k + j]? = some o ∧ stepOf P N ops o = some l[j]) → ∀ (s : St) (H : AHeap) (ρ : RMap) (a : Act) (w : World), iops P l K s H → Rel w0 ex N R0 ρ s H a w →
      wpOps P ops Q (List.range' k l.length) a w
  | [], k, _, s, H, ρ, a, w, h, rel => hK _ _ _ _ _ h rel
  | st :: l, k, hl, s, H, ρ, a, w, h, rel => by
    obtain ⟨o, ho, hst⟩ := hl 0 (by simp)
    simp only [Nat.add_zero, List.getElem_cons_zero] at ho hst
    simp only [List.length_cons, List.range'_succ]
    have ih := fun s' H' ρ' a' w' h' rel' => iops_sound hK l (k + 1) (fun j hj => by
      obtain ⟨o', h1, h2⟩ := hl (j + 1) (by simp; omega)
      exact ⟨o', by rw [show k + 1 + j = k + (j + 1) by omega]; exact h1, by simpa using h2⟩) s' H' ρ' a' w' h' rel'
    have := istep_sound (Q := Q) rel hst h (next := wpOps P ops Q (List.range' (k + 1) l.length)) ih
    simp only [wpOps, ho]
    split
    · rename_i hw; rw [if_pos hw] at this; exact .inl this
    · rename_i hw; rw [if_neg hw] at this; exact this
end
end Go.Vh

