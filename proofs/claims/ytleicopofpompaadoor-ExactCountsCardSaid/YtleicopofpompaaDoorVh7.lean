/- append and copy. -/
import Derived.Test.YtleicopofpompaaDoorVh6
set_option linter.unusedSimpArgs false
set_option linter.unusedVariables false
namespace Go.Vh
open Go

variable {P : Program} {a : Act} {ρ : RMap} {s : St} {w0 w : World} {ex : Nat → Prop} {H H' : AHeap}

theorem run_append_grows {t u ty e e' : TypeId} {i : TypeInfo} {z : Value} (ht : P.underlying t = some (.slice e)) (hu : P.underlying u = some (.slice e')) (hi : P.info? e = some i) (hz : i.zero = some z)
    (base : Option Addr) (sLen sCap : Nat) (olds : List Value) (hfo : ∀ w, w.heap = w.heap → (∀ b j v, base = some b → olds[j]? = some v → w.cell? (b.add j) = some v) → (Builtin.firstCells i.size sLen (.slice base sLen sCap)).run P w = .ok olds.toArray w)
    (holds : ∀ b j v, base = some b → olds[j]? = some v → w.cell? (b.add j) = some v)
    (src : Option Addr) (n c : Nat) (news : List Value) (hfn : ∀ w, (∀ b j v, src = some b → news[j]? = some v → w.cell? (b.add j) = some v) → (Builtin.firstCells i.size n (.slice src n c)).run P w = .ok news.toArray w)
    (hnews : ∀ b j v, src = some b → news[j]? = some v → w.cell? (b.add j) = some v)
    (hg : sCap < sLen + n) (hb : (sLen + n) * i.bytes ≤ 140737488355328) (h63 : sLen + n ≤ 9223372036854775807) :
    (Builtin.append_ #[t, u] ty #[.slice base sLen sCap, .slice src n c]).run P w =
      .ok (.slice (some ⟨w.heap.size, 0, none⟩) (sLen + n) (grownCap w (sLen + n) sCap e))
        (w.drew.alloc (.cells (olds.toArray ++ news.toArray ++ Builtin.zeroCells z.cells (grownCap w (sLen + n) sCap e - (sLen + n))) e)) := by
  have hn : ¬ (sLen + n ≤ sCap) := by omega
  have h63' : ¬ (9223372036854775807 < ((sLen : Int) + (n : Int))) := by omega
  have h48 := growslice_fits hg hb
  have h48' : ¬ (281474976710656 < Builtin.nextslicecap (sLen + n) sCap * i.bytes) := by omega
  have hf := hfn w.drew (by simpa using hnews)
  have hfo := hfo w.drew rfl (by simpa using holds)
  simp [Builtin.append_, run_und ht, run_und hu, sizeOf, typeInfo, zeroValue, hi, hz, Builtin.lenOf, hn, h63', h48', Question.forced, hf, hfo, newRow, grownCap]
  congr 2
  apply Array.ext'
  simp [List.append_assoc]

theorem run_append_fits' {t u ty e e' : TypeId} {i : TypeInfo} (ht : P.underlying t = some (.slice e)) (hu : P.underlying u = some (.slice e')) (hi : P.info? e = some i)
    (b off sLen sCap : Nat) (src : Option Addr) (n c : Nat) (news : List Value) (hfn : (Builtin.firstCells i.size n (.slice src n c)).run P w = .ok news.toArray w)
    (hroom : sLen + n ≤ sCap) (h1 : ∀ u ∈ news, u.oneCell' = true) (hc : ∀ j, j < news.length → (w.cell? ⟨b, off + sLen * i.size + j, none⟩).isSome = true) (hf : ∀ j, j < news.length → w.frozen? ⟨b, off + sLen * i.size + j, none⟩ = false) :
    (Builtin.append_ #[t, u] ty #[.slice (some ⟨b, off, none⟩) sLen sCap, .slice src n c]).run P w = .ok (.slice (some ⟨b, off, none⟩) (sLen + n) sCap) (w.setCells b (off + sLen * i.size) news) := by
  have hst := run_storeCells_cells (P := P) b (off + sLen * i.size) news 0 w (by simpa using hc) (by simpa using hf) h1
  simp only [Nat.add_zero] at hst
  simp [Builtin.append_, run_und ht, run_und hu, sizeOf, typeInfo, hi, Builtin.lenOf, hroom, hfn, Addr.add_eq, hst]

/-- Nothing is appended to what is empty. -/
theorem run_append_nothing {t u ty e e' : TypeId} {i : TypeInfo} (ht : P.underlying t = some (.slice e)) (hu : P.underlying u = some (.slice e')) (hi : P.info? e = some i)
    (base : Option Addr) (src : Option Addr) (c : Nat) (hfn : (Builtin.firstCells i.size 0 (.slice src 0 c)).run P w = .ok #[] w) :
    (Builtin.append_ #[t, u] ty #[.slice base 0 0, .slice src 0 c]).run P w = .ok (.slice base 0 0) w := by
  cases base <;> simp [Builtin.append_, run_und ht, run_und hu, sizeOf, typeInfo, hi, Builtin.lenOf, hfn, storeCells]

/-- A slice's cells, as the builtins read them. -/
theorem src_ok (inv : Inv w0 ex ρ H w) {sz : Nat} {x : AV} {x' : Value} (hx : VRel ρ x x') {xs : List AV} (h : asrc sz x H = some xs) {n : Nat} (hn : alen x = some n) :
    ∃ p c vs, x' = .slice p n c ∧ VRelL ρ xs vs ∧ vs.length = n * sz ∧ (∀ b j v, p = some b → vs[j]? = some v → w.cell? (b.add j) = some v) ∧
      (∀ w', (∀ b j v, p = some b → vs[j]? = some v → w'.cell? (b.add j) = some v) → (Builtin.firstCells sz n (.slice p n c)).run P w' = .ok vs.toArray w') := by
  have none : ∀ {p c}, n * sz = 0 → x' = .slice p n c → xs = [] → ∃ p c vs, x' = .slice p n c ∧ VRelL ρ xs vs ∧ vs.length = n * sz ∧ (∀ b j v, p = some b → vs[j]? = some v → w.cell? (b.add j) = some v) ∧
      (∀ w', (∀ b j v, p = some b → vs[j]? = some v → w'.cell? (b.add j) = some v) → (Builtin.firstCells sz n (.slice p n c)).run P w' = .ok vs.toArray w') := fun {p c} h0 he hxs => by
    subst hxs
    refine ⟨p, c, [], he, .nil, by simp [h0], fun b j v _ hj => by simp at hj, fun w' _ => ?_⟩
    cases p <;> simp [Builtin.firstCells, h0, loadCells, loadCellsFrom]
  have some_ : ∀ {p c r off y}, n * sz ≠ 0 → x' = .slice (some ⟨p, c, Option.none⟩) n y → ∀ l : Loc, ρ r = some l → p = l.b → c = l.d + off → cellsAt H r off (n * sz) = some xs →
      ∃ p c vs, x' = .slice p n c ∧ VRelL ρ xs vs ∧ vs.length = n * sz ∧ (∀ b j v, p = some b → vs[j]? = some v → w.cell? (b.add j) = some v) ∧
      (∀ w', (∀ b j v, p = some b → vs[j]? = some v → w'.cell? (b.add j) = some v) → (Builtin.firstCells sz n (.slice p n c)).run P w' = .ok vs.toArray w') := fun {p c r off y} h0 he l hl hp hc h => by
    subst hp; subst hc
    obtain ⟨row, hr, hle, rfl⟩ := cellsAt_spec h
    obtain ⟨vs, k1, k2, k3, k4⟩ := inv.sim.read hr hl hle
    refine ⟨_, _, vs, he, k2, k1, fun b j v hb hj => ?_, fun w' hw' => ?_⟩
    · cases hb; exact k4 j v hj
    · exact run_firstCells_some w' sz n _ n y vs k1 (fun j v hj => hw' _ j v rfl hj)
  unfold asrc at h
  unfold alen at hn
  split at h
  · simp only [Option.some.injEq] at hn h; subst hn; subst h
    exact none (by simp) hx.nilslice_inv rfl
  · rename_i r off m c
    simp only [Option.some.injEq] at hn; subst hn
    split at h
    · rename_i h0
      simp only [Option.some.injEq] at h
      rcases hx.slice_inv with ⟨y, hy, hle, he⟩ | ⟨k0, k1, q, he⟩
      · exact none h0 he h.symm
      · subst k0; exact none h0 he h.symm
    · rename_i h0
      rcases hx.slice_inv with ⟨y, hy, hle, he⟩ | ⟨k0, k1, q, he⟩
      · exact some_ h0 he y hy rfl rfl h
      · subst k0; simp at h0
  · rename_i r off m sz'
    simp only [Option.some.injEq] at hn; subst hn
    split at h
    · rename_i hsz; subst hsz
      split at h
      · rename_i h0
        simp only [Option.some.injEq] at h
        rcases hx.sliceU_inv with ⟨y, c, hy, hle, hfit, he⟩ | ⟨k0, q, he⟩
        · exact none h0 he h.symm
        · subst k0; exact none h0 he h.symm
      · rename_i h0
        rcases hx.sliceU_inv with ⟨y, c, hy, hle, hfit, he⟩ | ⟨k0, q, he⟩
        · exact some_ h0 he y hy rfl rfl h
        · subst k0; simp at h0
    · cases h
  · simp only [Option.some.injEq] at hn; subst hn
    split at h
    · rename_i h0
      simp only [Option.some.injEq] at h
      cases hx
      exact none (by rw [h0, Nat.zero_mul]) rfl h.symm
    · cases h
  · cases h

theorem grownCap_le (w : World) (need old : Nat) (e : TypeId) : need ≤ grownCap w need old e := by
  exact Nat.le_add_right _ _
theorem size_zeroCells (z : Array Value) (n : Nat) : (Builtin.zeroCells z n).size = n * z.size := by simp [Builtin.zeroCells]

/-- What has grown, for the invariant. -/
theorem Inv.grown (inv : Inv w0 ex ρ H w) {cells : List AV} {vs : List Value} (hrel : VRelL ρ cells vs) (hcell : cells.all AV.cell = true) (Z : Array Value) (e : TypeId) (sz len cap : Nat)
    (hcap : cap * sz ≤ vs.length + Z.size) (hle : len ≤ cap) :
    ∃ ρ', ρ.le ρ' ∧ VRel ρ' (.sliceU H.length 0 len sz) (.slice (some ⟨w.heap.size, 0, none⟩) len cap) ∧ Inv w0 ex ρ' (H ++ [some ⟨true, true, cells⟩]) (w.drew.alloc (.cells (vs.toArray ++ Z) e)) := by
  have inv' : Inv w0 ex ρ H w.drew := ⟨inv.sim.drew, inv.frm.drew⟩
  have hl := VRelL.length hrel
  obtain ⟨i1, i2⟩ := inv'.alloc true (vs.toArray ++ Z) e hcell (by simp [hl]; exact hrel) (by simp)
  refine ⟨_, i2, ?_, i1⟩
  have := VRel.sliceU (ρ := ρ.put H.length ⟨w.drew.heap.size, 0, (vs.toArray ++ Z).size⟩) H.length 0 len sz cap ⟨w.drew.heap.size, 0, (vs.toArray ++ Z).size⟩ RMap.put_same hle (by simp; omega)
  simpa using this

variable {dst : Option Nat} {ty : TypeId} {pos : String} {af : Array Edge} {g : Option (Nat × Bool)} {v : AV}

theorem all_append {l l' : List AV} (h : l.all AV.cell = true) (h' : l'.all AV.cell = true) : (l ++ l').all AV.cell = true := by
  simp only [List.all_append, h, h', Bool.and_self]


theorem app_case {t u : TypeId} {X Y : Operand} {r : Value} {w1 : World} (hrun : (Builtin.append_ #[t, u] ty #[a.eval X, a.eval Y]).run P w = .ok r w1)
    {ρ' : RMap} (hle : ρ.le ρ') (hv : VRel ρ' v r) (hi : Inv w0 ex ρ' H' w1) (hsz : w.heap.size ≤ w1.heap.size) :
    Does P a ⟨dst, .call ⟨.builtin .append, #[X, Y], #[t, u]⟩, ty, pos, af, g⟩ w0 ex ρ w v H' false :=
  ⟨r, w1, ρ', .inl (by simp [execOp, resolve, invoke, builtin, hrun]), hle, hv, hi, hsz, fun h => by cases h⟩

theorem does_append (inv : Inv w0 ex ρ H w) (hs : SRel ρ s a) {X Y : Operand} {t u e1 e2 : TypeId} {x y : Opd} {ti : TypeInfo} {z : Value} (hx : Opd.of X = some x) (hy : Opd.of Y = some y)
    (ht : P.underlying t = some (.slice e1)) (hu : P.underlying u = some (.slice e2)) (hi : P.info? e1 = some ti) (hz : ti.zero = some z) (hpos : 0 < ti.bytes) (hzc : z.cells.size = ti.size)
    (h : ieff (.append ti.size ti.bytes x y) s H = some (v, H')) : Does P a ⟨dst, .call ⟨.builtin .append, #[X, Y], #[t, u]⟩, ty, pos, af, g⟩ w0 ex ρ w v H' false := by
  have rx := evo_rel hs hx
  have ry := evo_rel hs hy
  simp only [ieff] at h
  split at h
  case h_2 => cases h
  rename_i n hn
  simp only [Option.bind_eq_some_iff] at h
  obtain ⟨xs, hxs, h⟩ := h
  obtain ⟨p, c, vs, hy', hrel, hlen, hcells, hfirst⟩ := src_ok (P := P) inv ry hxs hn
  -- what grows, out of whatever was there
  have grow : ∀ (H : AHeap) (_ : Inv w0 ex ρ H w) (base : Option Addr) (sLen sCap : Nat) (olds : List Value) (old : List AV), a.eval X = .slice base sLen sCap → VRelL ρ old olds → olds.length = sLen * ti.size →
      (∀ b j v, base = some b → olds[j]? = some v → w.cell? (b.add j) = some v) → (base = none → sLen = 0) → (old ++ xs).all AV.cell = true → sCap < sLen + n → (sLen + n) * ti.bytes ≤ 70368744177664 → sLen + n ≤ 9223372036854775807 →
      ∃ r w1 ρ', (Builtin.append_ #[t, u] ty #[a.eval X, a.eval Y]).run P w = .ok r w1 ∧ ρ.le ρ' ∧ VRel ρ' (.sliceU H.length 0 (sLen + n) ti.size) r ∧ Inv w0 ex ρ' (H ++ [some ⟨true, true, old ++ xs⟩]) w1 ∧ w.heap.size ≤ w1.heap.size := by
    intro H inv base sLen sCap olds old hX hro hlo hco hb0 hall hg hbytes h63
    have hrun := run_append_grows (P := P) (w := w) (ty := ty) ht hu hi hz base sLen sCap olds (fun w' _ hw' => by
        cases base with
        | none =>
          have : olds = [] := List.length_eq_zero_iff.1 (by rw [hlo, hb0 rfl, Nat.zero_mul])
          subst this
          exact run_firstCells_none w' _ _ _ _
        | some b => exact run_firstCells_some w' _ _ _ _ _ olds hlo (fun j v hj => hw' b j v rfl hj)) hco p n c vs (fun w' hw' => hfirst w' hw') hcells hg (by omega) h63
    have hcap := grownCap_le w (sLen + n) sCap e1
    obtain ⟨ρ', k1, k2, k3⟩ := inv.grown (VRelL.append hro hrel) hall (Builtin.zeroCells z.cells (grownCap w (sLen + n) sCap e1 - (sLen + n))) e1 ti.size (sLen + n) (grownCap w (sLen + n) sCap e1)
      (by rw [size_zeroCells, hzc, List.length_append, hlo, hlen, ← Nat.add_mul, ← Nat.add_mul]; exact Nat.le_of_eq (by congr 1; omega)) hcap
    refine ⟨_, _, ρ', ?_, k1, k2, k3, by simp⟩
    rw [hX, hy', hrun]
    simp
  -- the slice is empty, and has no room
  have fresh : ∀ (H : AHeap) (_ : Inv w0 ex ρ H w) (base : Option Addr), a.eval X = .slice base 0 0 → xs.all AV.cell = true → n * ti.bytes ≤ 70368744177664 → n ≤ 9223372036854775807 →
      ∃ r w1 ρ', (Builtin.append_ #[t, u] ty #[a.eval X, a.eval Y]).run P w = .ok r w1 ∧ ρ.le ρ' ∧ VRel ρ' (.sliceU H.length 0 n ti.size) r ∧ Inv w0 ex ρ' (H ++ [some ⟨true, true, xs⟩]) w1 ∧ w.heap.size ≤ w1.heap.size := by
    intro H inv base hX hall hbytes h63
    by_cases hn0 : n = 0
    · subst hn0
      have hvs : vs = [] := List.length_eq_zero_iff.1 (by rw [hlen, Nat.zero_mul])
      subst hvs
      cases hrel
      have hrun := run_append_nothing (P := P) (w := w) (ty := ty) ht hu hi base p c (hfirst w hcells)
      refine ⟨.slice base 0 0, w, ρ.put H.length ⟨0, 0, 0⟩, by rw [hX, hy', hrun], RMap.le_put (inv.sim.dom _ (Nat.le_refl _)), .sliceU0 _ _ _ _, ⟨?_, inv.frm⟩, Nat.le_refl _⟩
      exact inv.sim.push ⟨true, true, []⟩ ⟨0, 0, 0⟩ (fun i c hi => by simp at hi) (fun _ => ⟨by simp, by simp, fun hn => absurd rfl hn⟩) (fun _ _ _ _ _ _ _ _ hn _ => absurd rfl hn) (fun hne => absurd rfl hne)
    · have := grow H inv base 0 0 [] [] hX .nil (by simp) (fun b j v _ hj => by simp at hj) (fun _ => rfl) (by simpa using hall) (by omega) (by simpa using hbytes) (by simpa using h63)
      simpa using this
  have small : ∀ {m : Nat}, m * ti.bytes ≤ 70368744177664 → m ≤ 9223372036854775807 := fun {m} hm => by
    have := Nat.le_mul_of_pos_right m hpos
    omega
  unfold aappend at h
  split at h
  · rename_i e0; rw [e0] at rx
    split at h
    · rename_i hb
      simp only [Option.map_eq_some_iff, Prod.mk.injEq] at h
      obtain ⟨H1, h1, rfl, rfl⟩ := h
      obtain ⟨k1, rfl⟩ := anew_spec h1
      obtain ⟨r, w1, ρ', q1, q2, q3, q4, q5⟩ := fresh H inv none rx.nilslice_inv k1 hb (small hb)
      exact app_case q1 q2 q3 q4 q5
    · cases h
  · rename_i r off len cap e0; rw [e0] at rx
    split at h
    · rename_i hb
      split at h
      · rename_i hc0; subst hc0
        simp only [Option.map_eq_some_iff, Prod.mk.injEq] at h
        obtain ⟨H1, h1, rfl, rfl⟩ := h
        obtain ⟨k1, rfl⟩ := anew_spec h1
        have hX : len = 0 ∧ ∃ base, a.eval X = .slice base 0 0 := by
          rcases rx.slice_inv with ⟨y, hy, hle, he⟩ | ⟨k0, _, q, he⟩
          · have : len = 0 := by omega
            subst this; exact ⟨rfl, _, he⟩
          · exact ⟨k0, _, he⟩
        obtain ⟨rfl, base, hX⟩ := hX
        rw [Nat.zero_add] at hb
        obtain ⟨r, w1, ρ', q1, q2, q3, q4, q5⟩ := fresh H inv base hX k1 hb (small hb)
        exact app_case q1 q2 q3 q4 q5
      · rename_i hc0
        have hX : ∃ l, ρ r = some l ∧ len ≤ cap ∧ a.eval X = .slice (some ⟨l.b, l.d + off, none⟩) len cap := by
          rcases rx.slice_inv with ⟨y, hy, hle, he⟩ | ⟨_, k0, q, he⟩
          · exact ⟨y, hy, hle, he⟩
          · exact absurd k0 hc0
        obtain ⟨l, hl, hle, hX⟩ := hX
        split at h
        · rename_i hg
          simp only [Option.bind_eq_some_iff, Option.map_eq_some_iff, Prod.mk.injEq] at h
          obtain ⟨old, ho, H1, h1, rfl, rfl⟩ := h
          obtain ⟨k1, rfl⟩ := anew_spec h1
          obtain ⟨row, hr, hfit, rfl⟩ := cellsAt_spec ho
          obtain ⟨olds, j1, j2, j3, j4⟩ := inv.sim.read hr hl hfit
          obtain ⟨r, w1, ρ', q1, q2, q3, q4, q5⟩ := grow H inv _ len cap olds _ hX j2 j1 (fun b j v hb hj => by cases hb; exact j4 j v hj) (fun hb => by cases hb) k1 hg hb (small hb)
          exact app_case q1 q2 q3 q4 q5
        · rename_i hg
          simp only [Option.map_eq_some_iff, Prod.mk.injEq] at h
          obtain ⟨H1, h1, rfl, rfl⟩ := h
          obtain ⟨row, k1, k2, k3, k4, rfl⟩ := aput_spec h1
          obtain ⟨i1, i2, i3⟩ := inv.write k1 k2 hl k3 k4 hrel
          have hrun := run_append_fits' (P := P) (w := w) (ty := ty) ht hu hi l.b (l.d + off) len cap p n c vs (hfirst w hcells) (by omega) (oneCells_of hrel k4)
            (by simpa [Nat.add_assoc] using i2) (by simpa [Nat.add_assoc] using i3)
          rw [← hy', ← hX, Nat.add_assoc] at hrun
          exact app_case hrun (RMap.le_refl _) (.slice r off (len + n) cap l hl (by omega)) i1 (by rw [size_setCells]; exact Nat.le_refl _)
    · cases h
  · rename_i r off len sz' e0; rw [e0] at rx
    split at h
    · rename_i hb
      obtain ⟨hb, rfl⟩ := hb
      simp only [Option.bind_eq_some_iff] at h
      obtain ⟨row, hr, h⟩ := h
      split at h
      · rename_i hcond
        obtain ⟨c1, c2, c3, c4⟩ := hcond
        simp only [Option.some.injEq, Prod.mk.injEq] at h
        obtain ⟨rfl, rfl⟩ := h
        have hk := inv.sim.kill r
        have invk : Inv w0 ex ρ (H.set r none) w := ⟨hk, inv.frm⟩
        have hHl : (H.set r none).length = H.length := by simp
        have hdl : (row.cells.drop off).length = len * ti.size := by rw [List.length_drop]; omega
        rcases rx.sliceU_inv with ⟨l, cap, hl, hle, hfit, hX⟩ | ⟨rfl, base, hX⟩
        · have hoff : off + len * ti.size ≤ row.cells.length := by omega
          obtain ⟨olds, j1, j2, j3, j4⟩ := inv.sim.read hr hl hoff
          have htake : (row.cells.drop off).take (len * ti.size) = row.cells.drop off := List.take_of_length_le (by omega)
          rw [htake] at j2 j3
          by_cases hg : cap < len + n
          · obtain ⟨r', w1, ρ', q1, q2, q3, q4, q5⟩ := grow _ invk _ len cap olds _ hX j2 j1 (fun b j v hb hj => by cases hb; exact j4 j v hj) (fun hb => by cases hb) (all_append j3 c4) hg hb (small hb)
            rw [hHl] at q3
            exact app_case q1 q2 q3 q4 q5
          · obtain ⟨o1, o2, o3⟩ := inv.sim.own r row l hr c1 hl
            have hmul : len * ti.size + n * ti.size ≤ cap * ti.size := by rw [← Nat.add_mul]; exact Nat.mul_le_mul_right _ (by omega)
            have hex : ∀ j, j < vs.length → (w.cell? ⟨l.b, l.d + off + len * ti.size + j, none⟩).isSome = true ∧ w.frozen? ⟨l.b, l.d + off + len * ti.size + j, none⟩ = false := fun j hj => by
              obtain ⟨_, ⟨C, e, fr, hC, hsz⟩, hfr⟩ := o3 (by omega)
              refine ⟨?_, hfr _ (by omega)⟩
              rw [cell_of_block hC, Array.getElem?_eq_getElem (by omega)]; rfl
            have hrun := run_append_fits' (P := P) (w := w) (ty := ty) ht hu hi l.b (l.d + off) len cap p n c vs (hfirst w hcells) (by omega) (oneCells_of hrel c4) (fun j hj => (hex j hj).1) (fun j hj => (hex j hj).2)
            rw [← hy', ← hX] at hrun
            have hlv := VRelL.length hrel
            have hnone : ρ H.length = none := inv.sim.dom _ (Nat.le_refl _)
            have alive : ∀ r' row', rowAt (H.set r none) r' = some row' → r' ≠ r ∧ rowAt H r' = some row' := fun r' row' he => by
              rw [rowAt_set (rowAt_lt hr)] at he
              by_cases e : r' = r
              · simp [e] at he
              · exact ⟨e, by simpa [e] using he⟩
            have apart : ∀ {r' row' x'}, rowAt (H.set r none) r' = some row' → ρ r' = some x' → (row'.own = true ∨ row'.cells ≠ []) → l.n ≠ 0 → x'.n ≠ 0 → l.b ≠ x'.b := fun {r' row' x'} h1 h2 h3 h4 h5 =>
              inv.sim.dist r r' row row' l x' hr (alive _ _ h1).2 c1 (Ne.symm (alive _ _ h1).1) h3 hl h2 h4 h5
            have sim1 : Sim w0.heap.size ex ρ (H.set r none) (w.setCells l.b (l.d + off + len * ti.size) vs) := by
              by_cases hv : vs = []
              · subst hv; exact hk
              have hvl : 0 < vs.length := List.length_pos_iff.2 hv
              have hln : l.n ≠ 0 := by omega
              refine hk.of_cells (fun r' row' x' h1 h2 i hi => ?_) (fun r' row' x' h1 h2 h3 h4 => ?_)
              · have hne : row'.cells ≠ [] := by intro e0; rw [e0] at hi; simp at hi
                exact World.cell?_setCells_out _ _ _ _ _ (fun e _ => absurd e.symm (apart h1 h2 (.inr hne) hln (hk.room _ _ _ h1 h2 hne)))
              · obtain ⟨_, ⟨C, e, fr, hC, hsz⟩, hfr⟩ := (hk.own r' row' x' h1 h2 h3).2.2 h4
                refine ⟨⟨C, e, fr, ?_, hsz⟩, fun i hi => by rw [World.frozen?_setCells]; exact hfr i hi⟩
                rw [heap_setCells _ _ _ _ _ (apart h1 h3 (.inl h2) hln h4).symm]; exact hC
            have hsim : Sim w0.heap.size ex (ρ.put (H.set r none).length ⟨l.b, l.d + off, l.n⟩) (H.set r none ++ [some ⟨true, true, row.cells.drop off ++ xs⟩]) (w.setCells l.b (l.d + off + len * ti.size) vs) := by
              refine sim1.push ⟨true, true, row.cells.drop off ++ xs⟩ ⟨l.b, l.d + off, l.n⟩ (fun i ci hci => ?_) (fun _ => ⟨?_, by simp, fun hn0 => ⟨(o3 hn0).1, ?_, fun i hi => ?_⟩⟩) (fun r' row' x' h1 h2 _ h3 _ h4 h5 => apart h1 h2 h3 h4 h5) (fun hne => ?_)
              · simp only at hci ⊢
                by_cases hlt : i < len * ti.size
                · rw [List.getElem?_append_left (by omega)] at hci
                  rw [List.getElem?_drop] at hci
                  obtain ⟨hcc, u, hu1, hu2⟩ := inv.sim.cells r row l hr hl (off + i) ci hci
                  refine ⟨hcc, u, ?_, hu2⟩
                  rw [World.cell?_setCells_out _ _ _ _ _ (fun _ _ => .inl (by simp; omega)), Nat.add_assoc]; exact hu1
                · rw [List.getElem?_append_right (by omega), hdl] at hci
                  obtain ⟨u, hu1, hu2⟩ := VRelL.get hrel hci
                  refine ⟨(List.all_eq_true.1 c4) ci (List.mem_of_getElem? hci), u, ?_, hu2⟩
                  obtain ⟨hlt', hu'⟩ := List.getElem?_eq_some_iff.1 hu1
                  have := World.cell?_setCells_in l.b vs (l.d + off + len * ti.size) w (fun j hj => (hex j hj).1) (i - len * ti.size) hlt'
                  rw [show l.d + off + len * ti.size + (i - len * ti.size) = l.d + off + i by omega, hu'] at this
                  exact this
              · simp only [List.length_append, hdl, hlv, hlen]; omega
              · obtain ⟨C, e, fr, hC, hsz⟩ := (o3 hn0).2.1
                obtain ⟨C', hC', hsz'⟩ := block_setCells l.b vs (l.d + off + len * ti.size) w hC
                exact ⟨C', e, fr, hC', by simp only; omega⟩
              · rw [World.frozen?_setCells]; exact (o3 hn0).2.2 i hi
              · simp only at hne ⊢
                have : 0 < (row.cells.drop off ++ xs).length := List.length_pos_iff.2 hne
                simp only [List.length_append, hdl, hlv, hlen] at this
                omega
            have hfrm : Frm w0.heap.size ex w0 (w.setCells l.b (l.d + off + len * ti.size) vs) := by
              by_cases hv : vs = []
              · subst hv; exact inv.frm
              have hvl : 0 < vs.length := List.length_pos_iff.2 hv
              exact inv.frm.setCells (o3 (by omega)).1 _ _
            rw [hHl] at hsim
            exact app_case hrun (RMap.le_put hnone) (.sliceU _ _ _ _ cap ⟨l.b, l.d + off, l.n⟩ RMap.put_same (by omega) (by simp only; omega)) ⟨hsim, hfrm⟩ (by rw [size_setCells]; exact Nat.le_refl _)
        · have hdrop : row.cells.drop off = [] := List.length_eq_zero_iff.1 (by rw [hdl, Nat.zero_mul])
          rw [Nat.zero_add] at hb
          obtain ⟨r', w1, ρ', q1, q2, q3, q4, q5⟩ := fresh _ invk base hX c4 hb (small hb)
          rw [hHl] at q3
          rw [hdrop, List.nil_append, Nat.zero_add]
          exact app_case q1 q2 q3 q4 q5
      · cases h
    · cases h
  · cases h
end Go.Vh
