/- **A contract over a few rows serves in a larger heap.** -/
import Derived.Test.YthbhljolpnbdlaaV5
set_option linter.unusedSimpArgs false
set_option linter.unusedVariables false
namespace Go.Vh
open Go

theorem renRow_some {σ : Sig} {o : Option ARow} {row : ARow} (h : renRow σ o = some row) : ∃ row0, o = some row0 ∧ row0.own = true ∧ row = ⟨true, row0.slack, renL σ row0.cells⟩ := by
  cases o with
  | none => simp [renRow] at h
  | some row0 =>
    simp only [renRow] at h
    split at h
    · rename_i ho
      simp only [Option.some.injEq] at h; exact ⟨row0, rfl, ho, h.symm⟩
    · cases h

theorem renL_ne_nil {σ : Sig} {l : List AV} : renL σ l ≠ [] ↔ l ≠ [] := by
  cases l <;> simp [renL]

theorem rowAt_append_right {H N : AHeap} {r : Nat} (h : H.length ≤ r) : rowAt (H ++ N) r = rowAt N (r - H.length) := by
  simp only [rowAt, List.getElem?_append_right h]
theorem rowAt_append_left {H N : AHeap} {r : Nat} (h : r < H.length) : rowAt (H ++ N) r = rowAt H r := by
  simp only [rowAt, List.getElem?_append_left h]
theorem rowAt_map {σ : Sig} {L : AHeap} {r : Nat} : rowAt (L.map (renRow σ)) r = renRow σ (rowAt L r) := by
  simp only [rowAt, List.getElem?_map]
  cases L[r]? <;> simp [renRow]
theorem rowAt_drop {L : AHeap} {n r : Nat} : rowAt (L.drop n) r = rowAt L (n + r) := by simp [rowAt]

theorem Loc.from_zero (x : Loc) : x.from 0 = x := by simp [Loc.from]

section
variable {P : Program} {f : FuncId} {args0 : List AV} {H0 : AHeap} {W0 : List Nat} {R0 : AV → AHeap → Prop} {H : AHeap} {σ : List (Nat × Nat)} {ρ : RMap} {w : World} {B : Nat} {ex : Nat → Prop}

/-- Where the callee's rows lie. -/
def mapBack (σ : List (Nat × Nat)) (n : Nat) (ρ : RMap) : RMap := fun i => if i < n then (σ[i]?).bind fun p => (ρ p.1).map fun x => x.from p.2 else none

structure Handed (H0 : AHeap) (H : AHeap) (σ : List (Nat × Nat)) (ρ : RMap) : Prop where
  len : H0.length = σ.length
  row : ∀ i, i < H0.length → ∃ (p : Nat × Nat) (row0 row : ARow) (x : Loc), σ[i]? = some p ∧ rowAt H0 i = some row0 ∧ rowAt H p.1 = some row ∧ ρ p.1 = some x ∧ mapBack σ H0.length ρ i = some (x.from p.2) ∧
    p.2 + row0.cells.length ≤ row.cells.length ∧ renL (sig σ H.length) row0.cells = (row.cells.drop p.2).take row0.cells.length ∧ underL H0.length row0.cells = true ∧
    (row0.own = true → row.own = true ∧ p.2 = 0 ∧ row0.cells.length = row.cells.length ∧ row0.slack = row.slack)
  once : ∀ i j p q row0, i ≠ j → rowAt H0 i = some row0 → row0.own = true → σ[i]? = some p → σ[j]? = some q → p.1 ≠ q.1

theorem handed (hs : Sim B ex ρ H w) (hall : H0.all Option.isSome = true) (hseen : seenAll H (sig σ H.length) H0.length H0 σ) (honce : onceOK H0 σ = true) : Handed H0 H σ ρ := by
  obtain ⟨hlen, hget⟩ := seenAll_get hseen
  refine ⟨hlen, fun i hi => ?_, fun i j p q row0 hij hr ho hp hq => ?_⟩
  · obtain ⟨row0, hrow0⟩ : ∃ row0, rowAt H0 i = some row0 := by
      have := (List.all_eq_true.1 hall) H0[i] (List.getElem_mem hi)
      obtain ⟨row0, h0⟩ := Option.isSome_iff_exists.1 this
      exact ⟨row0, by rw [rowAt_some, List.getElem?_eq_getElem hi, h0]⟩
    obtain ⟨p, hp, row, h1, h2, h3, h4, h5⟩ := hget i row0 hrow0
    obtain ⟨x, hx⟩ := hs.has p.1 row h1
    exact ⟨p, row0, row, x, hp, hrow0, h1, hx, by simp [mapBack, hi, hp, hx], h2, h3, h4, h5⟩
  · have hi : i < σ.length := (List.getElem?_eq_some_iff.1 hp).1
    have hj : j < σ.length := (List.getElem?_eq_some_iff.1 hq).1
    have h1 := (List.all_eq_true.1 honce) i (by simpa using hi)
    have hoi : ownAt H0 i = true := by simp [ownAt, hr, ho]
    simp only [hoi, Bool.not_true, Bool.false_or] at h1
    have h2 := (List.all_eq_true.1 h1) j (by simpa using hj)
    simp only [Bool.or_eq_true, beq_iff_eq, hij, false_or, bne_iff_ne, ne_eq] at h2
    simpa [List.getD_eq_getElem?_getD, hp, hq] using h2

theorem Handed.back (hd : Handed H0 H σ ρ) : ∀ i, i < H0.length → ∃ r d x, sig σ H.length i = some (r, d) ∧ (∀ y, ρ r = some y → x = y) ∧ mapBack σ H0.length ρ i = some (x.from d) := fun i hi => by
  obtain ⟨p, row0, row, x, h1, _, _, h4, h5, _⟩ := hd.row i hi
  refine ⟨p.1, p.2, x, ?_, fun y hy => ?_, h5⟩
  · unfold sig; rw [if_pos (by rw [← hd.len]; exact hi)]; exact h1
  · rw [h4] at hy; exact Option.some.inj hy

/-- The callee finds its rows as it wants them. -/
theorem Handed.sim (hd : Handed H0 H σ ρ) (hs : Sim B ex ρ H w) : Sim w.heap.size (exOf (mapBack σ H0.length ρ) H0) (mapBack σ H0.length ρ) H0 w := by
  have at_ : ∀ {i row0 x0}, rowAt H0 i = some row0 → mapBack σ H0.length ρ i = some x0 → ∃ p row x, σ[i]? = some p ∧ rowAt H p.1 = some row ∧ ρ p.1 = some x ∧ x0 = x.from p.2 ∧
      p.2 + row0.cells.length ≤ row.cells.length ∧ renL (sig σ H.length) row0.cells = (row.cells.drop p.2).take row0.cells.length ∧ underL H0.length row0.cells = true ∧
      (row0.own = true → row.own = true ∧ p.2 = 0 ∧ row0.cells.length = row.cells.length ∧ row0.slack = row.slack) := fun {i row0 x0} hr hx => by
    obtain ⟨p, row0', row, x, h1, h2, h3, h4, h5, h6⟩ := hd.row i (rowAt_lt hr)
    have : row0' = row0 := Option.some.inj (h2.symm.trans hr)
    subst this
    exact ⟨p, row, x, h1, h3, h4, Option.some.inj (hx.symm.trans h5), h6⟩
  refine ⟨fun i hi => by simp [mapBack, Nat.not_lt.2 hi], fun i row0 hr => ?_, fun i row0 x0 hr hx k c hk => ?_, fun i row0 x0 hr ho hx => ?_, fun i j ri rj xi xj hri hrj ho hij hne hxi hxj ni nj => ?_, fun i row0 x0 hr hx hne => ?_⟩
  · obtain ⟨p, row0', row, x, h1, h2, h3, h4, h5, h6⟩ := hd.row i (rowAt_lt hr)
    exact ⟨_, h5⟩
  · obtain ⟨p, row, x, h1, h2, h3, rfl, h5, h6, h7, h8⟩ := at_ hr hx
    have hkl : k < row0.cells.length := (List.getElem?_eq_some_iff.1 hk).1
    have hrc : row.cells[p.2 + k]? = some (c.ren (sig σ H.length)) := by
      have e1 := renL_get (sig σ H.length) row0.cells k
      rw [hk, h6, List.getElem?_take_of_lt hkl, List.getElem?_drop] at e1
      exact e1
    obtain ⟨k1, v, k2, k3⟩ := hs.cells p.1 row x h2 h3 _ _ hrc
    refine ⟨ren_cell' k1, v, ?_, VRel.back hd.back (underL_get h7 hk) k3⟩
    simpa [Loc.from, Nat.add_assoc] using k2
  · obtain ⟨p, row, x, h1, h2, h3, rfl, h5, h6, h7, h8⟩ := at_ hr hx
    obtain ⟨c1, c2, c3, c4⟩ := h8 ho
    obtain ⟨o1, o2, o3⟩ := hs.own p.1 row x h2 c1 h3
    rw [c2, Loc.from_zero]
    refine ⟨by omega, fun hsl => by rw [c3]; exact o2 (by rw [← c4]; exact hsl), fun hn => ⟨.inr ⟨i, row0, _, hr, ho, hx, ?_, ?_⟩, (o3 hn).2⟩⟩
    · simpa [Loc.from] using hn
    · simp [Loc.from]
  · obtain ⟨p, row, x, h1, h2, h3, rfl, h5, h6, h7, h8⟩ := at_ hri hxi
    obtain ⟨q, row', x', g1, g2, g3, rfl, g5, g6, g7, g8⟩ := at_ hrj hxj
    have hpq := hd.once i j p q ri hij hri ho h1 g1
    refine hs.dist p.1 q.1 row row' x x' h2 g2 (h8 ho).1 hpq ?_ h3 g3 ni nj
    rcases hne with hne | hne
    · exact .inl (g8 hne).1
    · refine .inr fun e => hne (List.length_eq_zero_iff.1 ?_)
      rw [e, List.length_nil] at g5; omega
  · obtain ⟨p, row, x, h1, h2, h3, rfl, h5, h6, h7, h8⟩ := at_ hr hx
    refine hs.room p.1 row x h2 h3 fun e => hne (List.length_eq_zero_iff.1 ?_)
    rw [e, List.length_nil] at h5; omega

/-- The map behind the call. -/
def mapOn (ρ ρ0' : RMap) (n m : Nat) : RMap := fun r => if r < m then ρ r else ρ0' (n + (r - m))

theorem Handed.forth (hd : Handed H0 H σ ρ) {ρ0' : RMap} (hle : (mapBack σ H0.length ρ).le ρ0') (hdom : ∀ r, H.length ≤ r → ρ r = none) : ∀ i r d y, sig σ H.length i = some (r, d) → ρ0' i = some y → ∃ x, mapOn ρ ρ0' H0.length H.length r = some x ∧ y = x.from d := fun i r d y hσ hy => by
  rcases Nat.lt_or_ge i H0.length with hi | hi
  · obtain ⟨p, row0, row, x, h1, _, _, h4, h5, _⟩ := hd.row i hi
    unfold sig at hσ
    rw [if_pos (by rw [← hd.len]; exact hi), h1] at hσ
    cases hσ
    have hyx : y = x.from d := Option.some.inj (hy.symm.trans (hle _ _ h5))
    refine ⟨x, ?_, hyx⟩
    have hr : r < H.length := by
      rcases Nat.lt_or_ge r H.length with h | h
      · exact h
      · simp only at h4; rw [hdom r h] at h4; cases h4
    simp only [mapOn, hr, if_true]; exact h4
  · unfold sig at hσ
    rw [if_neg (by rw [← hd.len]; omega)] at hσ
    cases hσ
    refine ⟨y, ?_, (Loc.from_zero y).symm⟩
    simp only [mapOn]
    rw [if_neg (by omega), ← hd.len, show H0.length + (H.length + (i - H0.length) - H.length) = i by omega]
    exact hy

/-- What stands in a row behind the call: the callee's, or what stood there. -/
theorem merge_at (hd : Handed H0 H σ ρ) {H0' : AHeap} {r : Nat} {row : ARow} (hr : rowAt (merge H σ H0 H0') r = some row) :
    (∃ i row0', rowAt H0' i = some row0' ∧ row0'.own = true ∧ row = ⟨true, row0'.slack, renL (sig σ H.length) row0'.cells⟩ ∧
      ((H0.length ≤ i ∧ r = H.length + (i - H0.length)) ∨ (i < H0.length ∧ ∃ p row0, σ[i]? = some p ∧ rowAt H0 i = some row0 ∧ row0.own = true ∧ p.1 = r ∧ r < H.length))) ∨
    (r < H.length ∧ rowAt H r = some row ∧ ∀ i p row0, rowAt H0 i = some row0 → σ[i]? = some p → row0.own = true → p.1 ≠ r) := by
  have hml := mergeGo_length (sig σ H.length) H0' H0 σ 0 H
  rcases Nat.lt_or_ge r H.length with hlt | hge
  · unfold merge at hr
    rw [rowAt_append_left (by omega)] at hr
    rcases mergeGo_at (sig σ H.length) H0' H0 σ 0 H r hlt with ⟨j, p, row0, h1, h2, h3, h4, h5⟩ | ⟨h1, h2⟩
    · rw [h5] at hr
      obtain ⟨row0', k1, k2, k3⟩ := renRow_some hr
      rw [Nat.zero_add] at k1
      exact .inl ⟨j, row0', k1, k2, k3, .inr ⟨(List.getElem?_eq_some_iff.1 h1).1, p, row0, h2, rowAt_some.2 h1, h3, h4, hlt⟩⟩
    · rw [h2] at hr
      exact .inr ⟨hlt, hr, fun i p row0 k1 k2 k3 => h1 i p row0 (rowAt_some.1 k1) k2 k3⟩
  · unfold merge at hr
    rw [rowAt_append_right (by omega), hml, rowAt_map, rowAt_drop] at hr
    obtain ⟨row0', k1, k2, k3⟩ := renRow_some hr
    exact .inl ⟨_, row0', k1, k2, k3, .inl ⟨by omega, by omega⟩⟩

/-- What a callee wants of the package's variables, out of what the caller knows. -/
def globOK (γ γ0 : Nat → AV) (σ : Sig) (n : Nat) : Prop := ∀ g, γ0 g = .any ∨ ((γ0 g).under n = true ∧ γ g = (γ0 g).ren σ)

theorem ACallsG.frame {γ γ0 : Nat → AV} (h : ACallsG P γ0 f args0 H0 W0 R0) (H : AHeap) (σ : List (Nat × Nat)) (hγ : globOK γ γ0 (sig σ H.length) H0.length) (hall : H0.all Option.isSome = true)
    (hargs : underL H0.length args0 = true) (hseen : seenAll H (sig σ H.length) H0.length H0 σ) (honce : onceOK H0 σ = true) :
    ACallsG P γ f (renL (sig σ H.length) args0) H (ownImg H0 σ) fun v H' => ∃ v0 H0', R0 v0 H0' ∧ v = v0.ren (sig σ H.length) ∧ H' = merge H σ H0 H0' := by
  refine ⟨h.ent, fun ρ w vs hs hv hg => ?_⟩
  have hd := handed hs hall hseen honce
  refine (h.calls (mapBack σ H0.length ρ) w vs (hd.sim hs) (VRelL.back hd.back hargs hv) (fun g => by
    rcases hγ g with h1 | ⟨h1, h2⟩
    · rw [h1]; exact .any _
    · have := hg g
      rw [h2] at this
      exact VRel.back hd.back h1 this)).mono fun e w' ⟨v0, v', ρ0', H0', he, hR, hle, hrel, hsim, hfrm, hlen⟩ => ?_
  have hforth := hd.forth hle hs.dom
  have hml := mergeGo_length (sig σ H.length) H0' H0 σ 0 H
  -- the blocks of what was not handed over as own stand as they did
  have kept : ∀ {r row x}, rowAt H r = some row → ρ r = some x → (∀ i p row0, rowAt H0 i = some row0 → σ[i]? = some p → row0.own = true → p.1 ≠ r) → (row.own = true ∨ row.cells ≠ []) → x.n ≠ 0 →
      x.b < w.heap.size ∧ w'.heap[x.b]? = w.heap[x.b]? ∧ (∀ b, exOf (mapBack σ H0.length ρ) H0 b → b ≠ x.b) := fun {r row x} hr hx hno hne hn => by
    have hlt := hs.old_lt hr hx hne hn
    have hb : ∀ b, exOf (mapBack σ H0.length ρ) H0 b → b ≠ x.b := fun b ⟨i, row0, y, k1, k2, k3, k4, k5⟩ => by
      obtain ⟨p, row0', row1, x1, g1, g2, g3, g4, g5, g6, g7, g8, g9⟩ := hd.row i (rowAt_lt k1)
      have : row0' = row0 := Option.some.inj (g2.symm.trans k1)
      subst this
      have hy : y = x1.from p.2 := Option.some.inj (k3.symm.trans g5)
      obtain ⟨c1, c2, _⟩ := g9 k2
      rw [← k5, hy]
      simp only [Loc.from]
      rw [hy] at k4
      exact hs.dist p.1 r row1 row x1 x g3 hr c1 (hno i p row0' k1 g1 k2) hne g4 hx (by simpa [Loc.from] using k4) hn
    exact ⟨hlt, hfrm.block _ hlt fun hex => hb _ (exW_exOf hex) rfl, hb⟩
  -- where a callee's row lies, for the caller
  have lies : ∀ {r i x}, mapOn ρ ρ0' H0.length H.length r = some x → ((H0.length ≤ i ∧ r = H.length + (i - H0.length)) ∨ (i < H0.length ∧ ∃ p row0, σ[i]? = some p ∧ rowAt H0 i = some row0 ∧ row0.own = true ∧ p.1 = r ∧ r < H.length)) → ρ0' i = some x := fun {r i x} hx hc => by
    rcases hc with ⟨k1, rfl⟩ | ⟨k1, p, row0, k2, k3, k4, rfl, k6⟩
    · simp only [mapOn] at hx
      rw [if_neg (by omega), show H0.length + (H.length + (i - H0.length) - H.length) = i by omega] at hx
      exact hx
    · simp only [mapOn, k6, if_true] at hx
      obtain ⟨p', row0', row1, x1, g1, g2, g3, g4, g5, g6, g7, g8, g9⟩ := hd.row i k1
      have hp : p' = p := Option.some.inj (g1.symm.trans k2)
      subst hp
      have : row0' = row0 := Option.some.inj (g2.symm.trans k3)
      subst this
      have hx1 : x1 = x := Option.some.inj (g4.symm.trans hx)
      subst hx1
      have := hle _ _ g5
      rw [(g9 k4).2.1, Loc.from_zero] at this
      exact this
  have old : ∀ {r x}, r < H.length → mapOn ρ ρ0' H0.length H.length r = some x → ρ r = some x := fun {r x} hr hx => by
    simpa only [mapOn, hr, if_true] using hx
  have exsub : ∀ b, (w.heap.size ≤ b ∨ exOf (mapBack σ H0.length ρ) H0 b) → (w.heap.size ≤ b ∨ exOf ρ H b) := fun b hb => hb.imp id fun ⟨i, row0, y, k1, k2, k3, k4, k5⟩ => by
    obtain ⟨p, row0', row1, x1, g1, g2, g3, g4, g5, g6, g7, g8, g9⟩ := hd.row i (rowAt_lt k1)
    have : row0' = row0 := Option.some.inj (g2.symm.trans k1)
    subst this
    have hy : y = x1.from p.2 := Option.some.inj (k3.symm.trans g5)
    rw [hy] at k4 k5
    exact ⟨p.1, row1, x1, g3, (g9 k2).1, g4, by simpa [Loc.from] using k4, by simpa [Loc.from] using k5⟩
  refine ⟨v0.ren (sig σ H.length), v', mapOn ρ ρ0' H0.length H.length, merge H σ H0 H0', he, ⟨v0, H0', hR, rfl, rfl⟩, fun r x hx => ?_, VRel.forth hforth hrel, ?_, ?_, ?_⟩
  · have hr : r < H.length := by
      rcases Nat.lt_or_ge r H.length with h | h
      · exact h
      · rw [hs.dom r h] at hx; cases hx
    simpa only [mapOn, hr, if_true] using hx
  · refine ⟨fun r hr => ?_, fun r row hr => ?_, fun r row x hr hx k c hk => ?_, fun r row x hr ho hx => ?_, fun r1 r2 a b x y h1 h2 h3 h4 h5 hx hy nx ny => ?_, fun r row x hr hx hne => ?_⟩
    · simp only [merge, List.length_append, hml, List.length_map, List.length_drop] at hr
      simp only [mapOn]
      rw [if_neg (by omega)]
      exact hsim.dom _ (by omega)
    · rcases merge_at hd hr with ⟨i, row0', k1, k2, k3, k4⟩ | ⟨k1, k2, _⟩
      · obtain ⟨y, hy⟩ := hsim.has i row0' k1
        rcases k4 with ⟨j1, rfl⟩ | ⟨j1, p, row0, j2, j3, j4, rfl, j6⟩
        · refine ⟨y, ?_⟩
          simp only [mapOn]
          rw [if_neg (by omega), show H0.length + (H.length + (i - H0.length) - H.length) = i by omega]; exact hy
        · obtain ⟨p', row0'', row1, x1, g1, g2, g3, g4, _⟩ := hd.row i j1
          have hp : p' = p := Option.some.inj (g1.symm.trans j2)
          subst hp
          exact ⟨x1, by simpa only [mapOn, j6, if_true] using g4⟩
      · obtain ⟨y, hy⟩ := hs.has r row k2
        exact ⟨y, by simpa only [mapOn, k1, if_true] using hy⟩
    · rcases merge_at hd hr with ⟨i, row0', k1, k2, rfl, k4⟩ | ⟨k1, k2, k3⟩
      · simp only at hk
        rw [renL_get] at hk
        simp only [Option.map_eq_some_iff] at hk
        obtain ⟨c0, hc0, rfl⟩ := hk
        obtain ⟨j1, v, j2, j3⟩ := hsim.cells i row0' x k1 (lies hx k4) k c0 hc0
        exact ⟨ren_cell (sig_some σ H.length) j1, v, j2, VRel.forth hforth j3⟩
      · have hxo := old k1 hx
        obtain ⟨j1, v, j2, j3⟩ := hs.cells r row x k2 hxo k c hk
        have hne : row.cells ≠ [] := by intro e0; rw [e0] at hk; simp at hk
        obtain ⟨_, q2, _⟩ := kept k2 hxo k3 (.inr hne) (hs.room r row x k2 hxo hne)
        refine ⟨j1, v, ?_, j3.mono fun r' y hy => ?_⟩
        · rw [World.cell?_of_block (w := w) q2]; exact j2
        · have hr' : r' < H.length := by
            rcases Nat.lt_or_ge r' H.length with h | h
            · exact h
            · rw [hs.dom r' h] at hy; cases hy
          simpa only [mapOn, hr', if_true] using hy
    · rcases merge_at hd hr with ⟨i, row0', k1, k2, rfl, k4⟩ | ⟨k1, k2, k3⟩
      · obtain ⟨o1, o2, o3⟩ := hsim.own i row0' x k1 k2 (lies hx k4)
        simp only [renL_length]
        exact ⟨o1, o2, fun hn => ⟨exsub _ (o3 hn).1, (o3 hn).2⟩⟩
      · have hxo := old k1 hx
        obtain ⟨o1, o2, o3⟩ := hs.own r row x k2 ho hxo
        refine ⟨o1, o2, fun hn => ?_⟩
        obtain ⟨_, q2, _⟩ := kept k2 hxo k3 (.inl ho) hn
        obtain ⟨p1, p2, p3⟩ := o3 hn
        exact ⟨p1, by rw [q2]; exact p2, fun j hj => by rw [World.frozen?_of_block (w := w) q2]; exact p3 j hj⟩
    · rcases merge_at hd h1 with ⟨i, ri, k1, k2, rfl, k4⟩ | ⟨k1, k2, k3⟩
      · rcases merge_at hd h2 with ⟨j, rj, j1, j2, rfl, j4⟩ | ⟨j1, j2, j3⟩
        · have hij : i ≠ j := fun e => by
            subst e
            rcases k4 with ⟨m1, m2⟩ | ⟨m1, p, row0, m2, m3, m4, m5, m6⟩ <;> rcases j4 with ⟨n1, n2⟩ | ⟨n1, q, row0', n2, n3, n4, n5, n6⟩
            · exact h4 (m2.trans n2.symm)
            · omega
            · omega
            · have : p = q := Option.some.inj (m2.symm.trans n2)
              subst this
              exact h4 (m5.symm.trans n5)
          exact hsim.dist i j ri rj x y k1 j1 k2 hij (.inl j2) (lies hx k4) (lies hy j4) nx ny
        · have hyo := old j1 hy
          obtain ⟨q1, q2, q3⟩ := kept j2 hyo j3 h5 ny
          rcases ((hsim.own i ri x k1 k2 (lies hx k4)).2.2 nx).1 with hb | hb
          · omega
          · exact q3 _ hb
      · have hxo := old k1 hx
        obtain ⟨q1, q2, q3⟩ := kept k2 hxo k3 (.inl h3) nx
        rcases merge_at hd h2 with ⟨j, rj, j1, j2, rfl, j4⟩ | ⟨j1, j2, j3⟩
        · rcases ((hsim.own j rj y j1 j2 (lies hy j4)).2.2 ny).1 with hb | hb
          · omega
          · exact (q3 _ hb).symm
        · exact hs.dist r1 r2 a b x y k2 j2 h3 h4 h5 hxo (old j1 hy) nx ny
    · rcases merge_at hd hr with ⟨i, row0', k1, k2, rfl, k4⟩ | ⟨k1, k2, k3⟩
      · exact hsim.room i row0' x k1 (lies hx k4) (renL_ne_nil.1 hne)
      · exact hs.room r row x k2 (old k1 hx) hne
  · refine ⟨hfrm.os, hfrm.tape, hfrm.output, hfrm.size, fun k hk hne => hfrm.block k hk fun ⟨i, row0, y, k0, k1, k2, k3, k4, k5⟩ => hne ?_⟩
    obtain ⟨p, row0', row1, x1, g1, g2, g3, g4, g5, g6, g7, g8, g9⟩ := hd.row i (rowAt_lt k1)
    have : row0' = row0 := Option.some.inj (g2.symm.trans k1)
    subst this
    have hy : y = x1.from p.2 := Option.some.inj (k3.symm.trans g5)
    rw [hy] at k4 k5
    refine ⟨p.1, row1, x1, ?_, g3, (g9 k2).1, g4, by simpa [Loc.from] using k4, by simpa [Loc.from] using k5⟩
    simp only [ownImg, List.mem_map, List.mem_filter, List.mem_range]
    refine ⟨i, ⟨(List.getElem?_eq_some_iff.1 g1).1, by simp [ownAt, k1, k2]⟩, by simp [List.getD_eq_getElem?_getD, g1]⟩
  · simp only [merge, List.length_append, hml]; omega

theorem ACalls.frame (h : ACalls P f args0 H0 W0 R0) (H : AHeap) (σ : List (Nat × Nat)) (hall : H0.all Option.isSome = true)
    (hargs : underL H0.length args0 = true) (hseen : seenAll H (sig σ H.length) H0.length H0 σ) (honce : onceOK H0 σ = true) :
    ACalls P f (renL (sig σ H.length) args0) H (ownImg H0 σ) fun v H' => ∃ v0 H0', R0 v0 H0' ∧ v = v0.ren (sig σ H.length) ∧ H' = merge H σ H0 H0' :=
  ACallsG.frame h H σ (fun _ => .inl rfl) hall hargs hseen honce
end
end Go.Vh


/- Calls in a proof; rows let go. -/
namespace Go.Vh
open Go

section
variable {P : Program} {f : FuncId} {args0 : List AV} {H0 : AHeap} {W0 : List Nat} {R0 : AV → AHeap → Prop} {K : St → AHeap → Prop} {d : Option Nat} {s : St} {H : AHeap} {args caps : List AV}

theorem call_do (h : ACalls P f args0 H0 W0 R0) (σ : List (Nat × Nat)) (hall : H0.all Option.isSome = true) (hu : underL H0.length args0 = true) (honce : onceOK H0 σ = true) (hargs : args ++ caps = renL (sig σ H.length) args0)
    (hseen : seenAll H (sig σ H.length) H0.length H0 σ) (hK : ∀ v0 H0', R0 v0 H0' → K (putI d s (v0.ren (sig σ H.length))) (merge H σ H0 H0')) : thenC P K d s H args (.func f caps) := by
  refine ⟨ownImg H0 σ, ?_⟩
  rw [hargs]
  refine (ACalls.frame h H σ hall hu hseen honce).g.mono fun v H' ⟨v0, H0', h1, h2, h3⟩ => ?_
  subst h2; subst h3
  exact hK v0 H0' h1

theorem call_do0 (h : ACalls P f args0 H0 W0 R0) (σ : List (Nat × Nat)) (hall : H0.all Option.isSome = true) (hu : underL H0.length args0 = true) (honce : onceOK H0 σ = true) (hW : ownImg H0 σ = []) (hargs : args ++ caps = renL (sig σ H.length) args0)
    (hseen : seenAll H (sig σ H.length) H0.length H0 σ) (hK : ∀ v0 H0', R0 v0 H0' → K (putI d s (v0.ren (sig σ H.length))) (merge H σ H0 H0')) : thenC0 P K d s H args (.func f caps) := by
  show ACallsG P (gl s) f (args ++ caps) H [] _
  rw [hargs, ← hW]
  refine (ACalls.frame h H σ hall hu hseen honce).g.mono fun v H' ⟨v0, H0', h1, h2, h3⟩ => ?_
  subst h2; subst h3
  exact hK v0 H0' h1

theorem call_pure0 (h : ACalls P f args0 [] W0 R0) (hu : underL 0 args0 = true) (hargs : args ++ caps = args0) (hr : renL (sig [] H.length) args0 = args0)
    (hK : ∀ v0, R0 v0 [] → K (putI d s (v0.ren (sig [] H.length))) H) (hR : ∀ v H', R0 v H' → H' = []) : thenC0 P K d s H args (.func f caps) :=
  call_do0 h [] rfl hu rfl rfl (by rw [hargs, hr]) trivial fun v0 H0' h0 => by
    have := hR _ _ h0
    subst this
    simpa [merge, mergeGo] using hK v0 h0

theorem seen_ro {σ : Sig} {n : Nat} {cs : List AV} {p : Nat × Nat} {row : ARow} (h1 : rowAt H p.1 = some row) (h2 : p.2 + cs.length ≤ row.cells.length) (h3 : renL σ cs = (row.cells.drop p.2).take cs.length) (h4 : underL n cs = true) : seen H σ n (ro cs) p :=
  ⟨row, h1, h2, h3, h4, fun h => by cases h⟩
theorem seen_ro_whole {σ : Sig} {n : Nat} {cs : List AV} {r : Nat} {row : ARow} (h1 : rowAt H r = some row) (h3 : renL σ cs = row.cells) (h4 : underL n cs = true) : seen H σ n (ro cs) (r, 0) := by
  have := renL_length σ cs
  refine seen_ro h1 (by rw [← h3]; omega) ?_ h4
  rw [h3, List.drop_zero, ← this, h3, List.take_length]
end

/-! ### The merge, written out -/
section
variable {σ : Sig} {H H0' os : AHeap} {ps : List (Nat × Nat)} {p : Nat × Nat} {i : Nat} {cs : List AV}
theorem m_ro : mergeGo σ H0' (ro cs :: os) (p :: ps) i H = mergeGo σ H0' os ps (i + 1) H := rfl
theorem m_nil : mergeGo σ H0' [] ps i H = H := by cases ps <;> rfl
theorem m_merge {H H0 H0' : AHeap} {τ : List (Nat × Nat)} : merge H τ H0 H0' = mergeGo (sig τ H.length) H0' H0 τ 0 H ++ (H0'.drop H0.length).map (renRow (sig τ H.length)) := rfl
theorem n_int {k n} : AV.ren σ (.int k n) = .int k n := rfl
theorem n_bool {b} : AV.ren σ (.bool b) = .bool b := rfl
theorem n_slice {r off n c r' d} (h : σ r = some (r', d)) : AV.ren σ (.slice r off n c) = .slice r' (d + off) n c := by simp [AV.ren, h]
theorem n_sliceU {r off n c r' d} (h : σ r = some (r', d)) : AV.ren σ (.sliceU r off n c) = .sliceU r' (d + off) n c := by simp [AV.ren, h]
theorem n_lnil : renL σ [] = [] := rfl
theorem n_lcons {v l} : renL σ (v :: l) = AV.ren σ v :: renL σ l := rfl
end
/-! ### Rows let go -/
/-- The rows of 'keep' alone, in that order. -/
def gcSig (keep : List Nat) : Sig := fun i => (keep.idxOf? i).map fun j => (j, 0)
def gcH (keep : List Nat) (H : AHeap) : AHeap := keep.map fun r => match rowAt H r with
  | some row => some { row with cells := renL (gcSig keep) row.cells }
  | none => none
def gcS (keep : List Nat) (s : St) : St := fun t => (s t).ren (gcSig keep)

def gcOK (n0 : Nat) (keep : List Nat) (H : AHeap) : Bool :=
  keep.take n0 == List.range n0 && keep.all (fun r => r < H.length) && decide (keep.Nodup)

theorem Weak.gc {n0 : Nat} {s : St} {H : AHeap} (keep : List Nat) (hok : gcOK n0 keep H = true) (hcell : (gcH keep H).all (fun o => o.all fun row => row.cells.all AV.cell) = true) : Weak n0 s H (gcS keep s) (gcH keep H) := by
  intro w0 ex N R0 ρ a w hR rel
  simp only [gcOK, Bool.and_eq_true, beq_iff_eq, decide_eq_true_eq] at hok
  obtain ⟨⟨h1, h2⟩, h3⟩ := hok
  let ρ' : RMap := fun j => (keep[j]?).bind ρ
  have hσ : ∀ i r d y, gcSig keep i = some (r, d) → ρ i = some y → ∃ x, ρ' r = some x ∧ y = x.from d := fun i r d y hi hy => by
    simp only [gcSig, Option.map_eq_some_iff, Prod.mk.injEq] at hi
    obtain ⟨j, hj, rfl, rfl⟩ := hi
    have hk : keep[j]? = some i := by
      obtain ⟨hlt, he, _⟩ := List.idxOf?_eq_some_iff.1 hj
      rw [List.getElem?_eq_getElem hlt, he]
    exact ⟨y, by simp [ρ', hk, hy], (Loc.from_zero y).symm⟩
  have hat : ∀ j row, rowAt (gcH keep H) j = some row → ∃ r row0, keep[j]? = some r ∧ rowAt H r = some row0 ∧ row = { row0 with cells := renL (gcSig keep) row0.cells } := fun j row hj => by
    rw [rowAt_some] at hj
    simp only [gcH, List.getElem?_map, Option.map_eq_some_iff] at hj
    obtain ⟨r, hr, hm⟩ := hj
    split at hm
    · rename_i row0 hrow0
      simp only [Option.some.injEq] at hm
      exact ⟨r, row0, hr, hrow0, hm.symm⟩
    · cases hm
  have hloc : ∀ {j r x}, keep[j]? = some r → ρ' j = some x → ρ r = some x := fun {j r x} hj hx => by simpa [ρ', hj] using hx
  have hs := rel.inv.sim
  refine ⟨ρ', ⟨⟨fun r hr => ?_, fun j row hj => ?_, fun j row x hj hx k c hk => ?_, fun j row x hj ho hx => ?_, fun i j a b x y hi hj ho hij hne hx hy nx ny => ?_, fun j row x hj hx hne => ?_⟩, rel.inv.frm⟩, fun t => VRel.forth hσ (rel.tmps t), rel.size, rel.defers, fun r x hx => ?_⟩
  · simp only [gcH, List.length_map] at hr
    simp [ρ', List.getElem?_eq_none hr]
  · obtain ⟨r, row0, k1, k2, rfl⟩ := hat j row hj
    obtain ⟨x, hx⟩ := hs.has r row0 k2
    exact ⟨x, by simp [ρ', k1, hx]⟩
  · have hj' := hj
    obtain ⟨r, row0, k1, k2, rfl⟩ := hat j row hj
    have hall : c.cell = true := by
      rw [rowAt_some] at hj'
      have := (List.all_eq_true.1 hcell) _ (List.mem_of_getElem? hj')
      simp only [Option.all_some] at this
      exact (List.all_eq_true.1 this) c (List.mem_of_getElem? hk)
    simp only at hk
    rw [renL_get] at hk
    simp only [Option.map_eq_some_iff] at hk
    obtain ⟨c0, hc0, rfl⟩ := hk
    obtain ⟨_, v, k3, k4⟩ := hs.cells r row0 x k2 (hloc k1 hx) k c0 hc0
    exact ⟨hall, v, k3, VRel.forth hσ k4⟩
  · obtain ⟨r, row0, k1, k2, rfl⟩ := hat j row hj
    have := hs.own r row0 x k2 ho (hloc k1 hx)
    simpa only [renL_length] using this
  · obtain ⟨r, row0, k1, k2, rfl⟩ := hat i a hi
    obtain ⟨r', row0', k1', k2', rfl⟩ := hat j b hj
    refine hs.dist r r' row0 row0' x y k2 k2' ho (fun e => hij ?_) (hne.imp id fun h => renL_ne_nil.1 h) (hloc k1 hx) (hloc k1' hy) nx ny
    subst e
    obtain ⟨l1, e1⟩ := List.getElem?_eq_some_iff.1 k1
    exact (List.getElem?_inj l1 h3).1 (k1.trans k1'.symm)
  · obtain ⟨r, row0, k1, k2, rfl⟩ := hat j row hj
    exact hs.room r row0 x k2 (hloc k1 hx) (renL_ne_nil.1 hne)
  · have hr : r < n0 := by
      rcases Nat.lt_or_ge r n0 with h | h
      · exact h
      · rw [hR r h] at hx; cases hx
    have hk : keep[r]? = some r := by
      have := congrArg (fun l : List Nat => l[r]?) h1
      simp only [List.getElem?_take_of_lt hr, List.getElem?_range hr] at this
      exact this
    show (keep[r]?).bind ρ = some x
    rw [hk]
    exact rel.base _ _ hx

theorem ret_gc {n0 : Nat} {rs : List IRes} {R : AV → AHeap → Prop} {s : St} {H : AHeap} (keep : List Nat) (hok : gcOK n0 keep H = true) (hcell : (gcH keep H).all (fun o => o.all fun row => row.cells.all AV.cell) = true) (hl : n0 ≤ keep.length)
    (ht : thenR R (gcH keep H) (ares (gcS keep s) (gcH keep H) rs)) : retPost n0 rs R .ret s H := ⟨_, _, Weak.gc keep hok hcell, by simpa [gcH] using hl, ht⟩
end Go.Vh


/- A runner over the virtual heap: for calls whose arguments are known. -/
namespace Go.Vh
open Go

/-! ### A call that keeps all -/
def demote (H : AHeap) : AHeap := H.map fun o => o.map fun row => { row with own := false }
def ownOnly : Option ARow → Option ARow
  | some row => if row.own = true then some row else none
  | none => none
def mergeK (H H0' : AHeap) : AHeap := H ++ (H0'.drop H.length).map ownOnly

theorem demote_length (H : AHeap) : (demote H).length = H.length := by simp [demote]
theorem demote_at {H : AHeap} {r : Nat} {row : ARow} : rowAt (demote H) r = some row ↔ ∃ row0, rowAt H r = some row0 ∧ row = { row0 with own := false } := by
  simp only [rowAt_some, demote, List.getElem?_map, Option.map_eq_some_iff]
  constructor
  · rintro ⟨o, h1, h2⟩
    obtain ⟨row0, rfl, rfl⟩ := h2
    exact ⟨row0, h1, rfl⟩
  · rintro ⟨row0, h1, rfl⟩
    exact ⟨some row0, h1, row0, rfl, rfl⟩

theorem mergeK_at {H H0' : AHeap} {r : Nat} {row : ARow} (h : rowAt (mergeK H H0') r = some row) : (r < H.length ∧ rowAt H r = some row) ∨ (H.length ≤ r ∧ rowAt H0' r = some row ∧ row.own = true) := by
  rw [rowAt_some] at h
  rcases Nat.lt_or_ge r H.length with hr | hr
  · left
    rw [mergeK, List.getElem?_append_left hr] at h
    exact ⟨hr, rowAt_some.2 h⟩
  · right
    rw [mergeK, List.getElem?_append_right hr] at h
    simp only [List.getElem?_map, List.getElem?_drop, Option.map_eq_some_iff] at h
    obtain ⟨o, h1, h2⟩ := h
    rw [show H.length + (r - H.length) = r by omega] at h1
    unfold ownOnly at h2
    split at h2
    · split at h2
      · rename_i row0 ho
        simp only [Option.some.injEq] at h2; subst h2
        exact ⟨hr, rowAt_some.2 h1, ho⟩
      · cases h2
    · cases h2

theorem ACallsG.keep {P : Program} {f : FuncId} {args : List AV} {H : AHeap} {W : List Nat} {R : AV → AHeap → Prop} {γ : Nat → AV} (h : ACallsG P γ f args (demote H) W R) : ACallsG P γ f args H [] fun v H' => ∃ H0', R v H0' ∧ H' = mergeK H H0' := by
  refine ⟨h.ent, fun ρ w vs hs hv hg => ?_⟩
  have noex : ∀ b, ¬ exOf ρ (demote H) b := fun b ⟨r, row, x, h1, h2, _⟩ => by
    obtain ⟨row0, _, rfl⟩ := demote_at.1 h1
    cases h2
  have hsim : Sim w.heap.size (exOf ρ (demote H)) ρ (demote H) w := by
    refine ⟨fun r hr => hs.dom r (by rwa [demote_length] at hr), fun r row hr => ?_, fun r row x hr hx => ?_, fun r row x hr ho => ?_, fun r r' row row' x x' hr _ ho => ?_, fun r row x hr hx hne => ?_⟩
    · obtain ⟨row0, h1, rfl⟩ := demote_at.1 hr
      exact hs.has r row0 h1
    · obtain ⟨row0, h1, rfl⟩ := demote_at.1 hr
      exact hs.cells r row0 x h1 hx
    · obtain ⟨row0, h1, rfl⟩ := demote_at.1 hr
      cases ho
    · obtain ⟨row0, h1, rfl⟩ := demote_at.1 hr
      cases ho
    · obtain ⟨row0, h1, rfl⟩ := demote_at.1 hr
      exact hs.room r row0 x h1 hx hne
  refine (h.calls ρ w vs hsim hv hg).mono fun e w' ⟨v0, v', ρ', H0', he, hR, hle, hrel, hsim', hfrm, hlen⟩ => ?_
  have same : ∀ k, k < w.heap.size → w'.heap[k]? = w.heap[k]? := fun k hk => hfrm.block k hk fun hx => noex k (exW_exOf hx)
  rw [demote_length] at hlen
  have old : ∀ {r x}, r < H.length → ρ' r = some x → (∃ row, rowAt H r = some row) → ρ r = some x := fun {r x} _ hx ⟨row, hr⟩ => by
    obtain ⟨y, hy⟩ := hs.has r row hr
    have := hle _ _ hy
    rw [hx] at this
    rw [hy]; exact this.symm
  have low : ∀ {r row x}, rowAt H r = some row → ρ r = some x → (row.own = true ∨ row.cells ≠ []) → x.n ≠ 0 → x.b < w.heap.size := fun {r row x} hr hx hne hn => hs.old_lt hr hx hne hn
  have new : ∀ {r row x}, rowAt H0' r = some row → row.own = true → ρ' r = some x → x.n ≠ 0 → w.heap.size ≤ x.b := fun {r row x} hr ho hx hn => by
    rcases ((hsim'.own r row x hr ho hx).2.2 hn).1 with hb | hb
    · exact hb
    · exact (noex _ hb).elim
  refine ⟨v0, v', ρ', mergeK H H0', he, ⟨H0', hR, rfl⟩, hle, hrel, ⟨fun r hr => ?_, fun r row hr => ?_, fun r row x hr hx k c hk => ?_, fun r row x hr ho hx => ?_, fun r1 r2 a b x y h1 h2 h3 h4 h5 hx hy nx ny => ?_, fun r row x hr hx hne => ?_⟩, ?_, ?_⟩
  · simp only [mergeK, List.length_append, List.length_map, List.length_drop] at hr
    exact hsim'.dom r (by omega)
  · rcases mergeK_at hr with ⟨_, h1⟩ | ⟨_, h1, _⟩
    · obtain ⟨x, hx⟩ := hs.has r row h1
      exact ⟨x, hle _ _ hx⟩
    · exact hsim'.has r row h1
  · rcases mergeK_at hr with ⟨hl, h1⟩ | ⟨_, h1, _⟩
    · have hx0 := old hl hx ⟨_, h1⟩
      obtain ⟨j1, v, j2, j3⟩ := hs.cells r row x h1 hx0 k c hk
      have hne : row.cells ≠ [] := by intro e0; rw [e0] at hk; simp at hk
      refine ⟨j1, v, ?_, j3.mono hle⟩
      rw [World.cell?_of_block (w := w) (same _ (low h1 hx0 (.inr hne) (hs.room r row x h1 hx0 hne)))]
      exact j2
    · exact hsim'.cells r row x h1 hx k c hk
  · rcases mergeK_at hr with ⟨hl, h1⟩ | ⟨_, h1, _⟩
    · have hx0 := old hl hx ⟨_, h1⟩
      obtain ⟨o1, o2, o3⟩ := hs.own r row x h1 ho hx0
      refine ⟨o1, o2, fun hn => ?_⟩
      obtain ⟨p1, p2, p3⟩ := o3 hn
      have q := same _ (low h1 hx0 (.inl ho) hn)
      exact ⟨p1, by rw [q]; exact p2, fun j hj => by rw [World.frozen?_of_block (w := w) q]; exact p3 j hj⟩
    · obtain ⟨o1, o2, o3⟩ := hsim'.own r row x h1 ho hx
      exact ⟨o1, o2, fun hn => ⟨.inl (new h1 ho hx hn), (o3 hn).2⟩⟩
  · rcases mergeK_at h1 with ⟨l1, k1⟩ | ⟨l1, k1, o1⟩
    · have hx0 := old l1 hx ⟨_, k1⟩
      have hb := low k1 hx0 (.inl h3) nx
      rcases mergeK_at h2 with ⟨l2, k2⟩ | ⟨l2, k2, o2⟩
      · exact hs.dist r1 r2 a b x y k1 k2 h3 h4 h5 hx0 (old l2 hy ⟨_, k2⟩) nx ny
      · have := new k2 o2 hy ny
        omega
    · have hb := new k1 o1 hx nx
      rcases mergeK_at h2 with ⟨l2, k2⟩ | ⟨l2, k2, o2⟩
      · have hy0 := old l2 hy ⟨_, k2⟩
        have := low k2 hy0 h5 ny
        omega
      · exact hsim'.dist r1 r2 a b x y k1 k2 h3 h4 h5 hx hy nx ny
  · rcases mergeK_at hr with ⟨hl, h1⟩ | ⟨_, h1, _⟩
    · exact hs.room r row x h1 (old hl hx ⟨_, h1⟩) hne
    · exact hsim'.room r row x h1 hx hne
  · refine ⟨hfrm.os, hfrm.tape, hfrm.output, hfrm.size, fun k hk _ => same k hk⟩
  · simp [mergeK]

/-! ### The runner -/
abbrev Res := AExit × List AV × AHeap
abbrev Caller := FuncId → List AV → AHeap → Option (AV × AHeap)

def envS (γ : Nat → AV) (l : List AV) : St := fun t => if t < 1048576 then l.getD t unv else γ (t - 1048576)
theorem gl_env {γ : Nat → AV} {l : List AV} : gl (envS γ l) = γ := by
  funext g
  unfold gl envS
  rw [if_neg (by omega), Nat.add_sub_cancel_left]

def putE (d : Option Nat) (l : List AV) (v : AV) : Option (List AV) := match d with
  | none => some l
  | some d => if d < l.length ∧ d < 1048576 then some (l.set d v) else none

theorem putE_ok {γ : Nat → AV} {d : Option Nat} {l l' : List AV} {v : AV} (h : putE d l v = some l') : putI d (envS γ l) v = envS γ l' := by
  cases d with
  | none => simp only [putE, Option.some.injEq] at h; subst h; rfl
  | some d =>
    simp only [putE] at h
    split at h
    · rename_i hd
      simp only [Option.some.injEq] at h; subst h
      funext t
      simp only [putI, upd, envS, List.getD_eq_getElem?_getD]
      by_cases ht : t = d
      · subst ht; simp [hd.1, hd.2]
      · rw [if_neg ht, List.getElem?_set_ne (Ne.symm ht)]
    · cases h

def rput (d : Option Nat) (l : List AV) (v : AV) (H : AHeap) : Option (List AV × AHeap) := (putE d l v).map fun l' => (l', H)

def rop (γ : Nat → AV) (call : Caller) (H0 : AHeap) (mode : Nat) (d : Option Nat) (o : IOp) (l : List AV) (H : AHeap) : Option (List AV × AHeap) :=
  match o with
  | .pure p => (ipure p (envS γ l)).bind fun v => rput d l v H
  | .eff e => match mode with
    | 1 => (ieff e (envS γ l) H0).bind fun r => rput d l r.1 H
    | _ => (ieff e (envS γ l) H).bind fun r => rput d l r.1 r.2
  | .call f args => match calleeOf (args.map (evo (envS γ l))) (evo (envS γ l) f) with
    | some (f, all) => match mode with
      | 2 => (call f all (demote H)).bind fun r => rput d l r.1 (mergeK H r.2)
      | _ => (call f all H).bind fun r => rput d l r.1 r.2
    | none => none

def rstep (γ : Nat → AV) (call : Caller) (H0 : AHeap) (mode : Nat) (st : IStep) (l : List AV) (H : AHeap) : Option (List AV × AHeap) :=
  match st.guard with
  | none => rop γ call H0 mode st.dst st.op l H
  | some (t, want) => match envS γ l t with
    | .bool b => if b = want then rop γ call H0 mode st.dst st.op l H else rput st.dst l unv H
    | .lit (.tuple _) => rput st.dst l unv H
    | _ => none

def rops (γ : Nat → AV) (call : Caller) : List IStep → List AV → AHeap → Option (List AV × AHeap)
  | [], l, H => some (l, H)
  | st :: r, l, H => (rstep γ call [] 0 st l H).bind fun x => rops γ call r x.1 x.2

def rdops (γ : Nat → AV) (call : Caller) (H0 : AHeap) : List DStep → List AV → AHeap → Option (List AV × AHeap)
  | [], l, H => some (l, H)
  | x :: r, l, H => (rstep γ call H0 x.mode x.st l H).bind fun y => rdops γ call H0 r y.1 y.2

/-- A function's text, found. -/
structure Found where
  ir : IR
  rs : List IRes
  nt : Nat

def find (P : Program) (f : FuncId) : Option Found :=
  match P.funcs[f]? with
  | some fn => match fn.body.bind (irOf P fn.ntmps), fn.results.toList.mapM (resOf P) with
    | some ir, some rs => if enters P f = true then some ⟨ir, rs, fn.ntmps⟩ else none
    | _, _ => none
  | none => none

section
variable {P : Program} {γ : Nat → AV}

/-- What a caller's answers are worth. -/
def CallOK (P : Program) (γ : Nat → AV) (call : Caller) : Prop := ∀ f args H v H', call f args H = some (v, H') → ∃ W, ACallsG P γ f args H W fun v2 H2 => v2 = v ∧ H2 = H'

theorem rput_ok {d : Option Nat} {l : List AV} {v : AV} {H : AHeap} {x : List AV × AHeap} (h : rput d l v H = some x) {K : St → AHeap → Prop} (hK : K (envS γ x.1) x.2) : K (putI d (envS γ l) v) H := by
  simp only [rput, Option.map_eq_some_iff] at h
  obtain ⟨l', h1, rfl⟩ := h
  rw [putE_ok h1]; exact hK

theorem thenC_of {K : St → AHeap → Prop} {d : Option Nat} {s : St} {H : AHeap} {args all : List AV} {fv : AV} {c : FuncId} {W : List Nat} (hc : calleeOf args fv = some (c, all)) (h : ACallsG P (gl s) c all H W fun v H' => K (putI d s v) H') : thenC P K d s H args fv := by
  unfold calleeOf at hc
  unfold thenC
  split at hc
  · simp only [Option.some.injEq, Prod.mk.injEq] at hc
    obtain ⟨rfl, rfl⟩ := hc
    exact ⟨W, h⟩
  · simp only [Option.some.injEq, Prod.mk.injEq] at hc
    obtain ⟨rfl, rfl⟩ := hc
    exact ⟨W, h⟩
  · cases hc
theorem thenC0_of {K : St → AHeap → Prop} {d : Option Nat} {s : St} {H : AHeap} {args all : List AV} {fv : AV} {c : FuncId} (hc : calleeOf args fv = some (c, all)) (h : ACallsG P (gl s) c all H [] fun v H' => K (putI d s v) H') : thenC0 P K d s H args fv := by
  unfold calleeOf at hc
  unfold thenC0
  split at hc
  · simp only [Option.some.injEq, Prod.mk.injEq] at hc
    obtain ⟨rfl, rfl⟩ := hc
    exact h
  · simp only [Option.some.injEq, Prod.mk.injEq] at hc
    obtain ⟨rfl, rfl⟩ := hc
    exact h
  · cases hc

theorem rop_ok {call : Caller} (hc : CallOK P γ call) {H0 : AHeap} {mode : Nat} {d : Option Nat} {o : IOp} {l : List AV} {H : AHeap} {x : List AV × AHeap} (h : rop γ call H0 mode d o l H = some x) {K : St → AHeap → Prop} (hK : K (envS γ x.1) x.2) :
    iopD P H0 mode d o K (envS γ l) H := by
  cases o with
  | pure p =>
    simp only [rop, Option.bind_eq_some_iff] at h
    obtain ⟨v, h1, h2⟩ := h
    simp only [iopD, h1]
    exact rput_ok h2 hK
  | eff e =>
    simp only [rop] at h
    simp only [iopD]
    split at h
    · simp only [Option.bind_eq_some_iff] at h
      obtain ⟨⟨v, H1⟩, h1, h2⟩ := h
      simp only [h1]
      exact rput_ok h2 hK
    · rename_i hm
      simp only [Option.bind_eq_some_iff] at h
      obtain ⟨⟨v, H1⟩, h1, h2⟩ := h
      split
      · exact (hm rfl).elim
      · simp only [h1]
        exact rput_ok h2 hK
  | call f args =>
    simp only [rop] at h
    simp only [iopD]
    split at h
    · rename_i f' all hf
      split at h
      · simp only [Option.bind_eq_some_iff] at h
        obtain ⟨⟨v, H1⟩, h1, h2⟩ := h
        obtain ⟨W, hA⟩ := hc _ _ _ _ _ h1
        refine thenC0_of hf ?_
        rw [gl_env]
        refine hA.keep.mono fun v2 H2 ⟨H3, ⟨e1, e2⟩, e3⟩ => ?_
        subst e1; subst e2; subst e3
        exact rput_ok h2 hK
      · rename_i hm
        simp only [Option.bind_eq_some_iff] at h
        obtain ⟨⟨v, H1⟩, h1, h2⟩ := h
        obtain ⟨W, hA⟩ := hc _ _ _ _ _ h1
        split
        · exact (hm rfl).elim
        · refine thenC_of hf (W := W) ?_
          rw [gl_env]
          refine hA.mono fun v2 H2 ⟨e1, e2⟩ => ?_
          subst e1; subst e2
          exact rput_ok h2 hK
    · cases h

theorem iop_of_D {d : Option Nat} {o : IOp} {K : St → AHeap → Prop} {s : St} {H H0 : AHeap} (h : iopD P H0 0 d o K s H) : iop P d o K s H := by
  cases o <;> exact h

theorem rstepD_ok {call : Caller} (hc : CallOK P γ call) {H0 : AHeap} {dx : DStep} {l : List AV} {H : AHeap} {x : List AV × AHeap} (h : rstep γ call H0 dx.mode dx.st l H = some x) {K : St → AHeap → Prop} (hK : K (envS γ x.1) x.2) :
    istepD P H0 dx K (envS γ l) H := by
  unfold rstep at h
  unfold istepD
  split at h
  · rename_i hg
    simp only [hg]
    exact rop_ok hc h hK
  · rename_i t want hg
    simp only [hg]
    split at h
    · rename_i b hb
      simp only [hb, guardP]
      split at h
      · rename_i e; rw [if_pos e]; exact rop_ok hc h hK
      · rename_i e; rw [if_neg e]; exact rput_ok h hK
    · rename_i hb
      simp only [hb, guardP]
      exact rput_ok h hK
    · cases h

theorem rstep_ok {call : Caller} (hc : CallOK P γ call) {st : IStep} {l : List AV} {H : AHeap} {x : List AV × AHeap} (h : rstep γ call [] 0 st l H = some x) {K : St → AHeap → Prop} (hK : K (envS γ x.1) x.2) :
    istep P st K (envS γ l) H := by
  unfold rstep at h
  unfold istep
  split at h
  · rename_i hg
    simp only [hg]
    exact iop_of_D (rop_ok hc h hK)
  · rename_i t want hg
    simp only [hg]
    split at h
    · rename_i b hb
      simp only [hb, guardP]
      split at h
      · rename_i e; rw [if_pos e]; exact iop_of_D (rop_ok hc h hK)
      · rename_i e; rw [if_neg e]; exact rput_ok h hK
    · rename_i hb
      simp only [hb, guardP]
      exact rput_ok h hK
    · cases h

theorem rops_ok {call : Caller} (hc : CallOK P γ call) {K : St → AHeap → Prop} : ∀ (o : List IStep) (l : List AV) (H : AHeap) (x : List AV × AHeap), rops γ call o l H = some x → K (envS γ x.1) x.2 → iops P o K (envS γ l) H
  | [], l, H, x, h, hK => by simp only [rops, Option.some.injEq] at h; subst h; exact hK
  | st :: r, l, H, x, h, hK => by
    simp only [rops, Option.bind_eq_some_iff] at h
    obtain ⟨y, h1, h2⟩ := h
    exact rstep_ok hc h1 (K := iops P r K) (rops_ok hc r y.1 y.2 x h2 hK)

theorem rdops_ok {call : Caller} (hc : CallOK P γ call) {K : St → AHeap → Prop} {H0 : AHeap} : ∀ (o : List DStep) (l : List AV) (H : AHeap) (x : List AV × AHeap), rdops γ call H0 o l H = some x → K (envS γ x.1) x.2 → iopsD P H0 o K (envS γ l) H
  | [], l, H, x, h, hK => by simp only [rdops, Option.some.injEq] at h; subst h; exact hK
  | st :: r, l, H, x, h, hK => by
    simp only [rdops, Option.bind_eq_some_iff] at h
    obtain ⟨y, h1, h2⟩ := h
    exact rstepD_ok hc h1 (K := iopsD P H0 r K) (rdops_ok hc r y.1 y.2 x h2 hK)

theorem envS_pad {args : List AV} {k : Nat} (hl : args.length ≤ 1048576) : envS γ (args ++ List.replicate k unv) = s0G γ args := by
  funext t
  simp only [envS, s0G, List.getD_eq_getElem?_getD]
  rcases Nat.lt_or_ge t args.length with h | h
  · rw [List.getElem?_append_left h, if_pos (by omega), List.getElem?_eq_getElem h]; rfl
  · rw [List.getElem?_append_right h, List.getElem?_eq_none h, List.getElem?_replicate]
    simp only
    split
    · split <;> rfl
    · rfl

end
end Go.Vh

