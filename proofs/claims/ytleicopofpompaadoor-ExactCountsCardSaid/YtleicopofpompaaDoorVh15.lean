/- Rows under other numbers: a contract over a few rows serves in a larger heap; rows that are no longer wanted are let go. -/
import Derived.Test.YtleicopofpompaaDoorVh14
set_option linter.unusedSimpArgs false
set_option linter.unusedVariables false
namespace Go.Vh
open Go

abbrev Sig := Nat → Option (Nat × Nat)

mutual
def AV.ren (σ : Sig) : AV → AV
  | .ptr r off => match σ r with | some (r', d) => .ptr r' (d + off) | none => .any
  | .slice r off n c => match σ r with | some (r', d) => .slice r' (d + off) n c | none => .any
  | .sliceU r off n sz => match σ r with | some (r', d) => .sliceU r' (d + off) n sz | none => .any
  | .func f l => .func f (renL σ l)
  | .bound f k l => .bound f (renL σ k) (renL σ l)
  | .agg l => .agg (renL σ l)
  | .tuple l => .tuple (renL σ l)
  | .iface t v => .iface t (AV.ren σ v)
  | .any => .any
  | .bool b => .bool b
  | .int k n => .int k n
  | .str s => .str s
  | .lit v => .lit v
  | .nilptr => .nilptr
  | .nilslice => .nilslice
def renL (σ : Sig) : List AV → List AV
  | [] => []
  | v :: l => AV.ren σ v :: renL σ l
end

mutual
/-- All rows that are named are below n. -/
def AV.under (n : Nat) : AV → Bool
  | .ptr r _ => r < n
  | .slice r _ _ _ => r < n
  | .sliceU r _ _ _ => r < n
  | .func _ l => underL n l
  | .bound _ k l => underL n k && underL n l
  | .agg l => underL n l
  | .tuple l => underL n l
  | .iface _ v => AV.under n v
  | .any => false
  | _ => true
def underL (n : Nat) : List AV → Bool
  | [] => true
  | v :: l => AV.under n v && underL n l
end

theorem renL_length (σ : Sig) : ∀ l : List AV, (renL σ l).length = l.length
  | [] => rfl
  | v :: l => by simp [renL, renL_length σ l]
theorem renL_get (σ : Sig) : ∀ (l : List AV) (i : Nat), (renL σ l)[i]? = (l[i]?).map (AV.ren σ)
  | [], i => by simp [renL]
  | v :: l, 0 => by simp [renL]
  | v :: l, i + 1 => by simp [renL, renL_get σ l i]
theorem renL_append (σ : Sig) : ∀ l m : List AV, renL σ (l ++ m) = renL σ l ++ renL σ m
  | [], m => rfl
  | v :: l, m => by simp [renL, renL_append σ l m]
theorem renL_ints (σ : Sig) (k : IntKind) : ∀ l : List Int, renL σ (ints k l) = ints k l
  | [] => rfl
  | x :: l => by rw [ints_cons, renL, AV.ren, renL_ints σ k l]
theorem underL_ints (n : Nat) (k : IntKind) : ∀ l : List Int, underL n (ints k l) = true
  | [] => rfl
  | x :: l => by rw [ints_cons, underL, underL_ints n k l]; rfl
theorem underL_get {n : Nat} : ∀ {l : List AV}, underL n l = true → ∀ {i : Nat} {v : AV}, l[i]? = some v → v.under n = true
  | [], _, i, v, h => by simp at h
  | a :: l, hb, i, v, h => by
    simp only [underL, Bool.and_eq_true] at hb
    cases i with
    | zero => simp at h; subst h; exact hb.1
    | succ i => exact underL_get hb.2 (by simpa using h)

/-- A location, seen from a cell on. -/
def Loc.from (x : Loc) (d : Nat) : Loc := ⟨x.b, x.d + d, x.n⟩

mutual
/-- Back: what fits under the new numbers fits under the old ones. -/
theorem VRel.back {ρ ρ0 : RMap} {σ : Sig} {n : Nat} (h : ∀ i, i < n → ∃ r d x, σ i = some (r, d) ∧ (∀ y, ρ r = some y → x = y) ∧ ρ0 i = some (x.from d)) :
    ∀ {a : AV} {v : Value}, a.under n = true → VRel ρ (a.ren σ) v → VRel ρ0 a v
  | .ptr i off, v, hb, hv => by
    simp only [AV.under, decide_eq_true_eq] at hb
    obtain ⟨r, d, x, h1, h2, h3⟩ := h i hb
    simp only [AV.ren, h1] at hv
    obtain ⟨y, hy, rfl⟩ := hv.ptr_inv
    obtain rfl := h2 y hy
    have := VRel.ptr (ρ := ρ0) i off (x.from d) h3
    simpa [Loc.from, Nat.add_assoc] using this
  | .slice i off m c, v, hb, hv => by
    simp only [AV.under, decide_eq_true_eq] at hb
    obtain ⟨r, d, x, h1, h2, h3⟩ := h i hb
    simp only [AV.ren, h1] at hv
    rcases hv.slice_inv with ⟨y, hy, hle, rfl⟩ | ⟨rfl, rfl, q, rfl⟩
    · obtain rfl := h2 y hy
      have := VRel.slice (ρ := ρ0) i off m c (x.from d) h3 hle
      simpa [Loc.from, Nat.add_assoc] using this
    · exact .slice0 _ _ _
  | .sliceU i off m sz, v, hb, hv => by
    simp only [AV.under, decide_eq_true_eq] at hb
    obtain ⟨r, d, x, h1, h2, h3⟩ := h i hb
    simp only [AV.ren, h1] at hv
    rcases hv.sliceU_inv with ⟨y, c, hy, hle, hf, rfl⟩ | ⟨rfl, q, rfl⟩
    · obtain rfl := h2 y hy
      have := VRel.sliceU (ρ := ρ0) i off m sz c (x.from d) h3 hle (by simp only [Loc.from]; omega)
      simpa [Loc.from, Nat.add_assoc] using this
    · exact .sliceU0 _ _ _ _
  | .func f l, v, hb, hv => by
    simp only [AV.under] at hb
    simp only [AV.ren] at hv
    obtain ⟨cs, rfl, hr⟩ := hv.func_inv
    exact .func _ _ _ (VRelL.back h hb hr)
  | .bound f k l, v, hb, hv => by
    simp only [AV.under, Bool.and_eq_true] at hb
    simp only [AV.ren] at hv
    obtain ⟨fs, cs, rfl, hr, hr'⟩ := hv.bound_inv
    exact .bound _ _ _ _ _ (VRelL.back h hb.1 hr) (VRelL.back h hb.2 hr')
  | .agg l, v, hb, hv => by
    simp only [AV.under] at hb
    simp only [AV.ren] at hv
    obtain ⟨cs, rfl, hr⟩ := hv.agg_inv
    exact .agg _ _ (VRelL.back h hb hr)
  | .tuple l, v, hb, hv => by
    simp only [AV.under] at hb
    simp only [AV.ren] at hv
    obtain ⟨cs, rfl, hr⟩ := hv.tuple_inv
    exact .tuple _ _ (VRelL.back h hb hr)
  | .iface t u, v, hb, hv => by
    simp only [AV.under] at hb
    simp only [AV.ren] at hv
    obtain ⟨v', rfl, hr⟩ := hv.iface_inv
    exact .iface _ _ _ (VRel.back h hb hr)
  | .any, v, hb, hv => .any _
  | .bool b, v, hb, hv => by simp only [AV.ren] at hv; rw [hv.bool_inv]; exact .bool _
  | .int k n, v, hb, hv => by simp only [AV.ren] at hv; rw [hv.int_inv]; exact .int _ _
  | .str s, v, hb, hv => by simp only [AV.ren] at hv; rw [hv.str_inv]; exact .str _
  | .lit u, v, hb, hv => by simp only [AV.ren] at hv; cases hv; exact .lit _
  | .nilptr, v, hb, hv => by simp only [AV.ren] at hv; cases hv; exact .nilptr
  | .nilslice, v, hb, hv => by simp only [AV.ren] at hv; rw [hv.nilslice_inv]; exact .nilslice
theorem VRelL.back {ρ ρ0 : RMap} {σ : Sig} {n : Nat} (h : ∀ i, i < n → ∃ r d x, σ i = some (r, d) ∧ (∀ y, ρ r = some y → x = y) ∧ ρ0 i = some (x.from d)) :
    ∀ {l : List AV} {vs : List Value}, underL n l = true → VRelL ρ (renL σ l) vs → VRelL ρ0 l vs
  | [], vs, _, hv => by simp only [renL] at hv; cases hv; exact .nil
  | a :: l, vs, hb, hv => by
    simp only [underL, Bool.and_eq_true] at hb
    simp only [renL] at hv
    cases hv with
    | cons _ v _ vs' h1 h2 => exact .cons _ _ _ _ (VRel.back h hb.1 h1) (VRelL.back h hb.2 h2)
end

mutual
/-- Forth: what fits under the old numbers fits under the new ones. -/
theorem VRel.forth {ρ ρ0 : RMap} {σ : Sig} (h : ∀ i r d y, σ i = some (r, d) → ρ0 i = some y → ∃ x, ρ r = some x ∧ y = x.from d) :
    ∀ {a : AV} {v : Value}, VRel ρ0 a v → VRel ρ (a.ren σ) v
  | .ptr i off, v, hv => by
    obtain ⟨y, hy, rfl⟩ := hv.ptr_inv
    simp only [AV.ren]
    split
    · rename_i r d hσ
      obtain ⟨x, hx, rfl⟩ := h i r d y hσ hy
      have := VRel.ptr (ρ := ρ) r (d + off) x hx
      simpa [Loc.from, Nat.add_assoc] using this
    · exact .any _
  | .slice i off m c, v, hv => by
    simp only [AV.ren]
    split
    · rename_i r d hσ
      rcases hv.slice_inv with ⟨y, hy, hle, rfl⟩ | ⟨rfl, rfl, q, rfl⟩
      · obtain ⟨x, hx, rfl⟩ := h i r d y hσ hy
        have := VRel.slice (ρ := ρ) r (d + off) m c x hx hle
        simpa [Loc.from, Nat.add_assoc] using this
      · exact .slice0 _ _ _
    · exact .any _
  | .sliceU i off m sz, v, hv => by
    simp only [AV.ren]
    split
    · rename_i r d hσ
      rcases hv.sliceU_inv with ⟨y, c, hy, hle, hf, rfl⟩ | ⟨rfl, q, rfl⟩
      · obtain ⟨x, hx, rfl⟩ := h i r d y hσ hy
        have := VRel.sliceU (ρ := ρ) r (d + off) m sz c x hx hle (by simp only [Loc.from] at hf; omega)
        simpa [Loc.from, Nat.add_assoc] using this
      · exact .sliceU0 _ _ _ _
    · exact .any _
  | .func f l, v, hv => by
    obtain ⟨cs, rfl, hr⟩ := hv.func_inv
    simp only [AV.ren]
    exact .func _ _ _ (VRelL.forth h hr)
  | .bound f k l, v, hv => by
    obtain ⟨fs, cs, rfl, hr, hr'⟩ := hv.bound_inv
    simp only [AV.ren]
    exact .bound _ _ _ _ _ (VRelL.forth h hr) (VRelL.forth h hr')
  | .agg l, v, hv => by
    obtain ⟨cs, rfl, hr⟩ := hv.agg_inv
    simp only [AV.ren]
    exact .agg _ _ (VRelL.forth h hr)
  | .tuple l, v, hv => by
    obtain ⟨cs, rfl, hr⟩ := hv.tuple_inv
    simp only [AV.ren]
    exact .tuple _ _ (VRelL.forth h hr)
  | .iface t u, v, hv => by
    obtain ⟨v', rfl, hr⟩ := hv.iface_inv
    simp only [AV.ren]
    exact .iface _ _ _ (VRel.forth h hr)
  | .any, v, hv => .any _
  | .bool b, v, hv => by rw [hv.bool_inv]; exact .bool _
  | .int k n, v, hv => by rw [hv.int_inv]; exact .int _ _
  | .str s, v, hv => by rw [hv.str_inv]; exact .str _
  | .lit u, v, hv => by cases hv; exact .lit _
  | .nilptr, v, hv => by cases hv; exact .nilptr
  | .nilslice, v, hv => by rw [hv.nilslice_inv]; exact .nilslice
theorem VRelL.forth {ρ ρ0 : RMap} {σ : Sig} (h : ∀ i r d y, σ i = some (r, d) → ρ0 i = some y → ∃ x, ρ r = some x ∧ y = x.from d) :
    ∀ {l : List AV} {vs : List Value}, VRelL ρ0 l vs → VRelL ρ (renL σ l) vs
  | [], vs, hv => by cases hv; simp only [renL]; exact .nil
  | a :: l, vs, hv => by
    cases hv with
    | cons _ v _ vs' h1 h2 => simp only [renL]; exact .cons _ _ _ _ (VRel.forth h h1) (VRelL.forth h h2)
end

theorem ren_cell {σ : Sig} (hσ : ∀ i, (σ i).isSome = true) : ∀ {c : AV}, c.cell = true → (c.ren σ).cell = true
  | .ptr r off, _ => by
    obtain ⟨p, hp⟩ := Option.isSome_iff_exists.1 (hσ r)
    simp [AV.ren, hp, AV.cell]
  | .slice r off m c, _ => by
    obtain ⟨p, hp⟩ := Option.isSome_iff_exists.1 (hσ r)
    simp [AV.ren, hp, AV.cell]
  | .sliceU r off m c, _ => by
    obtain ⟨p, hp⟩ := Option.isSome_iff_exists.1 (hσ r)
    simp [AV.ren, hp, AV.cell]
  | .func f l, _ => by simp [AV.ren, AV.cell]
  | .bound f k l, _ => by simp [AV.ren, AV.cell]
  | .iface t v, _ => by simp [AV.ren, AV.cell]
  | .bool b, _ => rfl
  | .int k n, _ => rfl
  | .str s, _ => rfl
  | .nilptr, _ => rfl
  | .nilslice, _ => rfl
  | .lit u, h => by simpa [AV.ren] using h
  | .any, h => by simp [AV.cell] at h
  | .agg l, h => by simp [AV.cell] at h
  | .tuple l, h => by simp [AV.cell] at h

theorem ren_cell' {σ : Sig} : ∀ {c : AV}, (c.ren σ).cell = true → c.cell = true
  | .ptr r off, _ => rfl
  | .slice r off m c, _ => rfl
  | .sliceU r off m c, _ => rfl
  | .func f l, _ => rfl
  | .bound f k l, _ => rfl
  | .iface t v, _ => rfl
  | .bool b, _ => rfl
  | .int k n, _ => rfl
  | .str s, _ => rfl
  | .nilptr, _ => rfl
  | .nilslice, _ => rfl
  | .lit u, h => by simpa [AV.ren] using h
  | .any, h => by simp [AV.ren, AV.cell] at h
  | .agg l, h => by simp [AV.ren, AV.cell] at h
  | .tuple l, h => by simp [AV.ren, AV.cell] at h

/-- The numbers of a callee's rows: those that it is handed, then new ones from m on. -/
def sig (σ : List (Nat × Nat)) (m : Nat) : Sig := fun i => if i < σ.length then σ[i]? else some (m + (i - σ.length), 0)

theorem sig_some (σ : List (Nat × Nat)) (m i : Nat) : (sig σ m i).isSome = true := by
  unfold sig
  split
  · rename_i h; simp [h]
  · rfl

def renRow (σ : Sig) : Option ARow → Option ARow
  | some row => if row.own = true then some ⟨true, row.slack, renL σ row.cells⟩ else none
  | none => none

/-- The rows that were handed over as own ones, put back. -/
def mergeGo (σ' : Sig) (H0' : AHeap) : AHeap → List (Nat × Nat) → Nat → AHeap → AHeap
  | o :: os, p :: ps, i, H => mergeGo σ' H0' os ps (i + 1) (match o with
      | some row => if row.own = true then H.set p.1 (renRow σ' (rowAt H0' i)) else H
      | none => H)
  | _, _, _, H => H

def merge (H : AHeap) (σ : List (Nat × Nat)) (H0 H0' : AHeap) : AHeap :=
  mergeGo (sig σ H.length) H0' H0 σ 0 H ++ (H0'.drop H0.length).map (renRow (sig σ H.length))

/-- A row of the callee's, seen in the caller's heap. -/
def seen (H : AHeap) (σ : Sig) (n : Nat) : Option ARow → Nat × Nat → Prop
  | some row0, p => ∃ row, rowAt H p.1 = some row ∧ p.2 + row0.cells.length ≤ row.cells.length ∧ renL σ row0.cells = (row.cells.drop p.2).take row0.cells.length ∧ underL n row0.cells = true ∧
      (row0.own = true → row.own = true ∧ p.2 = 0 ∧ row0.cells.length = row.cells.length ∧ row0.slack = row.slack)
  | none, _ => True

def seenAll (H : AHeap) (σ : Sig) (n : Nat) : AHeap → List (Nat × Nat) → Prop
  | [], [] => True
  | o :: os, p :: ps => seen H σ n o p ∧ seenAll H σ n os ps
  | _, _ => False

def ownAt (H0 : AHeap) (i : Nat) : Bool := (rowAt H0 i).any (·.own)

/-- An own row is handed over once, and not under another number. -/
def onceOK (H0 : AHeap) (σ : List (Nat × Nat)) : Bool :=
  (List.range σ.length).all fun i => !ownAt H0 i || (List.range σ.length).all fun j => i == j || (σ.getD i (0, 0)).1 != (σ.getD j (0, 0)).1

def ownImg (H0 : AHeap) (σ : List (Nat × Nat)) : List Nat := ((List.range σ.length).filter (ownAt H0)).map fun i => (σ.getD i (0, 0)).1

theorem seenAll_get {H : AHeap} {σ : Sig} {n : Nat} : ∀ {H0 : AHeap} {ps : List (Nat × Nat)}, seenAll H σ n H0 ps → H0.length = ps.length ∧ ∀ i row0, rowAt H0 i = some row0 → ∃ p, ps[i]? = some p ∧ seen H σ n (some row0) p
  | [], [], _ => ⟨rfl, fun i row0 h => by simp [rowAt] at h⟩
  | [], _ :: _, h => h.elim
  | _ :: _, [], h => h.elim
  | o :: os, p :: ps, h => by
    obtain ⟨h1, h2⟩ := seenAll_get h.2
    refine ⟨by simp [h1], fun i row0 hi => ?_⟩
    cases i with
    | zero => simp [rowAt] at hi; subst hi; exact ⟨p, rfl, h.1⟩
    | succ i => exact h2 i row0 (by simpa [rowAt] using hi)

theorem mergeGo_length (σ' : Sig) (H0' : AHeap) : ∀ (os : AHeap) (ps : List (Nat × Nat)) (i : Nat) (H : AHeap), (mergeGo σ' H0' os ps i H).length = H.length
  | [], _, _, _ => by simp [mergeGo]
  | _ :: _, [], _, _ => by simp [mergeGo]
  | o :: os, p :: ps, i, H => by
    simp only [mergeGo]
    rw [mergeGo_length σ' H0' os ps]
    split
    · split <;> simp
    · rfl

/-- What stands in a row behind the merge. -/
theorem mergeGo_at (σ' : Sig) (H0' : AHeap) : ∀ (os : AHeap) (ps : List (Nat × Nat)) (i : Nat) (H : AHeap) (r : Nat), r < H.length →
    ((∃ (j : Nat) (p : Nat × Nat) (row0 : ARow), os[j]? = some (some row0) ∧ ps[j]? = some p ∧ row0.own = true ∧ p.1 = r ∧ rowAt (mergeGo σ' H0' os ps i H) r = renRow σ' (rowAt H0' (i + j))) ∨
     ((∀ (j : Nat) (p : Nat × Nat) (row0 : ARow), os[j]? = some (some row0) → ps[j]? = some p → row0.own = true → p.1 ≠ r) ∧ rowAt (mergeGo σ' H0' os ps i H) r = rowAt H r))
  | [], ps, i, H, r, _ => by
    refine .inr ⟨fun j p row0 h => by simp at h, by simp [mergeGo]⟩
  | o :: os, [], i, H, r, _ => by
    refine .inr ⟨fun j p row0 _ h => by simp at h, by simp [mergeGo]⟩
  | o :: os, p :: ps, i, H, r, hr => by
    simp only [mergeGo]
    generalize hH1 : (match o with
      | some row => if row.own = true then H.set p.1 (renRow σ' (rowAt H0' i)) else H
      | none => H) = H1
    have hl : H1.length = H.length := by
      rw [← hH1]
      split
      · split <;> simp
      · rfl
    rcases mergeGo_at σ' H0' os ps (i + 1) H1 r (by omega) with ⟨j, q, row0, h1, h2, h3, h4, h5⟩ | ⟨h1, h2⟩
    · exact .inl ⟨j + 1, q, row0, by simpa using h1, by simpa using h2, h3, h4, by rw [h5]; congr 2; omega⟩
    · by_cases hp : ∃ row, o = some row ∧ row.own = true ∧ p.1 = r
      · obtain ⟨row, rfl, ho, hp⟩ := hp
        refine .inl ⟨0, p, row, by simp, by simp, ho, hp, ?_⟩
        rw [h2, ← hH1]
        simp only [ho, if_true]
        rw [hp, rowAt_set (by omega), if_pos rfl, Nat.add_zero]
      · refine .inr ⟨fun j q row0 k1 k2 k3 k4 => ?_, ?_⟩
        · cases j with
          | zero => simp at k1 k2; subst k1; subst k2; exact hp ⟨row0, rfl, k3, k4⟩
          | succ j => exact h1 j q row0 (by simpa using k1) (by simpa using k2) k3 k4
        · rw [h2, ← hH1]
          split
          · rename_i row
            split
            · rename_i ho
              have hne : p.1 ≠ r := fun e => hp ⟨row, rfl, ho, e⟩
              rcases Nat.lt_or_ge p.1 H.length with hpl | hpl
              · rw [rowAt_set hpl, if_neg (Ne.symm hne)]
              · rw [List.set_eq_of_length_le hpl]
            · rfl
          · rfl
end Go.Vh
