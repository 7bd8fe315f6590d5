/- Calls in a proof; rows let go. -/
import Derived.Test.YtleicopofpompaaDoorVh16
set_option linter.unusedSimpArgs false
set_option linter.unusedVariables false
namespace Go.Vh
open Go

section
variable {P : Program} {f : FuncId} {args0 : List AV} {H0 : AHeap} {W0 : List Nat} {R0 : AV → AHeap → Prop} {K : St → AHeap → Prop} {d : Option Nat} {s : St} {H : AHeap} {args caps : List AV}

theorem call_do (h : ACalls P f args0 H0 W0 R0) (σ : List (Nat × Nat)) (hall : H0.all Option.isSome = true) (hu : underL H0.length args0 = true) (honce : onceOK H0 σ = true) (hargs : args ++ caps = renL (sig σ H.length) args0)
    (hseen : seenAll H (sig σ H.length) H0.length H0 σ) (hK : ∀ v0 H0', R0 v0 H0' → K (putI d s (v0.ren (sig σ H.length))) (merge H σ H0 H0')) : thenC P K d s H args (.func f caps) := by
  refine ⟨ownImg H0 σ, ?_⟩
  rw [hargs]
  refine (ACalls.frame h H σ hall hu hseen honce).g.mono fun v H' ⟨v0, H0', h1, h2, h3⟩ => ?_
  subst h2; subst h3
  exact hK v0 H0' h1

theorem call_do0 (h : ACalls P f args0 H0 W0 R0) (σ : List (Nat × Nat)) (hall : H0.all Option.isSome = true) (hu : underL H0.length args0 = true) (honce : onceOK H0 σ = true) (hW : ownImg H0 σ = []) (hargs : args ++ caps = renL (sig σ H.length) args0)
    (hseen : seenAll H (sig σ H.length) H0.length H0 σ) (hK : ∀ v0 H0', R0 v0 H0' → K (putI d s (v0.ren (sig σ H.length))) (merge H σ H0 H0')) : thenC0 P K d s H args (.func f caps) := by
  show ACallsG P (gl s) f (args ++ caps) H [] _
  rw [hargs, ← hW]
  refine (ACalls.frame h H σ hall hu hseen honce).g.mono fun v H' ⟨v0, H0', h1, h2, h3⟩ => ?_
  subst h2; subst h3
  exact hK v0 H0' h1

/-- A contract that needs no row. -/
theorem call_pure (h : ACalls P f args0 [] W0 R0) (hu : underL 0 args0 = true) (hargs : args ++ caps = args0) (hr : renL (sig [] H.length) args0 = args0)
    (hK : ∀ v0, R0 v0 [] → K (putI d s (v0.ren (sig [] H.length))) H) (hR : ∀ v H', R0 v H' → H' = []) : thenC P K d s H args (.func f caps) :=
  call_do h [] rfl hu rfl (by rw [hargs, hr]) trivial fun v0 H0' h0 => by
    have := hR _ _ h0
    subst this
    simpa [merge, mergeGo] using hK v0 h0
theorem call_pure0 (h : ACalls P f args0 [] W0 R0) (hu : underL 0 args0 = true) (hargs : args ++ caps = args0) (hr : renL (sig [] H.length) args0 = args0)
    (hK : ∀ v0, R0 v0 [] → K (putI d s (v0.ren (sig [] H.length))) H) (hR : ∀ v H', R0 v H' → H' = []) : thenC0 P K d s H args (.func f caps) :=
  call_do0 h [] rfl hu rfl rfl (by rw [hargs, hr]) trivial fun v0 H0' h0 => by
    have := hR _ _ h0
    subst this
    simpa [merge, mergeGo] using hK v0 h0

theorem seen_ro {σ : Sig} {n : Nat} {cs : List AV} {p : Nat × Nat} {row : ARow} (h1 : rowAt H p.1 = some row) (h2 : p.2 + cs.length ≤ row.cells.length) (h3 : renL σ cs = (row.cells.drop p.2).take cs.length) (h4 : underL n cs = true) : seen H σ n (ro cs) p :=
  ⟨row, h1, h2, h3, h4, fun h => by cases h⟩
theorem seen_ro_whole {σ : Sig} {n : Nat} {cs : List AV} {r : Nat} {row : ARow} (h1 : rowAt H r = some row) (h3 : renL σ cs = row.cells) (h4 : underL n cs = true) : seen H σ n (ro cs) (r, 0) := by
  have := renL_length σ cs
  refine seen_ro h1 (by rw [← h3]; omega) ?_ h4
  rw [h3, List.drop_zero, ← this, h3, List.take_length]
theorem seen_rw {σ : Sig} {n : Nat} {cs : List AV} {r : Nat} {row : ARow} (h1 : rowAt H r = some row) (ho : row.own = true) (hsl : row.slack = false) (h3 : renL σ cs = row.cells) (h4 : underL n cs = true) : seen H σ n (rw_ cs) (r, 0) := by
  have := renL_length σ cs
  refine ⟨row, h1, by rw [← h3]; simp; omega, ?_, h4, fun _ => ⟨ho, rfl, by rw [← h3]; simp; omega, hsl.symm⟩⟩
  simp only [List.drop_zero]
  rw [h3, ← this, h3, List.take_length]
theorem seen_sl {σ : Sig} {n : Nat} {cs : List AV} {r : Nat} {row : ARow} (h1 : rowAt H r = some row) (ho : row.own = true) (hsl : row.slack = true) (h3 : renL σ cs = row.cells) (h4 : underL n cs = true) : seen H σ n (sl cs) (r, 0) := by
  have := renL_length σ cs
  refine ⟨row, h1, by rw [← h3]; simp; omega, ?_, h4, fun _ => ⟨ho, rfl, by rw [← h3]; simp; omega, hsl.symm⟩⟩
  simp only [List.drop_zero]
  rw [h3, ← this, h3, List.take_length]
end

/-! ### The merge, written out -/
section
variable {σ : Sig} {H H0' os : AHeap} {ps : List (Nat × Nat)} {p : Nat × Nat} {i : Nat} {cs : List AV}
theorem m_ro : mergeGo σ H0' (ro cs :: os) (p :: ps) i H = mergeGo σ H0' os ps (i + 1) H := rfl
theorem m_rw : mergeGo σ H0' (rw_ cs :: os) (p :: ps) i H = mergeGo σ H0' os ps (i + 1) (H.set p.1 (renRow σ (rowAt H0' i))) := rfl
theorem m_sl : mergeGo σ H0' (sl cs :: os) (p :: ps) i H = mergeGo σ H0' os ps (i + 1) (H.set p.1 (renRow σ (rowAt H0' i))) := rfl
theorem m_nil : mergeGo σ H0' [] ps i H = H := by cases ps <;> rfl
theorem m_merge {H H0 H0' : AHeap} {τ : List (Nat × Nat)} : merge H τ H0 H0' = mergeGo (sig τ H.length) H0' H0 τ 0 H ++ (H0'.drop H0.length).map (renRow (sig τ H.length)) := rfl
theorem m_renRw : renRow σ (rw_ cs) = rw_ (renL σ cs) := rfl
theorem m_renSl : renRow σ (sl cs) = sl (renL σ cs) := rfl
theorem m_renSomeRw {b : Bool} : renRow σ (some ⟨true, b, cs⟩) = some ⟨true, b, renL σ cs⟩ := rfl
theorem m_renNone : renRow σ none = none := rfl
theorem n_int {k n} : AV.ren σ (.int k n) = .int k n := rfl
theorem n_bool {b} : AV.ren σ (.bool b) = .bool b := rfl
theorem n_str {b} : AV.ren σ (.str b) = .str b := rfl
theorem n_nil : AV.ren σ .nilslice = .nilslice := rfl
theorem n_tuple {l} : AV.ren σ (.tuple l) = .tuple (renL σ l) := rfl
theorem n_agg {l} : AV.ren σ (.agg l) = .agg (renL σ l) := rfl
theorem n_slice {r off n c r' d} (h : σ r = some (r', d)) : AV.ren σ (.slice r off n c) = .slice r' (d + off) n c := by simp [AV.ren, h]
theorem n_sliceU {r off n c r' d} (h : σ r = some (r', d)) : AV.ren σ (.sliceU r off n c) = .sliceU r' (d + off) n c := by simp [AV.ren, h]
theorem n_ptr {r off r' d} (h : σ r = some (r', d)) : AV.ren σ (.ptr r off) = .ptr r' (d + off) := by simp [AV.ren, h]
theorem n_lnil : renL σ [] = [] := rfl
theorem n_lcons {v l} : renL σ (v :: l) = AV.ren σ v :: renL σ l := rfl
end
theorem sig_lt {τ : List (Nat × Nat)} {m i : Nat} {p : Nat × Nat} (h : τ[i]? = some p) : sig τ m i = some p := by
  unfold sig; rw [if_pos (List.getElem?_eq_some_iff.1 h).1, h]
theorem sig_ge {τ : List (Nat × Nat)} {m i : Nat} (h : τ.length ≤ i) : sig τ m i = some (m + (i - τ.length), 0) := by
  unfold sig; rw [if_neg (by omega)]

/-! ### Rows let go -/
/-- The rows of 'keep' alone, in that order. -/
def gcSig (keep : List Nat) : Sig := fun i => (keep.idxOf? i).map fun j => (j, 0)
def gcH (keep : List Nat) (H : AHeap) : AHeap := keep.map fun r => match rowAt H r with
  | some row => some { row with cells := renL (gcSig keep) row.cells }
  | none => none
def gcS (keep : List Nat) (s : St) : St := fun t => (s t).ren (gcSig keep)

def gcOK (n0 : Nat) (keep : List Nat) (H : AHeap) : Bool :=
  keep.take n0 == List.range n0 && keep.all (fun r => r < H.length) && decide (keep.Nodup)

theorem Weak.gc {n0 : Nat} {s : St} {H : AHeap} (keep : List Nat) (hok : gcOK n0 keep H = true) (hcell : (gcH keep H).all (fun o => o.all fun row => row.cells.all AV.cell) = true) : Weak n0 s H (gcS keep s) (gcH keep H) := by
  intro w0 ex N R0 ρ a w hR rel
  simp only [gcOK, Bool.and_eq_true, beq_iff_eq, decide_eq_true_eq] at hok
  obtain ⟨⟨h1, h2⟩, h3⟩ := hok
  let ρ' : RMap := fun j => (keep[j]?).bind ρ
  have hσ : ∀ i r d y, gcSig keep i = some (r, d) → ρ i = some y → ∃ x, ρ' r = some x ∧ y = x.from d := fun i r d y hi hy => by
    simp only [gcSig, Option.map_eq_some_iff, Prod.mk.injEq] at hi
    obtain ⟨j, hj, rfl, rfl⟩ := hi
    have hk : keep[j]? = some i := by
      obtain ⟨hlt, he, _⟩ := List.idxOf?_eq_some_iff.1 hj
      rw [List.getElem?_eq_getElem hlt, he]
    exact ⟨y, by simp [ρ', hk, hy], (Loc.from_zero y).symm⟩
  have hat : ∀ j row, rowAt (gcH keep H) j = some row → ∃ r row0, keep[j]? = some r ∧ rowAt H r = some row0 ∧ row = { row0 with cells := renL (gcSig keep) row0.cells } := fun j row hj => by
    rw [rowAt_some] at hj
    simp only [gcH, List.getElem?_map, Option.map_eq_some_iff] at hj
    obtain ⟨r, hr, hm⟩ := hj
    split at hm
    · rename_i row0 hrow0
      simp only [Option.some.injEq] at hm
      exact ⟨r, row0, hr, hrow0, hm.symm⟩
    · cases hm
  have hloc : ∀ {j r x}, keep[j]? = some r → ρ' j = some x → ρ r = some x := fun {j r x} hj hx => by simpa [ρ', hj] using hx
  have hs := rel.inv.sim
  refine ⟨ρ', ⟨⟨fun r hr => ?_, fun j row hj => ?_, fun j row x hj hx k c hk => ?_, fun j row x hj ho hx => ?_, fun i j a b x y hi hj ho hij hne hx hy nx ny => ?_, fun j row x hj hx hne => ?_⟩, rel.inv.frm⟩, fun t => VRel.forth hσ (rel.tmps t), rel.size, rel.defers, fun r x hx => ?_⟩
  · simp only [gcH, List.length_map] at hr
    simp [ρ', List.getElem?_eq_none hr]
  · obtain ⟨r, row0, k1, k2, rfl⟩ := hat j row hj
    obtain ⟨x, hx⟩ := hs.has r row0 k2
    exact ⟨x, by simp [ρ', k1, hx]⟩
  · have hj' := hj
    obtain ⟨r, row0, k1, k2, rfl⟩ := hat j row hj
    have hall : c.cell = true := by
      rw [rowAt_some] at hj'
      have := (List.all_eq_true.1 hcell) _ (List.mem_of_getElem? hj')
      simp only [Option.all_some] at this
      exact (List.all_eq_true.1 this) c (List.mem_of_getElem? hk)
    simp only at hk
    rw [renL_get] at hk
    simp only [Option.map_eq_some_iff] at hk
    obtain ⟨c0, hc0, rfl⟩ := hk
    obtain ⟨_, v, k3, k4⟩ := hs.cells r row0 x k2 (hloc k1 hx) k c0 hc0
    exact ⟨hall, v, k3, VRel.forth hσ k4⟩
  · obtain ⟨r, row0, k1, k2, rfl⟩ := hat j row hj
    have := hs.own r row0 x k2 ho (hloc k1 hx)
    simpa only [renL_length] using this
  · obtain ⟨r, row0, k1, k2, rfl⟩ := hat i a hi
    obtain ⟨r', row0', k1', k2', rfl⟩ := hat j b hj
    refine hs.dist r r' row0 row0' x y k2 k2' ho (fun e => hij ?_) (hne.imp id fun h => renL_ne_nil.1 h) (hloc k1 hx) (hloc k1' hy) nx ny
    subst e
    obtain ⟨l1, e1⟩ := List.getElem?_eq_some_iff.1 k1
    exact (List.getElem?_inj l1 h3).1 (k1.trans k1'.symm)
  · obtain ⟨r, row0, k1, k2, rfl⟩ := hat j row hj
    exact hs.room r row0 x k2 (hloc k1 hx) (renL_ne_nil.1 hne)
  · have hr : r < n0 := by
      rcases Nat.lt_or_ge r n0 with h | h
      · exact h
      · rw [hR r h] at hx; cases hx
    have hk : keep[r]? = some r := by
      have := congrArg (fun l : List Nat => l[r]?) h1
      simp only [List.getElem?_take_of_lt hr, List.getElem?_range hr] at this
      exact this
    show (keep[r]?).bind ρ = some x
    rw [hk]
    exact rel.base _ _ hx

theorem ret_gc {n0 : Nat} {rs : List IRes} {R : AV → AHeap → Prop} {s : St} {H : AHeap} (keep : List Nat) (hok : gcOK n0 keep H = true) (hcell : (gcH keep H).all (fun o => o.all fun row => row.cells.all AV.cell) = true) (hl : n0 ≤ keep.length)
    (ht : thenR R (gcH keep H) (ares (gcS keep s) (gcH keep H) rs)) : retPost n0 rs R .ret s H := ⟨_, _, Weak.gc keep hok hcell, by simpa [gcH] using hl, ht⟩
theorem loop_gc {n0 : Nat} {I : Nat → St → AHeap → Prop} {n m : Nat} {s : St} {H : AHeap} (keep : List Nat) (hok : gcOK n0 keep H = true) (hcell : (gcH keep H).all (fun o => o.all fun row => row.cells.all AV.cell) = true) (h : m < n) (hi : I m (gcS keep s) (gcH keep H)) : loopPost n0 I n s H :=
  ⟨_, _, Weak.gc keep hok hcell, m, h, hi⟩
end Go.Vh
