/- From a contract to a row: arguments that are slices, of bools among them. -/
import Derived.Test.YthbhljolpnbdlaaVX
set_option linter.unusedSimpArgs false
set_option linter.unusedVariables false
namespace Go.Vh
open Go Go.ChangeShapes Go.WideShapes Go.RowKit Go.ChangeAt Go.Deep

/-- Rows that are only read, with where they lie. -/
structure CRow where
  cs : List AV
  x : Loc

def CRow.at (r : CRow) (w : World) : Prop := r.x.n ≠ 0 ∧ ∀ i c, r.cs[i]? = some c → c.cell = true ∧ ∃ v, w.cell? ⟨r.x.b, r.x.d + i, none⟩ = some v ∧ ∀ ρ, VRel ρ c v

section
variable {P : Program} {H : Type} {enc : TypeId × Value → H} {W : World}

end
end Go.Vh


/- Rows of numbers by index; lists of bools; answers that are appended to; flat rows read by a callee. -/
namespace Go.Vh
open Go

/-- n numbers. -/
def nt (n : Nat) (q : Nat → Int) : List AV := (List.range n).map fun i => AV.int .i64 (q i)
section
variable {P : Program} {f : FuncId} {W0 : List Nat} {K : St → AHeap → Prop} {d : Option Nat} {s : St} {H : AHeap} {args caps rest : List AV} {κ κ' : SK} {n n' : Nat} {a b da db : Nat} {ra rb : ARow} {cs cs' : List AV}

/-- Two slices are read. -/
theorem call_cc {R0 : AV → AHeap → Prop} (h : ACalls P f (mkS κ 0 0 n :: mkS κ' 1 0 n' :: rest) [ro cs, ro cs'] W0 R0) (hf : cs.all AV.flat = true) (hf' : cs'.all AV.flat = true) (hrest : underL 0 rest = true)
    (ha : Vh.rowAt H a = some ra) (hb : Vh.rowAt H b = some rb) (la : da + cs.length ≤ ra.cells.length) (lb : db + cs'.length ≤ rb.cells.length) (ca : (ra.cells.drop da).take cs.length = cs) (cb : (rb.cells.drop db).take cs'.length = cs')
    (hargs : args ++ caps = mkS κ a da n :: mkS κ' b db n' :: rest)
    (hK : ∀ v0 H0', R0 v0 H0' → K (putI d s (v0.ren (sig [(a, da), (b, db)] H.length))) (H ++ (H0'.drop 2).map (renRow (sig [(a, da), (b, db)] H.length)))) : thenC P K d s H args (.func f caps) := by
  have h0 : sig [(a, da), (b, db)] H.length 0 = some (a, da) := rfl
  have h1 : sig [(a, da), (b, db)] H.length 1 = some (b, db) := rfl
  refine call_do h [(a, da), (b, db)] rfl ?_ rfl ?_ ⟨seen_ro ha la (by rw [flatL_ren hf]; exact ca.symm) (flatL_under hf), seen_ro hb lb (by rw [flatL_ren hf']; exact cb.symm) (flatL_under hf'), trivial⟩ fun v0 H0' h0' => ?_
  · have hr : underL 2 rest = true := underL_mono (by omega) hrest
    simp [underL, mkS_under, hr]
  · rw [hargs, n_lcons, n_lcons, n_mkS h0, n_mkS h1, renL_under0 hrest]; rfl
  · have := hK v0 H0' h0'
    rw [m_merge, m_ro, m_ro, m_nil]
    exact this

/-- One slice is read. -/
theorem call_c1 {R0 : AV → AHeap → Prop} (h : ACalls P f (mkS κ 0 0 n :: rest) [ro cs] W0 R0) (hf : cs.all AV.flat = true) (hrest : underL 0 rest = true)
    (ha : Vh.rowAt H a = some ra) (la : da + cs.length ≤ ra.cells.length) (ca : (ra.cells.drop da).take cs.length = cs)
    (hargs : args ++ caps = mkS κ a da n :: rest)
    (hK : ∀ v0 H0', R0 v0 H0' → K (putI d s (v0.ren (sig [(a, da)] H.length))) (H ++ (H0'.drop 1).map (renRow (sig [(a, da)] H.length)))) : thenC P K d s H args (.func f caps) := by
  have h0 : sig [(a, da)] H.length 0 = some (a, da) := rfl
  refine call_do h [(a, da)] rfl ?_ rfl ?_ ⟨seen_ro ha la (by rw [flatL_ren hf]; exact ca.symm) (flatL_under hf), trivial⟩ fun v0 H0' h0' => ?_
  · have hr : underL 1 rest = true := underL_mono (by omega) hrest
    simp [underL, mkS_under, hr]
  · rw [hargs, n_lcons, n_mkS h0, renL_under0 hrest]; rfl
  · have := hK v0 H0' h0'
    rw [m_merge, m_ro, m_nil]
    exact this

end
end Go.Vh


/- Rows of bytes; what is appended within the room; loops over strings. -/
namespace Go.Vh
open Go
variable {s : St} {H : AHeap}

def nums (n : Nat) (q : Nat → Nat) : List Int := (List.range n).map fun i => ((q i : Nat) : Int)
end Go.Vh


/- Numbers that are appended; rows of a heap by what is known of them; calls whose answers are new; all orders of a region. -/
namespace Go.Vh
open Go
theorem guardP_mono {A A' B B' : Prop} {c : Bool} {v : AV} (h1 : A → A') (h2 : B → B') (h : guardP A B c v) : guardP A' B' c v := by
  unfold guardP at h ⊢
  split at h
  · split at h
    · rename_i hb; simp only [hb, if_true]; exact h1 h
    · rename_i hb; simp only [hb, if_false]; exact h2 h
  · exact h2 h
  · exact h.elim
theorem iopD_mono {P : Program} {H0 : AHeap} {m : Nat} {d : Option Nat} {o : IOp} {K K' : St → AHeap → Prop} (hK : ∀ s H, K s H → K' s H) {s : St} {H : AHeap} (h : iopD P H0 m d o K s H) : iopD P H0 m d o K' s H := by
  cases o with
  | pure p => simp only [iopD] at h ⊢; revert h; cases ipure p s <;> simp only [thenP] <;> first | exact fun h => h.elim | exact hK _ _
  | eff e =>
    simp only [iopD] at h ⊢
    split
    · simp only at h; revert h; cases ieff e s H0 <;> simp only [thenL] <;> first | exact fun h => h.elim | exact hK _ _
    · rename_i hm
      have h' : thenE K d s (ieff e s H) := by
        revert h; split
        · exact absurd rfl hm
        · exact id
      revert h'; cases ieff e s H <;> simp only [thenE] <;> first | exact fun h => h.elim | exact hK _ _
  | call f args =>
    simp only [iopD] at h ⊢
    split
    · simp only at h
      revert h; cases evo s f <;> simp only [thenC0] <;> first | exact fun h => h.elim | exact fun h => h.mono fun _ _ => hK _ _
    · rename_i hm
      have h' : thenC P K d s H (args.map (evo s)) (evo s f) := by
        revert h; split
        · exact absurd rfl hm
        · exact id
      revert h'; cases evo s f <;> simp only [thenC] <;> first | exact fun h => h.elim | exact fun ⟨W, h⟩ => ⟨W, h.mono fun _ _ => hK _ _⟩
theorem istepD_mono {P : Program} {H0 : AHeap} {x : DStep} {K K' : St → AHeap → Prop} (hK : ∀ s H, K s H → K' s H) {s : St} {H : AHeap} (h : istepD P H0 x K s H) : istepD P H0 x K' s H := by
  unfold istepD at h ⊢
  split
  · rename_i e; rw [e] at h; exact iopD_mono hK h
  · rename_i t w e; rw [e] at h; exact guardP_mono (iopD_mono hK) (hK _ _) h
/-- Behind a region: what all its orders bring about. -/
theorem tops_gen {P : Program} {H0 : AHeap} {K : St → AHeap → Prop} (G : St → AHeap → Prop) : ∀ {t : DTree} {s : St} {H : AHeap}, iopsT P H0 t G s H → (∀ s H, G s H → K s H) → iopsT P H0 t K s H := by
  intro t
  induction t with
  | done => intro s H h hK; exact hK _ _ h
  | none => intro s H _ _; exact True.intro
  | soft x t ih => intro s H h hK; exact istepD_mono (fun s H h => ih h hK) h
  | alt x t r ih ih2 =>
    intro s H h hK
    cases r with
    | none => exact istepD_mono (fun s H h => ih h hK) h
    | done => exact ⟨istepD_mono (fun s H h => ih h hK) h.1, ih2 h.2 hK⟩
    | soft _ _ => exact ⟨istepD_mono (fun s H h => ih h hK) h.1, ih2 h.2 hK⟩
    | alt _ _ _ => exact ⟨istepD_mono (fun s H h => ih h hK) h.1, ih2 h.2 hK⟩
section
variable {s : St} {H : AHeap}
end

/-- numbers that were appended one by one, on top of a heap -/
def grownI (base : AHeap) (l : List Int) (v : AV) (H : AHeap) : Prop := (l.length = 0 ∧ v = .nilslice ∧ H = base) ∨ (0 < l.length ∧ v = .sliceU base.length 0 l.length 1 ∧ H = base ++ [sl (ints .i64 l)])
theorem ints_snoc {l : List Int} {x : Int} : ints .i64 l ++ [.int .i64 x] = ints .i64 (l ++ [x]) := by simp [ints]
section
variable {s : St} {H H0 : AHeap}
theorem row_app {R : AHeap} {j : Nat} : Vh.rowAt (H0 ++ R) (H0.length + j) = Vh.rowAt R j := by simp [Vh.rowAt, List.getElem?_append_right]
theorem x_b0 : ieff (.buildSlice 0 [] []) s H = some (.slice H.length 0 0 0, H ++ [rw_ []]) := by simp [ieff, afill, anew, rw_]
end
section
variable {P : Program} {f : FuncId} {W0 : List Nat} {K : St → AHeap → Prop} {d : Option Nat} {s : St} {H : AHeap} {args caps args0 : List AV}
/-- A call that reaches nothing, and whose answer is new. -/
theorem call_fr {R0 : AV → AHeap → Prop} (h : ACalls P f args0 [] W0 R0) (hf : args0.all AV.flat = true) (hargs : args ++ caps = args0)
    (hK : ∀ v new, R0 v new → K (putI d s (v.ren (sig [] H.length))) (H ++ new.map (renRow (sig [] H.length)))) : thenC P K d s H args (.func f caps) := by
  refine call_do h [] rfl (flatL_under hf) rfl (by rw [hargs, flatL_ren hf]) trivial fun v0 H0' h0 => ?_
  have := hK v0 H0' h0
  rw [m_merge, m_nil]
  exact this
end

theorem row_lt {H : AHeap} {r : Nat} {row : ARow} (h : Vh.rowAt H r = some row) : r < H.length := by
  rw [rowAt_some] at h
  exact (List.getElem?_eq_some_iff.1 h).1
theorem row_set0 {H : AHeap} {r : Nat} {x : Option ARow} (h : r < H.length) : Vh.rowAt (H.set r x) r = x := by
  simp [Vh.rowAt, h]
theorem row_other0 {H : AHeap} {r i : Nat} {x : Option ARow} (hn : r ≠ i) : Vh.rowAt (H.set r x) i = Vh.rowAt H i := by
  simp [Vh.rowAt, List.getElem?_set_ne hn]
theorem row_new {H : AHeap} {x y : Option ARow} {r : Nat} : Vh.rowAt (H.set r y ++ [x]) H.length = x := by
  simp [Vh.rowAt]
end Go.Vh


/- From a contract to a row: a field that is a slice of integers. -/
namespace Go.Vh
open Go Go.ChangeShapes Go.WideShapes Go.RowKit Go.ChangeAt Go.Deep

section
variable {P : Program} {H : Type} {enc : TypeId × Value → H} {W : World}
theorem field_ints {t e : TypeId} {k : IntKind} {v : Value} {fuel : Nat} {x : DataW H × List MemPlace} (ht : P.underlying t = some (.slice e)) (he : P.underlying e = some (.int k)) (hc : P.cellsOf e = 1)
    (hf : DataW.trod enc P W 0 (fun _ => true) true fuel t [v] = some x) :
    ∃ (κ : SK) (r : IRow), r.k = k ∧ r.at W ∧ okS κ r.l.length ∧ r.l.length ≤ maxLen ∧ (∀ n ∈ r.l, (Lit.int k n).wf = true) ∧ ∀ (ρ : RMap) (i : Nat), ρ i = some r.x → VRel ρ (mkS κ i 0 r.l.length) v := by
  rcases open_ints ht he hc hf with ⟨hcs, _⟩ | ⟨a, len0, cap0, zs, hcs, _, hle, hmax, hz, _, hcell, hw⟩
  · simp only [List.cons.injEq, and_true] at hcs
    subst hcs
    exact ⟨.nil, ⟨k, [], ⟨0, 0, 1⟩⟩, rfl, ⟨by simp, fun i hi => by simp at hi⟩, rfl, by simp, fun n hn => by simp at hn, fun ρ i _ => .nilslice⟩
  · simp only [List.cons.injEq, and_true] at hcs
    subst hcs
    simp only [if_true] at hz
    refine ⟨.cap cap0, ⟨k, zs.take len0, ⟨a.block, a.off, 1⟩⟩, rfl, ⟨by simp, fun i hi => ?_⟩, ?_, ?_, fun n hn => hw n (List.mem_of_mem_take hn), fun ρ i hx => ?_⟩
    · simp only [List.length_take] at hi
      have h0 := hcell i (by omega)
      have hsp := hcell 0 (by omega)
      obtain ⟨b, off, spot⟩ := a
      have hspot : spot = none := by simpa [Addr.add] using World.cell?_spot hsp
      subst hspot
      rw [add_plain] at h0
      simp only
      rw [h0]
      simp [List.getD_eq_getElem?_getD, List.getElem?_take, show i < len0 by omega]
    · simp only [okS, List.length_take]; omega
    · simp only [List.length_take]; omega
    · have hl : (zs.take len0).length = len0 := by rw [List.length_take]; omega
      simp only [hl, mkS]
      rcases Nat.eq_zero_or_pos cap0 with h0 | h0
      · have : len0 = 0 := by omega
        subst this; subst h0
        exact .slice0 _ _ _
      · have hsp := hcell 0 (by omega)
        obtain ⟨b, off, spot⟩ := a
        have hspot : spot = none := by simpa [Addr.add] using World.cell?_spot hsp
        subst hspot
        have := VRel.slice (ρ := ρ) i 0 len0 cap0 _ hx hle
        simpa using this
end
end Go.Vh

