/- Numbers that are appended; rows of a heap by what is known of them; calls whose answers are new; all orders of a region. -/
import Derived.Test.YtleicopofpompaaDoorVh34
import Derived.Test.YtleicopofpompaaDoorVY
set_option linter.unusedSimpArgs false
set_option linter.unusedVariables false
namespace Go.Vh
open Go
theorem guardP_mono {A A' B B' : Prop} {c : Bool} {v : AV} (h1 : A → A') (h2 : B → B') (h : guardP A B c v) : guardP A' B' c v := by
  unfold guardP at h ⊢
  split at h
  · split at h
    · rename_i hb; simp only [hb, if_true]; exact h1 h
    · rename_i hb; simp only [hb, if_false]; exact h2 h
  · exact h2 h
  · exact h.elim
theorem iopD_mono {P : Program} {H0 : AHeap} {m : Nat} {d : Option Nat} {o : IOp} {K K' : St → AHeap → Prop} (hK : ∀ s H, K s H → K' s H) {s : St} {H : AHeap} (h : iopD P H0 m d o K s H) : iopD P H0 m d o K' s H := by
  cases o with
  | pure p => simp only [iopD] at h ⊢; revert h; cases ipure p s <;> simp only [thenP] <;> first | exact fun h => h.elim | exact hK _ _
  | eff e =>
    simp only [iopD] at h ⊢
    split
    · simp only at h; revert h; cases ieff e s H0 <;> simp only [thenL] <;> first | exact fun h => h.elim | exact hK _ _
    · rename_i hm
      have h' : thenE K d s (ieff e s H) := by
        revert h; split
        · exact absurd rfl hm
        · exact id
      revert h'; cases ieff e s H <;> simp only [thenE] <;> first | exact fun h => h.elim | exact hK _ _
  | call f args =>
    simp only [iopD] at h ⊢
    split
    · simp only at h
      revert h; cases evo s f <;> simp only [thenC0] <;> first | exact fun h => h.elim | exact fun h => h.mono fun _ _ => hK _ _
    · rename_i hm
      have h' : thenC P K d s H (args.map (evo s)) (evo s f) := by
        revert h; split
        · exact absurd rfl hm
        · exact id
      revert h'; cases evo s f <;> simp only [thenC] <;> first | exact fun h => h.elim | exact fun ⟨W, h⟩ => ⟨W, h.mono fun _ _ => hK _ _⟩
theorem istepD_mono {P : Program} {H0 : AHeap} {x : DStep} {K K' : St → AHeap → Prop} (hK : ∀ s H, K s H → K' s H) {s : St} {H : AHeap} (h : istepD P H0 x K s H) : istepD P H0 x K' s H := by
  unfold istepD at h ⊢
  split
  · rename_i e; rw [e] at h; exact iopD_mono hK h
  · rename_i t w e; rw [e] at h; exact guardP_mono (iopD_mono hK) (hK _ _) h
/-- Behind a region: what all its orders bring about. -/
theorem tops_gen {P : Program} {H0 : AHeap} {K : St → AHeap → Prop} (G : St → AHeap → Prop) : ∀ {t : DTree} {s : St} {H : AHeap}, iopsT P H0 t G s H → (∀ s H, G s H → K s H) → iopsT P H0 t K s H := by
  intro t
  induction t with
  | done => intro s H h hK; exact hK _ _ h
  | none => intro s H _ _; exact True.intro
  | soft x t ih => intro s H h hK; exact istepD_mono (fun s H h => ih h hK) h
  | alt x t r ih ih2 =>
    intro s H h hK
    cases r with
    | none => exact istepD_mono (fun s H h => ih h hK) h
    | done => exact ⟨istepD_mono (fun s H h => ih h hK) h.1, ih2 h.2 hK⟩
    | soft _ _ => exact ⟨istepD_mono (fun s H h => ih h hK) h.1, ih2 h.2 hK⟩
    | alt _ _ _ => exact ⟨istepD_mono (fun s H h => ih h hK) h.1, ih2 h.2 hK⟩
section
variable {s : St} {H : AHeap}
/-- A store of one cell of an own row of integers, behind which its block may go on. -/
theorem x_storeS {x v : Opd} {r off : Nat} {k : IntKind} {b : Int} {l : List Int} {sk : Bool} (hx : evo s x = .ptr r off) (hv : evo s v = .int k b) (hr : Vh.rowAt H r = some ⟨true, sk, ints k l⟩) (ho : off < l.length) :
    ieff (.store 1 x v) s H = some (.any, H.set r (some ⟨true, sk, ints k (l.set off b)⟩)) := by
  have e : splice (ints k l) off [AV.int k b] = ints k (l.set off b) := by
    have : [AV.int k b] = ints k [b] := rfl
    rw [this, ints_splice]
    congr 1
    apply List.ext_getElem?
    intro i
    simp only [List.length_cons, List.length_nil, Nat.zero_add, List.append_assoc, List.getElem?_append, List.length_take, List.getElem?_take, List.getElem?_drop, List.getElem?_set]
    rcases Nat.lt_trichotomy i off with h | h | h
    · simp [show i < min off l.length by omega, h, show off ≠ i by omega]
    · subst h; simp [show ¬ i < min i l.length by omega, show i - min i l.length = 0 by omega, ho]
    · simp [show ¬ i < min off l.length by omega, show ¬ (i - min off l.length < 1) by omega, show off ≠ i by omega]
      congr 1; omega
  simp only [ieff, hx, hv]
  rw [aparts_cell c_int]
  simp only [List.length_cons, List.length_nil, Nat.zero_add, if_true, aput, hr, Option.bind_some]
  rw [if_pos ⟨trivial, by simp only [List.length_cons, List.length_nil, ints_length]; omega, rfl⟩, e]
  rfl
end

/-- numbers that were appended one by one, on top of a heap -/
def grownI (base : AHeap) (l : List Int) (v : AV) (H : AHeap) : Prop := (l.length = 0 ∧ v = .nilslice ∧ H = base) ∨ (0 < l.length ∧ v = .sliceU base.length 0 l.length 1 ∧ H = base ++ [sl (ints .i64 l)])
theorem ints_snoc {l : List Int} {x : Int} : ints .i64 l ++ [.int .i64 x] = ints .i64 (l ++ [x]) := by simp [ints]
section
variable {s : St} {H H0 : AHeap}
theorem row_app {R : AHeap} {j : Nat} : Vh.rowAt (H0 ++ R) (H0.length + j) = Vh.rowAt R j := by simp [Vh.rowAt, List.getElem?_append_right]
theorem row_app0 {R : AHeap} : Vh.rowAt (H0 ++ R) H0.length = Vh.rowAt R 0 := row_app (j := 0)
theorem set_app {R : AHeap} {j : Nat} {x : Option ARow} : (H0 ++ R).set (H0.length + j) x = H0 ++ R.set j x := by simp [List.set_append_right]
theorem x_b0 : ieff (.buildSlice 0 [] []) s H = some (.slice H.length 0 0 0, H ++ [rw_ []]) := by simp [ieff, afill, anew, rw_]
end
section
variable {P : Program} {f : FuncId} {W0 : List Nat} {K : St → AHeap → Prop} {d : Option Nat} {s : St} {H : AHeap} {args caps args0 : List AV}
/-- A call that reaches nothing, and whose answer is new. -/
theorem call_fr {R0 : AV → AHeap → Prop} (h : ACalls P f args0 [] W0 R0) (hf : args0.all AV.flat = true) (hargs : args ++ caps = args0)
    (hK : ∀ v new, R0 v new → K (putI d s (v.ren (sig [] H.length))) (H ++ new.map (renRow (sig [] H.length)))) : thenC P K d s H args (.func f caps) := by
  refine call_do h [] rfl (flatL_under hf) rfl (by rw [hargs, flatL_ren hf]) trivial fun v0 H0' h0 => ?_
  have := hK v0 H0' h0
  rw [m_merge, m_nil]
  exact this
end

theorem k_idx3 {κ : SK} {N n r off : Nat} {k : IntKind} {x : Int} (hk : okS κ N) (h : n ≤ N) (h0 : 0 ≤ x) (h1 : x < n) : aindexAddr 3 (mkS κ r off n) (.int k x) = some (.ptr r (off + x.toNat * 3)) := by
  cases κ with
  | nil => simp only [okS] at hk; omega
  | cap c => simp [mkS, aindexAddr, h0, h1]
  | u => simp [mkS, aindexAddr, h0, h1]
theorem row_lt {H : AHeap} {r : Nat} {row : ARow} (h : Vh.rowAt H r = some row) : r < H.length := by
  rw [rowAt_some] at h
  exact (List.getElem?_eq_some_iff.1 h).1
theorem row_set {H R : AHeap} {r : Nat} {x : Option ARow} (h : r < H.length) : Vh.rowAt (H.set r x ++ R) r = x := by
  simp [Vh.rowAt, List.getElem?_append_left, h]
theorem row_other {H R : AHeap} {r i : Nat} {x : Option ARow} (h : i < H.length) (hn : r ≠ i) : Vh.rowAt (H.set r x ++ R) i = Vh.rowAt H i := by
  simp only [Vh.rowAt]
  rw [List.getElem?_append_left (by rw [List.length_set]; exact h), List.getElem?_set_ne hn]
theorem row_set0 {H : AHeap} {r : Nat} {x : Option ARow} (h : r < H.length) : Vh.rowAt (H.set r x) r = x := by
  simp [Vh.rowAt, h]
theorem row_other0 {H : AHeap} {r i : Nat} {x : Option ARow} (hn : r ≠ i) : Vh.rowAt (H.set r x) i = Vh.rowAt H i := by
  simp [Vh.rowAt, List.getElem?_set_ne hn]
theorem row_new {H : AHeap} {x y : Option ARow} {r : Nat} : Vh.rowAt (H.set r y ++ [x]) H.length = x := by
  simp [Vh.rowAt]
/-- A slice of nothing: nil, or not. -/
theorem ACallsG.split0 {P : Program} {γ : Nat → AV} {f : FuncId} {rest : List AV} {H : AHeap} {W : List Nat} {R : AV → AHeap → Prop} {r o : Nat} (h1 : ACallsG P γ f (.nilslice :: rest) H W R)
    (h2 : ∀ a, ACallsG P γ f (.lit (.slice (some a) 0 0) :: rest) H W R) : ACallsG P γ f (.slice r o 0 0 :: rest) H W R := by
  refine ⟨h1.ent, fun ρ w vs hs hv hg => ?_⟩
  cases hv with
  | cons _ v _ vs hx ht =>
    rcases hx.slice_inv with ⟨x, hx, _, rfl⟩ | ⟨_, _, a, rfl⟩
    · exact (h2 _).calls ρ w _ hs (.cons _ _ _ _ (.lit _) ht) hg
    · cases a with
      | none => exact h1.calls ρ w _ hs (.cons _ _ _ _ .nilslice ht) hg
      | some a => exact (h2 a).calls ρ w _ hs (.cons _ _ _ _ (.lit _) ht) hg

end Go.Vh
