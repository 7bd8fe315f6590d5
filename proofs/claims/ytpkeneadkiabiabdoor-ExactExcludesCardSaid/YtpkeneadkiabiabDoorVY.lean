/- From a contract to a row: arguments that are slices, of bools among them. -/
import Derived.Test.YtpkeneadkiabiabDoorVX
import Derived.Deep.Grids
set_option linter.unusedSimpArgs false
set_option linter.unusedVariables false
namespace Go.Vh
open Go Go.ChangeShapes Go.WideShapes Go.RowKit Go.ChangeAt Go.Deep

/-- Rows that are only read, with where they lie. -/
structure CRow where
  cs : List AV
  x : Loc

def CRow.at (r : CRow) (w : World) : Prop := r.x.n ≠ 0 ∧ ∀ i c, r.cs[i]? = some c → c.cell = true ∧ ∃ v, w.cell? ⟨r.x.b, r.x.d + i, none⟩ = some v ∧ ∀ ρ, VRel ρ c v

section
variable {P : Program} {H : Type} {enc : TypeId × Value → H} {W : World}

end
end Go.Vh


/- Rows of numbers by index; lists of bools; answers that are appended to; flat rows read by a callee. -/
namespace Go.Vh
open Go

/-- n numbers. -/
def nt (n : Nat) (q : Nat → Int) : List AV := (List.range n).map fun i => AV.int .i64 (q i)
section
variable {P : Program} {f : FuncId} {W0 : List Nat} {K : St → AHeap → Prop} {d : Option Nat} {s : St} {H : AHeap} {args caps rest : List AV} {κ κ' : SK} {n n' : Nat} {a b da db : Nat} {ra rb : ARow} {cs cs' : List AV}

end
end Go.Vh


/- Rows of bytes; what is appended within the room; loops over strings. -/
namespace Go.Vh
open Go
variable {s : St} {H : AHeap}

def nums (n : Nat) (q : Nat → Nat) : List Int := (List.range n).map fun i => ((q i : Nat) : Int)
end Go.Vh


/- Numbers that are appended; rows of a heap by what is known of them; calls whose answers are new; all orders of a region. -/
namespace Go.Vh
open Go
theorem guardP_mono {A A' B B' : Prop} {c : Bool} {v : AV} (h1 : A → A') (h2 : B → B') (h : guardP A B c v) : guardP A' B' c v := by
  unfold guardP at h ⊢
  split at h
  · split at h
    · rename_i hb; simp only [hb, if_true]; exact h1 h
    · rename_i hb; simp only [hb, if_false]; exact h2 h
  · exact h2 h
  · exact h.elim
theorem iopD_mono {P : Program} {H0 : AHeap} {m : Nat} {d : Option Nat} {o : IOp} {K K' : St → AHeap → Prop} (hK : ∀ s H, K s H → K' s H) {s : St} {H : AHeap} (h : iopD P H0 m d o K s H) : iopD P H0 m d o K' s H := by
  cases o with
  | pure p => simp only [iopD] at h ⊢; revert h; cases ipure p s <;> simp only [thenP] <;> first | exact fun h => h.elim | exact hK _ _
  | eff e =>
    simp only [iopD] at h ⊢
    split
    · simp only at h; revert h; cases ieff e s H0 <;> simp only [thenL] <;> first | exact fun h => h.elim | exact hK _ _
    · rename_i hm
      have h' : thenE K d s (ieff e s H) := by
        revert h; split
        · exact absurd rfl hm
        · exact id
      revert h'; cases ieff e s H <;> simp only [thenE] <;> first | exact fun h => h.elim | exact hK _ _
  | call f args =>
    simp only [iopD] at h ⊢
    split
    · simp only at h
      revert h; cases evo s f <;> simp only [thenC0] <;> first | exact fun h => h.elim | exact fun h => h.mono fun _ _ => hK _ _
    · rename_i hm
      have h' : thenC P K d s H (args.map (evo s)) (evo s f) := by
        revert h; split
        · exact absurd rfl hm
        · exact id
      revert h'; cases evo s f <;> simp only [thenC] <;> first | exact fun h => h.elim | exact fun ⟨W, h⟩ => ⟨W, h.mono fun _ _ => hK _ _⟩
theorem istepD_mono {P : Program} {H0 : AHeap} {x : DStep} {K K' : St → AHeap → Prop} (hK : ∀ s H, K s H → K' s H) {s : St} {H : AHeap} (h : istepD P H0 x K s H) : istepD P H0 x K' s H := by
  unfold istepD at h ⊢
  split
  · rename_i e; rw [e] at h; exact iopD_mono hK h
  · rename_i t w e; rw [e] at h; exact guardP_mono (iopD_mono hK) (hK _ _) h
/-- Behind a region: what all its orders bring about. -/
theorem tops_gen {P : Program} {H0 : AHeap} {K : St → AHeap → Prop} (G : St → AHeap → Prop) : ∀ {t : DTree} {s : St} {H : AHeap}, iopsT P H0 t G s H → (∀ s H, G s H → K s H) → iopsT P H0 t K s H := by
  intro t
  induction t with
  | done => intro s H h hK; exact hK _ _ h
  | none => intro s H _ _; exact True.intro
  | soft x t ih => intro s H h hK; exact istepD_mono (fun s H h => ih h hK) h
  | alt x t r ih ih2 =>
    intro s H h hK
    cases r with
    | none => exact istepD_mono (fun s H h => ih h hK) h
    | done => exact ⟨istepD_mono (fun s H h => ih h hK) h.1, ih2 h.2 hK⟩
    | soft _ _ => exact ⟨istepD_mono (fun s H h => ih h hK) h.1, ih2 h.2 hK⟩
    | alt _ _ _ => exact ⟨istepD_mono (fun s H h => ih h hK) h.1, ih2 h.2 hK⟩
section
variable {s : St} {H : AHeap}
/-- A store of one cell of an own row of integers, behind which its block may go on. -/
theorem x_storeS {x v : Opd} {r off : Nat} {k : IntKind} {b : Int} {l : List Int} {sk : Bool} (hx : evo s x = .ptr r off) (hv : evo s v = .int k b) (hr : Vh.rowAt H r = some ⟨true, sk, ints k l⟩) (ho : off < l.length) :
    ieff (.store 1 x v) s H = some (.any, H.set r (some ⟨true, sk, ints k (l.set off b)⟩)) := by
  have e : splice (ints k l) off [AV.int k b] = ints k (l.set off b) := by
    have : [AV.int k b] = ints k [b] := rfl
    rw [this, ints_splice]
    congr 1
    apply List.ext_getElem?
    intro i
    simp only [List.length_cons, List.length_nil, Nat.zero_add, List.append_assoc, List.getElem?_append, List.length_take, List.getElem?_take, List.getElem?_drop, List.getElem?_set]
    rcases Nat.lt_trichotomy i off with h | h | h
    · simp [show i < min off l.length by omega, h, show off ≠ i by omega]
    · subst h; simp [show ¬ i < min i l.length by omega, show i - min i l.length = 0 by omega, ho]
    · simp [show ¬ i < min off l.length by omega, show ¬ (i - min off l.length < 1) by omega, show off ≠ i by omega]
      congr 1; omega
  simp only [ieff, hx, hv]
  rw [aparts_cell c_int]
  simp only [List.length_cons, List.length_nil, Nat.zero_add, if_true, aput, hr, Option.bind_some]
  rw [if_pos ⟨trivial, by simp only [List.length_cons, List.length_nil, ints_length]; omega, rfl⟩, e]
  rfl
end

section
variable {s : St} {H H0 : AHeap}
theorem row_app {R : AHeap} {j : Nat} : Vh.rowAt (H0 ++ R) (H0.length + j) = Vh.rowAt R j := by simp [Vh.rowAt, List.getElem?_append_right]
end
section
variable {P : Program} {f : FuncId} {W0 : List Nat} {K : St → AHeap → Prop} {d : Option Nat} {s : St} {H : AHeap} {args caps args0 : List AV}
end

theorem row_lt {H : AHeap} {r : Nat} {row : ARow} (h : Vh.rowAt H r = some row) : r < H.length := by
  rw [rowAt_some] at h
  exact (List.getElem?_eq_some_iff.1 h).1
theorem row_other0 {H : AHeap} {r i : Nat} {x : Option ARow} (hn : r ≠ i) : Vh.rowAt (H.set r x) i = Vh.rowAt H i := by
  simp [Vh.rowAt, List.getElem?_set_ne hn]
end Go.Vh

