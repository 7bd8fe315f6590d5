/- Equations: make, copy, stores. -/
import Derived.Test.YthbhljolpnbdlaaV7
set_option linter.unusedSimpArgs false
set_option linter.unusedVariables false
namespace Go.Vh
open Go
section
variable {s : St} {H : AHeap}

theorem x_make {x : Opd} {k : IntKind} {n : Int} {bytes : Nat} (h : evo s x = .int .i64 n) (h0 : 0 ≤ n) (h1 : bytes * n ≤ 281474976710656) (h2 : n ≤ 9223372036854775807) :
    ieff (.makeSlice (.int k 0) bytes x x) s H = some (.slice H.length 0 n.toNat n.toNat, H ++ [rw_ (ints k (List.replicate n.toNat 0))]) := by
  have hc : (List.replicate n.toNat (AV.int k 0)).all AV.cell = true := by simp [AV.cell]
  simp only [ieff, h]
  rw [if_pos ⟨h0, Int.le_refl _, h1, h2⟩, anew, if_pos hc, ints_replicate]
  rfl

/-- A store of one cell of an own row of integers. -/
theorem x_store {x v : Opd} {r off : Nat} {k : IntKind} {b : Int} {l : List Int} (hx : evo s x = .ptr r off) (hv : evo s v = .int k b) (hr : rowAt H r = some ⟨true, false, ints k l⟩) (ho : off < l.length) :
    ieff (.store 1 x v) s H = some (.any, H.set r (rw_ (ints k (l.set off b)))) := by
  have e : splice (ints k l) off [AV.int k b] = ints k (l.set off b) := by
    have : [AV.int k b] = ints k [b] := rfl
    rw [this, ints_splice]
    congr 1
    apply List.ext_getElem?
    intro i
    simp only [List.length_cons, List.length_nil, Nat.zero_add, List.append_assoc, List.getElem?_append, List.length_take, List.getElem?_take, List.getElem?_drop, List.getElem?_set]
    rcases Nat.lt_trichotomy i off with h | h | h
    · simp [show i < min off l.length by omega, h, show off ≠ i by omega]
    · subst h; simp [show ¬ i < min i l.length by omega, show i - min i l.length = 0 by omega, ho]
    · simp [show ¬ i < min off l.length by omega, show ¬ (i - min off l.length < 1) by omega, show off ≠ i by omega]
      congr 1; omega
  simp only [ieff, hx, hv]
  rw [aparts_cell c_int]
  simp only [List.length_cons, List.length_nil, Nat.zero_add, if_true, aput, hr, Option.bind_some]
  rw [if_pos ⟨trivial, by simp only [List.length_cons, List.length_nil, ints_length]; omega, rfl⟩, e]
  rfl
theorem p_minmax {x y : Opd} {k k' : IntKind} {a b : Int} {isMax : Bool} (hx : evo s x = .int k a) (hy : evo s y = .int k' b) : ipure (.minmax isMax x y) s = some (.int k (if isMax then (if b > a then b else a) else (if b < a then b else a))) := by
  simp only [ipure, hx, hy]
end
end Go.Vh


/- Calls that leave all as it is. -/
namespace Go.Vh
open Go
theorem n_mkS0 {κ : SK} {σ : Sig} {r off n r' : Nat} (h : σ r = some (r', 0)) : AV.ren σ (mkS κ r off n) = mkS κ r' off n := by rw [n_mkS h, Nat.zero_add]
theorem renL_take {σ : Sig} : ∀ (l : List AV) (k : Nat), (renL σ l).take k = renL σ (l.take k)
  | [], k => by cases k <;> rfl
  | v :: l, 0 => rfl
  | v :: l, k + 1 => by rw [n_lcons, List.take_succ_cons, List.take_succ_cons, n_lcons, renL_take l k]

section
variable {P : Program} {f : FuncId} {W0 : List Nat} {K : St → AHeap → Prop} {d : Option Nat} {s : St} {H : AHeap} {args caps rest : List AV} {κ κ' : SK} {n m m' : Nat} {k : IntKind} {l l' : List Int} {c : AV}

theorem call_rdI0 {r : Nat} {row : ARow} (h : ACalls P f (mkS κ 0 0 n :: rest) [ro (ints k l)] W0 fun v H => v = c ∧ H = [ro (ints k l)]) (hrest : rest.all AV.flat = true) (hrow : rowAt H r = some row) (hc : row.cells.take l.length = ints k l)
    (hargs : args ++ caps = mkS κ r 0 n :: rest) (hr : ∀ σ, c.ren σ = c) (hK : K (putI d s c) H) : thenC0 P K d s H args (.func f caps) :=
  call_ints0 h hrest hrow hc hargs fun v0 H0' ⟨e1, e2⟩ => by subst e1; subst e2; rw [hr]; simpa using hK
/-- One slice of integers is read; the answer is a part of it. -/
theorem call_rdS {r : Nat} {row : ARow} (h : ACalls P f (mkS κ 0 0 n :: rest) [ro (ints k l)] W0 fun v H => v = mkS κ' 0 0 m ∧ H = [ro (ints k l)]) (hrest : rest.all AV.flat = true) (hrow : rowAt H r = some row) (hc : row.cells.take l.length = ints k l)
    (hargs : args ++ caps = mkS κ r 0 n :: rest) (hK : K (putI d s (mkS κ' r 0 m)) H) : thenC P K d s H args (.func f caps) :=
  call_ints h hrest hrow hc hargs fun v0 H0' ⟨e1, e2⟩ => by subst e1; subst e2; rw [n_mkS0 rfl]; simpa using hK
/-- A call with plain arguments and a plain answer. -/
theorem call_sc {args0 : List AV} (h : ACalls P f args0 [] W0 fun v H => v = c ∧ H = []) (hf : args0.all AV.flat = true) (hargs : args ++ caps = args0) (hr : ∀ σ, c.ren σ = c) (hK : K (putI d s c) H) : thenC P K d s H args (.func f caps) :=
  call_pure h (flatL_under hf) hargs (flatL_ren hf) (fun v0 ⟨e, _⟩ => by subst e; rw [hr]; exact hK) fun _ _ h => h.2
end
end Go.Vh


/- An empty row, added. -/
namespace Go.Vh
open Go

def empty : Option ARow := some ⟨true, false, []⟩
theorem empty_at {H : AHeap} {r : Nat} {row : ARow} (h : rowAt (H ++ [empty]) r = some row) : (r < H.length ∧ rowAt H r = some row) ∨ (r = H.length ∧ row = ⟨true, false, []⟩) := by
  rw [rowAt_some] at h
  rcases Nat.lt_or_ge r H.length with hr | hr
  · rw [List.getElem?_append_left hr] at h; exact .inl ⟨hr, rowAt_some.2 h⟩
  · rw [List.getElem?_append_right hr] at h
    obtain ⟨h1, h2⟩ := List.getElem?_eq_some_iff.1 h
    simp only [List.length_cons, List.length_nil] at h1
    have : r - H.length = 0 := by omega
    refine .inr ⟨by omega, ?_⟩
    simp only [this, List.getElem_cons_zero, empty] at h2
    cases h2; rfl

/-- A row that lies nowhere. -/
theorem Weak.pad {n0 : Nat} {s : St} {H : AHeap} : Weak n0 s H s (H ++ [empty]) := by
  intro w0 ex N R0 ρ a w hR rel
  have hs := rel.inv.sim
  have hd : ρ H.length = none := hs.dom _ (Nat.le_refl _)
  have hle : ρ.le (ρ.put H.length ⟨0, 0, 0⟩) := RMap.le_put hd
  have old : ∀ {r x}, r < H.length → (ρ.put H.length ⟨0, 0, 0⟩) r = some x → ρ r = some x := fun {r x} hr hx => by
    simp only [RMap.put] at hx
    rw [if_neg (by omega)] at hx
    exact hx
  have new : ∀ {x}, (ρ.put H.length ⟨0, 0, 0⟩) H.length = some x → x = ⟨0, 0, 0⟩ := fun {x} hx => by
    simp only [RMap.put, if_true, Option.some.injEq] at hx
    exact hx.symm
  refine ⟨ρ.put H.length ⟨0, 0, 0⟩, ⟨⟨fun r hr => ?_, fun r row hr => ?_, fun r row x hr hx k c hk => ?_, fun r row x hr ho hx => ?_, fun r1 r2 a b x y h1 h2 h3 h4 h5 hx hy nx ny => ?_, fun r row x hr hx hne => ?_⟩, rel.inv.frm⟩, fun t => (rel.tmps t).mono hle, rel.size, rel.defers, RMap.le_trans rel.base hle⟩
  · simp only [List.length_append, List.length_cons, List.length_nil] at hr
    simp only [RMap.put]
    rw [if_neg (by omega)]
    exact hs.dom r (by omega)
  · rcases empty_at hr with ⟨hl, h1⟩ | ⟨rfl, _⟩
    · obtain ⟨x, hx⟩ := hs.has r row h1
      exact ⟨x, hle _ _ hx⟩
    · exact ⟨⟨0, 0, 0⟩, by simp [RMap.put]⟩
  · rcases empty_at hr with ⟨hl, h1⟩ | ⟨rfl, rfl⟩
    · obtain ⟨j1, v, j2, j3⟩ := hs.cells r row x h1 (old hl hx) k c hk
      exact ⟨j1, v, j2, j3.mono hle⟩
    · simp at hk
  · rcases empty_at hr with ⟨hl, h1⟩ | ⟨rfl, rfl⟩
    · exact hs.own r row x h1 ho (old hl hx)
    · have := new hx; subst this
      exact ⟨by simp, by simp, fun h => (h rfl).elim⟩
  · rcases empty_at h1 with ⟨l1, k1⟩ | ⟨rfl, rfl⟩
    · rcases empty_at h2 with ⟨l2, k2⟩ | ⟨rfl, rfl⟩
      · exact hs.dist r1 r2 a b x y k1 k2 h3 h4 h5 (old l1 hx) (old l2 hy) nx ny
      · have := new hy; subst this
        exact (ny rfl).elim
    · have := new hx; subst this
      exact (nx rfl).elim
  · rcases empty_at hr with ⟨hl, h1⟩ | ⟨rfl, rfl⟩
    · exact hs.room r row x h1 (old hl hx) hne
    · exact (hne rfl).elim

theorem Weak.trans {n0 : Nat} {s s' s'' : St} {H H' H'' : AHeap} (h : Weak n0 s H s' H') (h' : Weak n0 s' H' s'' H'') : Weak n0 s H s'' H'' := fun w0 ex N R0 ρ a w hR rel =>
  let ⟨ρ', r'⟩ := h w0 ex N R0 ρ a w hR rel
  h' w0 ex N R0 ρ' a w hR r'
end Go.Vh

