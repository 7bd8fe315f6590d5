/- From a contract to a row: arguments that are slices, of bools among them. -/
import Derived.Test.YtpkeneadkiabiaaDoorVX
set_option linter.unusedSimpArgs false
set_option linter.unusedVariables false
namespace Go.Vh
open Go Go.ChangeShapes Go.WideShapes Go.RowKit Go.ChangeAt Go.Deep

/-- Rows that are only read, with where they lie. -/
structure CRow where
  cs : List AV
  x : Loc

def crows (rs : List CRow) : AHeap := rs.map fun r => ro r.cs
def clocs (rs : List CRow) : RMap := fun i => (rs[i]?).map (·.x)
def CRow.at (r : CRow) (w : World) : Prop := r.x.n ≠ 0 ∧ ∀ i c, r.cs[i]? = some c → c.cell = true ∧ ∃ v, w.cell? ⟨r.x.b, r.x.d + i, none⟩ = some v ∧ ∀ ρ, VRel ρ c v

theorem crows_at {rs : List CRow} {i : Nat} {row : ARow} (h : Vh.rowAt (crows rs) i = some row) : ∃ r, rs[i]? = some r ∧ row = ⟨false, false, r.cs⟩ := by
  rw [rowAt_some, crows, List.getElem?_map, Option.map_eq_some_iff] at h
  obtain ⟨r, h1, h2⟩ := h
  exact ⟨r, h1, by cases h2; rfl⟩

theorem Sim.crows {rs : List CRow} {w : World} {B : Nat} {ex : Nat → Prop} (h : ∀ r ∈ rs, r.at w) : Sim B ex (clocs rs) (Go.Vh.crows rs) w := by
  refine ⟨fun i hi => ?_, fun i row hi => ?_, fun i row x hi hx j c hc => ?_, fun i row x hi ho => ?_, fun i j a b x y hi _ ho => ?_, fun i row x hi hx hne => ?_⟩
  · simp only [Go.Vh.crows, List.length_map] at hi
    simp [clocs, List.getElem?_eq_none hi]
  · obtain ⟨r, h1, rfl⟩ := crows_at hi
    exact ⟨r.x, by simp [clocs, h1]⟩
  · obtain ⟨r, h1, rfl⟩ := crows_at hi
    have hx' : r.x = x := by simpa [clocs, h1] using hx
    subst hx'
    obtain ⟨_, h3⟩ := h r (List.mem_of_getElem? h1)
    obtain ⟨k1, v, k2, k3⟩ := h3 j c hc
    exact ⟨k1, v, k2, k3 _⟩
  · obtain ⟨r, h1, rfl⟩ := crows_at hi
    cases ho
  · obtain ⟨r, h1, rfl⟩ := crows_at hi
    cases ho
  · obtain ⟨r, h1, rfl⟩ := crows_at hi
    have hx' : r.x = x := by simpa [clocs, h1] using hx
    subst hx'
    exact (h r (List.mem_of_getElem? h1)).1

/-- A call whose arguments reach rows that are only read. -/
theorem ACalls.onRows {P : Program} {f : FuncId} {args : List AV} {rs : List CRow} {W : List Nat} {R : AV → AHeap → Prop} (h : ACalls P f args (crows rs) W R) {w : World} (hrs : ∀ r ∈ rs, r.at w) {vs : List Value} (hv : VRelL (clocs rs) args vs) :
    Calls P f vs.toArray w fun e w' => ∃ v v' ρ' H', e = .returned v' ∧ R v H' ∧ VRel ρ' v v' ∧ Frm w.heap.size (fun _ => False) w w' := by
  refine (h.calls _ w vs (Sim.crows hrs) hv fun _ => .any _).mono fun e w' ⟨v, v', ρ', H', h1, h2, _, h4, _, h6, _⟩ => ⟨v, v', ρ', H', h1, h2, h4, ⟨h6.os, h6.tape, h6.output, h6.size, fun k hk _ => h6.block k hk fun ⟨r, row, x, _, q, ho, _⟩ => ?_⟩⟩
  obtain ⟨_, _, rfl⟩ := crows_at q
  cases ho

section
variable {P : Program} {H : Type} {enc : TypeId × Value → H} {W : World}

/-- An argument that is a slice of bools. -/
theorem open_row_bools {t e : TypeId} {v : Value} {d : DataW H} {ps : List MemPlace} {base : Nat} {r0 : Reach} (ht : P.underlying t = some (.slice e)) (he : P.underlying e = some .bool) (hc : P.cellsOf e = 1)
    (hval : Value.okWide P W r0 base t v) (h : DataW.Trod enc P W 0 (fun _ => true) true t v d ps) :
    ∃ (κ : SK) (n : Nat) (f : Nat → Bool) (x : Loc), CRow.at ⟨bt n f, x⟩ W ∧ okS κ n ∧ n ≤ maxLen ∧ ∀ (ρ : RMap) (i : Nat), ρ i = some x → VRel ρ (mkS κ i 0 n) v := by
  obtain ⟨a0, len0, cap0, rfl⟩ := okWide_slice ht hval
  obtain ⟨fuel, hf⟩ := h
  rcases open_bools ht he hc hf with ⟨hcs, _⟩ | ⟨a, len, cap, B, hcs, _, hle, hmax, _, hcell⟩
  · simp [Value.cells] at hcs
    obtain ⟨rfl, rfl, rfl⟩ := hcs
    exact ⟨.nil, 0, fun _ => false, ⟨0, 0, 1⟩, ⟨by simp, fun i c hi => by simp [bt] at hi⟩, rfl, Nat.zero_le _, fun ρ i _ => .nilslice⟩
  · simp [Value.cells] at hcs
    obtain ⟨rfl, rfl, rfl⟩ := hcs
    refine ⟨.cap cap0, len0, B, ⟨a.block, a.off, 1⟩, ⟨by simp, fun i c hi => ?_⟩, hle, by omega, fun ρ i hx => ?_⟩
    · have hlt : i < len0 := by
        rcases Nat.lt_or_ge i len0 with h | h
        · exact h
        · simp only at hi
          rw [List.getElem?_eq_none (by rw [bt_length]; exact h)] at hi; cases hi
      simp only at hi
      rw [bt_get hlt] at hi
      cases hi
      have h0 := hcell i (by omega)
      have hsp := hcell 0 (by omega)
      obtain ⟨b, off, spot⟩ := a
      have hspot : spot = none := by simpa [Addr.add] using World.cell?_spot hsp
      subst hspot
      rw [add_plain] at h0
      exact ⟨rfl, _, h0, fun _ => .bool _⟩
    · simp only [mkS]
      rcases Nat.eq_zero_or_pos cap0 with h0 | h0
      · have : len0 = 0 := by omega
        subst this; subst h0
        exact .slice0 _ _ _
      · have hsp := hcell 0 (by omega)
        obtain ⟨b, off, spot⟩ := a
        have hspot : spot = none := by simpa [Addr.add] using World.cell?_spot hsp
        subst hspot
        have := VRel.slice (ρ := ρ) i 0 len0 cap0 _ hx hle
        simpa using this
end
end Go.Vh

/- Rows of numbers by index; lists of bools; answers that are appended to; flat rows read by a callee. -/
namespace Go.Vh
open Go

/-- n numbers. -/
def nt (n : Nat) (q : Nat → Int) : List AV := (List.range n).map fun i => AV.int .i64 (q i)
theorem nt_length {n q} : (nt n q).length = n := by simp [nt]
theorem nt_get {n q i} (h : i < n) : (nt n q)[i]? = some (.int .i64 (q i)) := by simp [nt, h]
theorem nt_flat {n q} : (nt n q).all AV.flat = true := by simp [nt, AV.flat]
theorem nt_ren {σ : Sig} {n q} : renL σ (nt n q) = nt n q := flatL_ren nt_flat
theorem nt_cell {n q} : (nt n q).all AV.cell = true := by simp [nt, AV.cell]
theorem nt_of {l : List Int} : ints .i64 l = nt l.length fun i => l.getD i 0 := by
  apply List.ext_getElem?
  intro i
  rcases Nat.lt_or_ge i l.length with h | h
  · rw [ints_get h, nt_get h]
  · rw [List.getElem?_eq_none (by rw [ints_length]; exact h), List.getElem?_eq_none (by rw [nt_length]; exact h)]

/-- A list of bools, as a row. -/
def bl (l : List Bool) : List AV := bt l.length fun i => l.getD i false
theorem bl_app {l : List Bool} {b : Bool} : bl l ++ [.bool b] = bl (l ++ [b]) := by
  unfold bl
  rw [bt_app]
  have e : (l ++ [b]).length = l.length + 1 := by simp
  rw [e]
  apply bt_congr
  intro i hi
  by_cases h : i = l.length
  · subst h; simp
  · rw [if_neg h]
    have hlt : i < l.length := by omega
    simp [List.getD_eq_getElem?_getD, List.getElem?_append_left hlt]

/-- A list that was appended to, on top of a heap. -/
def GrownL (base : AHeap) (l : List Bool) (v : AV) (H : AHeap) : Prop := (l = [] ∧ v = .nilslice ∧ H = base) ∨ (l ≠ [] ∧ v = .sliceU base.length 0 l.length 1 ∧ H = base ++ [sl (bl l)])

/-- An answer that lies in a new row, its own. -/
def FreshB (base : AHeap) (n : Nat) (h : Nat → Bool) (v : AV) (H : AHeap) : Prop := ∃ κ b, okS κ n ∧ v = mkS κ base.length 0 n ∧ H = base ++ [some ⟨true, b, bt n h⟩]

section
variable {P : Program} {f : FuncId} {W0 : List Nat} {K : St → AHeap → Prop} {d : Option Nat} {s : St} {H : AHeap} {args caps rest : List AV} {κ κ' : SK} {n n' : Nat} {a b da db : Nat} {ra rb : ARow} {cs cs' : List AV}

/-- Two slices are read. -/
theorem call_cc {R0 : AV → AHeap → Prop} (h : ACalls P f (mkS κ 0 0 n :: mkS κ' 1 0 n' :: rest) [ro cs, ro cs'] W0 R0) (hf : cs.all AV.flat = true) (hf' : cs'.all AV.flat = true) (hrest : underL 0 rest = true)
    (ha : Vh.rowAt H a = some ra) (hb : Vh.rowAt H b = some rb) (la : da + cs.length ≤ ra.cells.length) (lb : db + cs'.length ≤ rb.cells.length) (ca : (ra.cells.drop da).take cs.length = cs) (cb : (rb.cells.drop db).take cs'.length = cs')
    (hargs : args ++ caps = mkS κ a da n :: mkS κ' b db n' :: rest)
    (hK : ∀ v0 H0', R0 v0 H0' → K (putI d s (v0.ren (sig [(a, da), (b, db)] H.length))) (H ++ (H0'.drop 2).map (renRow (sig [(a, da), (b, db)] H.length)))) : thenC P K d s H args (.func f caps) := by
  have h0 : sig [(a, da), (b, db)] H.length 0 = some (a, da) := rfl
  have h1 : sig [(a, da), (b, db)] H.length 1 = some (b, db) := rfl
  refine call_do h [(a, da), (b, db)] rfl ?_ rfl ?_ ⟨seen_ro ha la (by rw [flatL_ren hf]; exact ca.symm) (flatL_under hf), seen_ro hb lb (by rw [flatL_ren hf']; exact cb.symm) (flatL_under hf'), trivial⟩ fun v0 H0' h0' => ?_
  · have hr : underL 2 rest = true := underL_mono (by omega) hrest
    simp [underL, mkS_under, hr]
  · rw [hargs, n_lcons, n_lcons, n_mkS h0, n_mkS h1, renL_under0 hrest]; rfl
  · have := hK v0 H0' h0'
    rw [m_merge, m_ro, m_ro, m_nil]
    exact this

/-- One slice is read. -/
theorem call_c1 {R0 : AV → AHeap → Prop} (h : ACalls P f (mkS κ 0 0 n :: rest) [ro cs] W0 R0) (hf : cs.all AV.flat = true) (hrest : underL 0 rest = true)
    (ha : Vh.rowAt H a = some ra) (la : da + cs.length ≤ ra.cells.length) (ca : (ra.cells.drop da).take cs.length = cs)
    (hargs : args ++ caps = mkS κ a da n :: rest)
    (hK : ∀ v0 H0', R0 v0 H0' → K (putI d s (v0.ren (sig [(a, da)] H.length))) (H ++ (H0'.drop 1).map (renRow (sig [(a, da)] H.length)))) : thenC P K d s H args (.func f caps) := by
  have h0 : sig [(a, da)] H.length 0 = some (a, da) := rfl
  refine call_do h [(a, da)] rfl ?_ rfl ?_ ⟨seen_ro ha la (by rw [flatL_ren hf]; exact ca.symm) (flatL_under hf), trivial⟩ fun v0 H0' h0' => ?_
  · have hr : underL 1 rest = true := underL_mono (by omega) hrest
    simp [underL, mkS_under, hr]
  · rw [hargs, n_lcons, n_mkS h0, renL_under0 hrest]; rfl
  · have := hK v0 H0' h0'
    rw [m_merge, m_ro, m_nil]
    exact this

/-- A slice of bools is written, its row handed over. -/
theorem call_own {g g' : Nat → Bool} {c : AV} {sk : Bool} (h : ACalls P f [mkS κ 0 0 n] [some ⟨true, sk, bt n g⟩] W0 fun v H => v = c ∧ H = [some ⟨true, sk, bt n g'⟩]) (hc : c.under 0 = true)
    (hr : Vh.rowAt H a = some ⟨true, sk, bt n g⟩) (hargs : args ++ caps = [mkS κ a 0 n]) (hK : K (putI d s c) (H.set a (some ⟨true, sk, bt n g'⟩))) : thenC P K d s H args (.func f caps) := by
  have hs : sig [(a, 0)] H.length 0 = some (a, 0) := rfl
  refine call_do h [(a, 0)] rfl ?_ rfl ?_ ⟨⟨_, hr, ?_, ?_, flatL_under bt_flat, ?_⟩, trivial⟩ fun v0 H0' ⟨e1, e2⟩ => ?_
  · simp [underL, mkS_under]
  · rw [hargs, n_lcons, n_mkS0 hs, n_lnil]
  · simp
  · simp [bt_ren, bt_length, bt_take (Nat.le_refl n)]
  · intro _; exact ⟨rfl, rfl, rfl, rfl⟩
  · subst e1; subst e2
    rw [AV.ren_under0 hc]
    simpa [merge, mergeGo, renRow, Vh.rowAt, bt_ren] using hK
end
end Go.Vh

/- Rows of numbers that are written; a callee's new row. -/
namespace Go.Vh
open Go

theorem nt_congr {n q q'} (h : ∀ i, i < n → q i = q' i) : nt n q = nt n q' := by
  unfold nt
  apply List.map_congr_left
  intro i hi
  rw [h i (by simpa using hi)]
theorem nt_set {n q i x} (h : i < n) : (nt n q).set i (.int .i64 x) = nt n fun j => if j = i then x else q j := by
  apply List.ext_getElem?
  intro j
  rcases Nat.lt_or_ge j n with hj | hj
  · rw [nt_get hj]
    by_cases e : j = i
    · subst e; rw [List.getElem?_set_self (by rw [nt_length]; omega)]; simp
    · rw [List.getElem?_set_ne (Ne.symm e), nt_get hj]; simp [e]
  · rw [List.getElem?_eq_none (by rw [List.length_set, nt_length]; omega), List.getElem?_eq_none (by rw [nt_length]; omega)]
theorem nt_const {n x} : List.replicate n (AV.int .i64 x) = nt n fun _ => x := by
  apply List.ext_getElem?
  intro j
  rcases Nat.lt_or_ge j n with hj | hj
  · rw [nt_get hj]; simp [hj]
  · rw [List.getElem?_eq_none (by simp; omega), List.getElem?_eq_none (by rw [nt_length]; omega)]

section
variable {s : St} {H : AHeap}
theorem x_makeN {x : Opd} {n : Nat} {bytes : Nat} (h : evo s x = .int .i64 (n : Int)) (h1 : bytes * n ≤ 281474976710656) (h2 : n ≤ 9223372036854775807) :
    ieff (.makeSlice (.int .i64 0) bytes x x) s H = some (.slice H.length 0 n n, H ++ [rw_ (nt n fun _ => 0)]) := by
  have hb : 0 ≤ (n : Int) ∧ (n : Int) ≤ n ∧ (bytes : Int) * (n : Int) ≤ 281474976710656 ∧ (n : Int) ≤ 9223372036854775807 := by
    refine ⟨by omega, by omega, ?_, by omega⟩
    have : ((bytes * n : Nat) : Int) ≤ 281474976710656 := by omega
    simpa using this
  simp only [ieff, h]
  rw [if_pos hb]
  simp [anew, nt_const, nt_cell, rw_]
theorem x_putN {x v : Opd} {r off : Nat} {b : Int} {n : Nat} {q : Nat → Int} (hx : evo s x = .ptr r off) (hv : evo s v = .int .i64 b) (hr : Vh.rowAt H r = some ⟨true, false, nt n q⟩) (ho : off < n) :
    ieff (.store 1 x v) s H = some (.any, H.set r (rw_ (nt n fun j => if j = off then b else q j))) := by
  have hs : splice (nt n q) off [.int .i64 b] = (nt n q).set off (.int .i64 b) := by
    rw [splice, List.set_eq_take_append_cons_drop, if_pos (by rw [nt_length]; omega)]
    simp
  simp only [ieff, hx, hv]
  simp only [aparts, List.length_singleton, if_true, aput, hr, Option.bind_some]
  rw [if_pos ⟨trivial, by rw [nt_length]; omega, rfl⟩, hs, nt_set ho]
  rfl
end

section
variable {P : Program} {f : FuncId} {W0 : List Nat} {K : St → AHeap → Prop} {d : Option Nat} {s : St} {H : AHeap} {args caps args0 : List AV} {n : Nat} {h : Nat → Bool}
/-- A call that answers a new row of bools. -/
theorem call_newB (hA : ACalls P f args0 [] W0 fun v H => v = .slice 0 0 n n ∧ H = [rw_ (bt n h)]) (hu : underL 0 args0 = true) (hargs : args ++ caps = args0) (hK : K (putI d s (.slice H.length 0 n n)) (H ++ [rw_ (bt n h)])) : thenC P K d s H args (.func f caps) := by
  refine call_do hA [] rfl hu rfl (by rw [hargs, renL_under0 hu]) trivial fun v0 H0' ⟨e1, e2⟩ => ?_
  subst e1; subst e2
  have h1 : AV.ren (sig [] H.length) (.slice 0 0 n n) = .slice H.length 0 n n := by simp [AV.ren, sig]
  have h2 : merge H [] [] [rw_ (bt n h)] = H ++ [rw_ (bt n h)] := by
    simp [merge, mergeGo, m_renRw, bt_ren]
  rw [h1, h2]; exact hK
end
end Go.Vh

/- Rows of bytes; what is appended within the room; loops over strings. -/
namespace Go.Vh
open Go
variable {s : St} {H : AHeap}

/-- n bytes. -/
def ut (n : Nat) (q : Nat → Nat) : List AV := (List.range n).map fun i => AV.int .u8 ((q i : Nat) : Int)

theorem ut_length {n q} : (ut n q).length = n := by simp [ut]
theorem ut_get {n q i} (h : i < n) : (ut n q)[i]? = some (.int .u8 ((q i : Nat) : Int)) := by simp [ut, h]
theorem ut_flat {n q} : (ut n q).all AV.flat = true := by simp [ut, AV.flat]
theorem ut_ren {σ : Sig} {n q} : renL σ (ut n q) = ut n q := flatL_ren ut_flat
theorem ut_cell {n q} : (ut n q).all AV.cell = true := by simp [ut, AV.cell]
theorem ut_congr {n q q'} (h : ∀ i, i < n → q i = q' i) : ut n q = ut n q' := by
  unfold ut
  apply List.map_congr_left
  intro i hi
  rw [h i (by simpa using hi)]
theorem ut_set {n q i x} (h : i < n) : (ut n q).set i (.int .u8 ((x : Nat) : Int)) = ut n fun j => if j = i then x else q j := by
  apply List.ext_getElem?
  intro j
  rcases Nat.lt_or_ge j n with hj | hj
  · rw [ut_get hj]
    by_cases e : j = i
    · subst e; rw [List.getElem?_set_self (by rw [ut_length]; omega)]; simp
    · rw [List.getElem?_set_ne (Ne.symm e), ut_get hj]; simp [e]
  · rw [List.getElem?_eq_none (by rw [List.length_set, ut_length]; omega), List.getElem?_eq_none (by rw [ut_length]; omega)]
theorem ut_const {n x} : List.replicate n (AV.int .u8 ((x : Nat) : Int)) = ut n fun _ => x := by
  apply List.ext_getElem?
  intro j
  rcases Nat.lt_or_ge j n with hj | hj
  · rw [ut_get hj]; simp [hj]
  · rw [List.getElem?_eq_none (by simp; omega), List.getElem?_eq_none (by rw [ut_length]; omega)]
theorem ut_take {n q m} (h : m ≤ n) : (ut n q).take m = ut m q := by
  apply List.ext_getElem?
  intro i
  rcases Nat.lt_or_ge i m with hi | hi
  · rw [List.getElem?_take_of_lt hi, ut_get (by omega), ut_get hi]
  · rw [List.getElem?_eq_none (by rw [List.length_take, ut_length]; omega), List.getElem?_eq_none (by rw [ut_length]; omega)]

theorem x_makeU {x : Opd} {n : Nat} {bytes : Nat} (h : evo s x = .int .i64 (n : Int)) (h1 : bytes * n ≤ 281474976710656) (h2 : n ≤ 9223372036854775807) :
    ieff (.makeSlice (.int .u8 0) bytes x x) s H = some (.slice H.length 0 n n, H ++ [rw_ (ut n fun _ => 0)]) := by
  have hb : 0 ≤ (n : Int) ∧ (n : Int) ≤ n ∧ (bytes : Int) * (n : Int) ≤ 281474976710656 ∧ (n : Int) ≤ 9223372036854775807 := by
    refine ⟨by omega, by omega, ?_, by omega⟩
    have : ((bytes * n : Nat) : Int) ≤ 281474976710656 := by omega
    simpa using this
  have e := ut_const (n := n) (x := 0)
  have hc := ut_cell (n := n) (q := fun _ => 0)
  rw [← e] at hc ⊢
  simp only [ieff, h]
  rw [if_pos hb]
  simp only [Int.toNat_natCast, anew, rw_]
  rw [show ((0 : Nat) : Int) = 0 from rfl] at hc
  rw [if_pos hc]
  rfl
theorem x_putU {x v : Opd} {r off : Nat} {b : Nat} {n : Nat} {q : Nat → Nat} (hx : evo s x = .ptr r off) (hv : evo s v = .int .u8 (b : Int)) (hr : Vh.rowAt H r = some ⟨true, false, ut n q⟩) (ho : off < n) :
    ieff (.store 1 x v) s H = some (.any, H.set r (rw_ (ut n fun j => if j = off then b else q j))) := by
  have hs : splice (ut n q) off [.int .u8 (b : Int)] = (ut n q).set off (.int .u8 (b : Int)) := by
    rw [splice, List.set_eq_take_append_cons_drop, if_pos (by rw [ut_length]; omega)]
    simp
  simp only [ieff, hx, hv]
  simp only [aparts, List.length_singleton, if_true, aput, hr, Option.bind_some]
  rw [if_pos ⟨trivial, by rw [ut_length]; omega, rfl⟩, hs, ut_set ho]
  rfl

/-- An empty slice with room. -/
theorem x_makeR {x y : Opd} {n : Nat} {bytes : Nat} (h0 : evo s y = .int .i64 0) (h : evo s x = .int .i64 (n : Int)) (h1 : bytes * n ≤ 281474976710656) (h2 : n ≤ 9223372036854775807) :
    ieff (.makeSlice (.bool false) bytes y x) s H = some (.slice H.length 0 0 n, H ++ [rw_ (bt n fun _ => false)]) := by
  have hb : 0 ≤ (0 : Int) ∧ (0 : Int) ≤ n ∧ (bytes : Int) * (n : Int) ≤ 281474976710656 ∧ (n : Int) ≤ 9223372036854775807 := by
    refine ⟨by omega, by omega, ?_, by omega⟩
    have : ((bytes * n : Nat) : Int) ≤ 281474976710656 := by omega
    simpa using this
  simp only [ieff, h, h0]
  rw [if_pos hb]
  simp [anew, bt_const, bt_cell, rw_]

theorem bt_splice {n m o : Nat} {g h : Nat → Bool} (ho : o + m ≤ n) : splice (bt n g) o (bt m h) = bt n fun i => if o ≤ i ∧ i < o + m then h (i - o) else g i := by
  have e1 : ((bt n g).take o).length = o := by rw [List.length_take, bt_length]; omega
  have e2 : (bt m h).length = m := bt_length
  apply List.ext_getElem?
  intro i
  unfold splice
  rw [e2]
  rcases Nat.lt_or_ge i o with h1 | h1
  · rw [List.append_assoc, List.getElem?_append_left (by omega), List.getElem?_take_of_lt h1, bt_get (by omega), bt_get (by omega), if_neg (by omega)]
  · rcases Nat.lt_or_ge i (o + m) with h2 | h2
    · rw [List.append_assoc, List.getElem?_append_right (by omega), e1, List.getElem?_append_left (by omega), bt_get (by omega), bt_get (by omega), if_pos ⟨h1, h2⟩]
    · have e3 : ((bt n g).take o ++ bt m h).length = o + m := by rw [List.length_append, e1, e2]
      rcases Nat.lt_or_ge i n with h3 | h3
      · rw [List.getElem?_append_right (by omega), e3, List.getElem?_drop, show o + m + (i - (o + m)) = i by omega, bt_get h3, bt_get h3, if_neg (by omega)]
      · rw [List.getElem?_eq_none (by rw [List.length_append, e3, List.length_drop, bt_length]; omega), List.getElem?_eq_none (by rw [bt_length]; omega)]

/-- An append that fits. -/
theorem x_appS {bytes : Nat} {x y : Opd} {r q n m c c' : Nat} {row : ARow} {g h : Nat → Bool} (hx : evo s x = .slice r 0 n c) (hy : evo s y = .slice q 0 m c') (hq : Vh.rowAt H q = some row) (hc : row.cells.take m = bt m h) (hm : m ≤ row.cells.length)
    (hr : Vh.rowAt H r = some ⟨true, false, bt c g⟩) (hb : (n + m) * bytes ≤ 70368744177664) (hfit : n + m ≤ c) (hpos : 0 < m) :
    ieff (.append 1 bytes x y) s H = some (.slice r 0 (n + m) c, H.set r (rw_ (bt c fun i => if n ≤ i ∧ i < n + m then h (i - n) else g i))) := by
  simp only [ieff, hx, hy, l_slice, src_at hq hc hm, Option.bind_some, aappend, if_pos hb]
  rw [if_neg (by omega), if_neg (by omega)]
  simp only [aput, hr, Option.bind_some]
  rw [if_pos ⟨trivial, by rw [bt_length, bt_length]; omega, bt_cell⟩]
  simp only [Nat.mul_one, Nat.zero_add]
  rw [bt_splice hfit]
  rfl

theorem b_or1 {x : Nat} (hx : 2 * x + 1 < 2 ^ 64) : abin .or (.int .u64 ((2 * x : Nat) : Int)) (.int .u64 1) = some (.int .u64 ((2 * x + 1 : Nat) : Int)) := by
  have e : 2 * x ||| 1 = 2 * x + 1 := by
    have := Nat.two_pow_add_eq_or_of_lt (i := 1) (b := 1) (by decide) x
    simpa using this.symm
  have : abits .or .u64 ((2 * x : Nat) : Int) ((1 : Nat) : Int) = ((2 * x + 1 : Nat) : Int) := by
    show IntKind.u64.wrap ((BitVec.ofInt 64 ((2 * x : Nat) : Int) ||| BitVec.ofInt 64 ((1 : Nat) : Int)).toNat : Int) = _
    rw [BitVec.ofInt_natCast, BitVec.ofInt_natCast, BitVec.toNat_or, BitVec.toNat_ofNat, BitVec.toNat_ofNat, Nat.mod_eq_of_lt (by omega), Nat.mod_eq_of_lt (by decide), e, IntKind.wrap_u64]
    omega
  simp only [abin, aint, if_true]
  rw [show (1 : Int) = ((1 : Nat) : Int) from rfl, this]

theorem e_strLoop {P : Program} {n0 : Nat} {A B : List IStep} {x : Opd} {it id d : Nat} {rest : IR} {Q s H} : iwp P n0 (.strLoop A x it id d B rest) Q s H =
    iops P A (fun s H => strThen (fun str => ∃ I : Nat → St → AHeap → Prop, I 0 (upd s it (.ptr H.length 0)) (H ++ [some ⟨false, false, []⟩]) ∧
      ∀ pos s H, I pos s H → (∃ r, s it = .ptr r 0) ∧ iops P B (fun s1 H1 => iwp P H.length rest (strPost str pos it (s it) id n0 I Q) s1 H1) (upd s d (letter str pos)) H) (evo s x)) s H := rfl
theorem p_slice3 {sz x lo hi mx} : ipure (.slice3 sz x lo hi mx) s = aslice3 sz (evo s x) (lo.map (evo s)) (evo s hi) (evo s mx) := rfl
theorem x_toStr {x} : ieff (.bytesToStr x) s H = (match alen (evo s x) with | some _ => (asrc 1 (evo s x) H).bind fun l => (abytes l).map fun ns => (.str (strOfNums ns), H) | none => none) := rfl
def nums (n : Nat) (q : Nat → Nat) : List Int := (List.range n).map fun i => ((q i : Nat) : Int)
theorem abytes_map {q : Nat → Nat} : ∀ l : List Nat, abytes (l.map fun i => AV.int .u8 ((q i : Nat) : Int)) = some (l.map fun i => ((q i : Nat) : Int))
  | [] => rfl
  | a :: l => by simp only [List.map_cons, abytes, abytes_map l, Option.map_some]
theorem abytes_ut {n q} : abytes (ut n q) = some (nums n q) := abytes_map _
/-- The string of bytes. -/
theorem x_strK {κ : SK} {x : Opd} {r n : Nat} {row : ARow} {q : Nat → Nat} (hx : evo s x = mkS κ r 0 n) (hk : okS κ n) (hr : Vh.rowAt H r = some row) (hc : row.cells.take n = ut n q) (hm : n ≤ row.cells.length) :
    ieff (.bytesToStr x) s H = some (.str (strOfNums (nums n q)), H) := by
  have h1 : asrc 1 (mkS κ r 0 n) H = some (ut n q) := by
    cases κ with
    | nil =>
      have : n = 0 := hk
      subst this; rfl
    | cap c => exact src_at hr hc hm
    | u =>
      by_cases h0 : n = 0
      · subst h0; rfl
      · simp only [mkS, asrc, if_true, Nat.mul_one, if_neg h0, cellsAt, hr, Option.bind_some, Nat.zero_add, List.drop_zero]
        rw [if_pos hm, hc]
  rw [x_toStr, hx]
  simp only [k_len hk (Nat.le_refl n), h1, Option.bind_some, abytes_ut, Option.map_some]
theorem wu8 {x : Int} (h : 0 ≤ x) (h' : x ≤ 255) : IntKind.u8.wrap x = x := by rw [IntKind.wrap_u8]; omega
end Go.Vh

/- Numbers that are appended; rows of a heap by what is known of them; calls whose answers are new; all orders of a region. -/
namespace Go.Vh
open Go
theorem guardP_mono {A A' B B' : Prop} {c : Bool} {v : AV} (h1 : A → A') (h2 : B → B') (h : guardP A B c v) : guardP A' B' c v := by
  unfold guardP at h ⊢
  split at h
  · split at h
    · rename_i hb; simp only [hb, if_true]; exact h1 h
    · rename_i hb; simp only [hb, if_false]; exact h2 h
  · exact h2 h
  · exact h.elim
theorem iopD_mono {P : Program} {H0 : AHeap} {m : Nat} {d : Option Nat} {o : IOp} {K K' : St → AHeap → Prop} (hK : ∀ s H, K s H → K' s H) {s : St} {H : AHeap} (h : iopD P H0 m d o K s H) : iopD P H0 m d o K' s H := by
  cases o with
  | pure p => simp only [iopD] at h ⊢; revert h; cases ipure p s <;> simp only [thenP] <;> first | exact fun h => h.elim | exact hK _ _
  | eff e =>
    simp only [iopD] at h ⊢
    split
    · simp only at h; revert h; cases ieff e s H0 <;> simp only [thenL] <;> first | exact fun h => h.elim | exact hK _ _
    · rename_i hm
      have h' : thenE K d s (ieff e s H) := by
        revert h; split
        · exact absurd rfl hm
        · exact id
      revert h'; cases ieff e s H <;> simp only [thenE] <;> first | exact fun h => h.elim | exact hK _ _
  | call f args =>
    simp only [iopD] at h ⊢
    split
    · simp only at h
      revert h; cases evo s f <;> simp only [thenC0] <;> first | exact fun h => h.elim | exact fun h => h.mono fun _ _ => hK _ _
    · rename_i hm
      have h' : thenC P K d s H (args.map (evo s)) (evo s f) := by
        revert h; split
        · exact absurd rfl hm
        · exact id
      revert h'; cases evo s f <;> simp only [thenC] <;> first | exact fun h => h.elim | exact fun ⟨W, h⟩ => ⟨W, h.mono fun _ _ => hK _ _⟩
theorem istepD_mono {P : Program} {H0 : AHeap} {x : DStep} {K K' : St → AHeap → Prop} (hK : ∀ s H, K s H → K' s H) {s : St} {H : AHeap} (h : istepD P H0 x K s H) : istepD P H0 x K' s H := by
  unfold istepD at h ⊢
  split
  · rename_i e; rw [e] at h; exact iopD_mono hK h
  · rename_i t w e; rw [e] at h; exact guardP_mono (iopD_mono hK) (hK _ _) h
/-- Behind a region: what all its orders bring about. -/
theorem tops_gen {P : Program} {H0 : AHeap} {K : St → AHeap → Prop} (G : St → AHeap → Prop) : ∀ {t : DTree} {s : St} {H : AHeap}, iopsT P H0 t G s H → (∀ s H, G s H → K s H) → iopsT P H0 t K s H := by
  intro t
  induction t with
  | done => intro s H h hK; exact hK _ _ h
  | none => intro s H _ _; exact True.intro
  | soft x t ih => intro s H h hK; exact istepD_mono (fun s H h => ih h hK) h
  | alt x t r ih ih2 =>
    intro s H h hK
    cases r with
    | none => exact istepD_mono (fun s H h => ih h hK) h
    | done => exact ⟨istepD_mono (fun s H h => ih h hK) h.1, ih2 h.2 hK⟩
    | soft _ _ => exact ⟨istepD_mono (fun s H h => ih h hK) h.1, ih2 h.2 hK⟩
    | alt _ _ _ => exact ⟨istepD_mono (fun s H h => ih h hK) h.1, ih2 h.2 hK⟩
section
variable {s : St} {H : AHeap}
/-- A store of one cell of an own row of integers, behind which its block may go on. -/
theorem x_storeS {x v : Opd} {r off : Nat} {k : IntKind} {b : Int} {l : List Int} {sk : Bool} (hx : evo s x = .ptr r off) (hv : evo s v = .int k b) (hr : Vh.rowAt H r = some ⟨true, sk, ints k l⟩) (ho : off < l.length) :
    ieff (.store 1 x v) s H = some (.any, H.set r (some ⟨true, sk, ints k (l.set off b)⟩)) := by
  have e : splice (ints k l) off [AV.int k b] = ints k (l.set off b) := by
    have : [AV.int k b] = ints k [b] := rfl
    rw [this, ints_splice]
    congr 1
    apply List.ext_getElem?
    intro i
    simp only [List.length_cons, List.length_nil, Nat.zero_add, List.append_assoc, List.getElem?_append, List.length_take, List.getElem?_take, List.getElem?_drop, List.getElem?_set]
    rcases Nat.lt_trichotomy i off with h | h | h
    · simp [show i < min off l.length by omega, h, show off ≠ i by omega]
    · subst h; simp [show ¬ i < min i l.length by omega, show i - min i l.length = 0 by omega, ho]
    · simp [show ¬ i < min off l.length by omega, show ¬ (i - min off l.length < 1) by omega, show off ≠ i by omega]
      congr 1; omega
  simp only [ieff, hx, hv]
  rw [aparts_cell c_int]
  simp only [List.length_cons, List.length_nil, Nat.zero_add, if_true, aput, hr, Option.bind_some]
  rw [if_pos ⟨trivial, by simp only [List.length_cons, List.length_nil, ints_length]; omega, rfl⟩, e]
  rfl
end

/-- numbers that were appended one by one, on top of a heap -/
def grownI (base : AHeap) (l : List Int) (v : AV) (H : AHeap) : Prop := (l.length = 0 ∧ v = .nilslice ∧ H = base) ∨ (0 < l.length ∧ v = .sliceU base.length 0 l.length 1 ∧ H = base ++ [sl (ints .i64 l)])
theorem ints_snoc {l : List Int} {x : Int} : ints .i64 l ++ [.int .i64 x] = ints .i64 (l ++ [x]) := by simp [ints]
section
variable {s : St} {H H0 : AHeap}
theorem row_app {R : AHeap} {j : Nat} : Vh.rowAt (H0 ++ R) (H0.length + j) = Vh.rowAt R j := by simp [Vh.rowAt, List.getElem?_append_right]
theorem row_app0 {R : AHeap} : Vh.rowAt (H0 ++ R) H0.length = Vh.rowAt R 0 := row_app (j := 0)
theorem set_app {R : AHeap} {j : Nat} {x : Option ARow} : (H0 ++ R).set (H0.length + j) x = H0 ++ R.set j x := by simp [List.set_append_right]
theorem x_b0 : ieff (.buildSlice 0 [] []) s H = some (.slice H.length 0 0 0, H ++ [rw_ []]) := by simp [ieff, afill, anew, rw_]
end
section
variable {P : Program} {f : FuncId} {W0 : List Nat} {K : St → AHeap → Prop} {d : Option Nat} {s : St} {H : AHeap} {args caps args0 : List AV}
/-- A call that reaches nothing, and whose answer is new. -/
theorem call_fr {R0 : AV → AHeap → Prop} (h : ACalls P f args0 [] W0 R0) (hf : args0.all AV.flat = true) (hargs : args ++ caps = args0)
    (hK : ∀ v new, R0 v new → K (putI d s (v.ren (sig [] H.length))) (H ++ new.map (renRow (sig [] H.length)))) : thenC P K d s H args (.func f caps) := by
  refine call_do h [] rfl (flatL_under hf) rfl (by rw [hargs, flatL_ren hf]) trivial fun v0 H0' h0 => ?_
  have := hK v0 H0' h0
  rw [m_merge, m_nil]
  exact this
end

theorem k_idx3 {κ : SK} {N n r off : Nat} {k : IntKind} {x : Int} (hk : okS κ N) (h : n ≤ N) (h0 : 0 ≤ x) (h1 : x < n) : aindexAddr 3 (mkS κ r off n) (.int k x) = some (.ptr r (off + x.toNat * 3)) := by
  cases κ with
  | nil => simp only [okS] at hk; omega
  | cap c => simp [mkS, aindexAddr, h0, h1]
  | u => simp [mkS, aindexAddr, h0, h1]
theorem row_lt {H : AHeap} {r : Nat} {row : ARow} (h : Vh.rowAt H r = some row) : r < H.length := by
  rw [rowAt_some] at h
  exact (List.getElem?_eq_some_iff.1 h).1
theorem row_set {H R : AHeap} {r : Nat} {x : Option ARow} (h : r < H.length) : Vh.rowAt (H.set r x ++ R) r = x := by
  simp [Vh.rowAt, List.getElem?_append_left, h]
theorem row_other {H R : AHeap} {r i : Nat} {x : Option ARow} (h : i < H.length) (hn : r ≠ i) : Vh.rowAt (H.set r x ++ R) i = Vh.rowAt H i := by
  simp only [Vh.rowAt]
  rw [List.getElem?_append_left (by rw [List.length_set]; exact h), List.getElem?_set_ne hn]
theorem row_set0 {H : AHeap} {r : Nat} {x : Option ARow} (h : r < H.length) : Vh.rowAt (H.set r x) r = x := by
  simp [Vh.rowAt, h]
theorem row_other0 {H : AHeap} {r i : Nat} {x : Option ARow} (hn : r ≠ i) : Vh.rowAt (H.set r x) i = Vh.rowAt H i := by
  simp [Vh.rowAt, List.getElem?_set_ne hn]
theorem row_new {H : AHeap} {x y : Option ARow} {r : Nat} : Vh.rowAt (H.set r y ++ [x]) H.length = x := by
  simp [Vh.rowAt]
/-- A slice of nothing: nil, or not. -/
theorem ACallsG.split0 {P : Program} {γ : Nat → AV} {f : FuncId} {rest : List AV} {H : AHeap} {W : List Nat} {R : AV → AHeap → Prop} {r o : Nat} (h1 : ACallsG P γ f (.nilslice :: rest) H W R)
    (h2 : ∀ a, ACallsG P γ f (.lit (.slice (some a) 0 0) :: rest) H W R) : ACallsG P γ f (.slice r o 0 0 :: rest) H W R := by
  refine ⟨h1.ent, fun ρ w vs hs hv hg => ?_⟩
  cases hv with
  | cons _ v _ vs hx ht =>
    rcases hx.slice_inv with ⟨x, hx, _, rfl⟩ | ⟨_, _, a, rfl⟩
    · exact (h2 _).calls ρ w _ hs (.cons _ _ _ _ (.lit _) ht) hg
    · cases a with
      | none => exact h1.calls ρ w _ hs (.cons _ _ _ _ .nilslice ht) hg
      | some a => exact (h2 a).calls ρ w _ hs (.cons _ _ _ _ (.lit _) ht) hg

end Go.Vh
