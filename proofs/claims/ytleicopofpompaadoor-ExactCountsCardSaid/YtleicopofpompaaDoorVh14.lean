/- Facts with side conditions for the walk: 'simp (disch := omega)'. -/
import Derived.Test.YtleicopofpompaaDoorVh13
import Derived.IntWalk
set_option linter.unusedSimpArgs false
set_option linter.unusedVariables false
namespace Go.Vh
open Go

def ints (k : IntKind) (l : List Int) : List AV := l.map (AV.int k)
def ro (cs : List AV) : Option ARow := some ⟨false, false, cs⟩
def rw_ (cs : List AV) : Option ARow := some ⟨true, false, cs⟩
def sl (cs : List AV) : Option ARow := some ⟨true, true, cs⟩

theorem ro_def (cs : List AV) : ro cs = some ⟨false, false, cs⟩ := rfl
theorem rw_def (cs : List AV) : rw_ cs = some ⟨true, false, cs⟩ := rfl
theorem sl_def (cs : List AV) : sl cs = some ⟨true, true, cs⟩ := rfl

theorem r_zero {o : Option ARow} {H : AHeap} : rowAt (o :: H) 0 = o := by simp [rowAt]
theorem r_succ {o : Option ARow} {H : AHeap} {n : Nat} : rowAt (o :: H) (n + 1) = rowAt H n := by simp [rowAt]
theorem r_ro0 {cs : List AV} {H : AHeap} : rowAt (ro cs :: H) 0 = some ⟨false, false, cs⟩ := by simp [rowAt, ro]
theorem r_rw0 {cs : List AV} {H : AHeap} : rowAt (rw_ cs :: H) 0 = some ⟨true, false, cs⟩ := by simp [rowAt, rw_]
theorem r_sl0 {cs : List AV} {H : AHeap} : rowAt (sl cs :: H) 0 = some ⟨true, true, cs⟩ := by simp [rowAt, sl]

theorem ints_get {k : IntKind} {l : List Int} {i : Nat} (h : i < l.length) : (ints k l)[i]? = some (.int k (l.getD i 0)) := by
  simp [ints, h]
theorem ints_length {k : IntKind} {l : List Int} : (ints k l).length = l.length := by simp [ints]
theorem ints_cell {k : IntKind} {l : List Int} : (ints k l).all AV.cell = true := by
  simp [ints, AV.cell]
theorem ints_append {k : IntKind} {l m : List Int} : ints k l ++ ints k m = ints k (l ++ m) := by simp [ints]
theorem ints_take {k : IntKind} {l : List Int} {n : Nat} : (ints k l).take n = ints k (l.take n) := by simp [ints]
theorem ints_drop {k : IntKind} {l : List Int} {n : Nat} : (ints k l).drop n = ints k (l.drop n) := by simp [ints]
theorem ints_nil {k : IntKind} : ints k [] = [] := rfl
theorem ints_cons {k : IntKind} {x : Int} {l : List Int} : ints k (x :: l) = AV.int k x :: ints k l := rfl
theorem ints_replicate {k : IntKind} {n : Nat} {x : Int} : List.replicate n (AV.int k x) = ints k (List.replicate n x) := by simp [ints]
theorem ints_splice {k : IntKind} {l m : List Int} {i : Nat} : splice (ints k l) i (ints k m) = ints k (l.take i ++ m ++ l.drop (i + m.length)) := by simp [splice, ints]

theorem a_idx {sz r off n c : Nat} {k : IntKind} {x : Int} (h0 : 0 ≤ x) (h1 : x < n) : aindexAddr sz (.slice r off n c) (.int k x) = some (.ptr r (off + x.toNat * sz)) := by
  simp [aindexAddr, h0, h1]
theorem a_idxU {sz r off n c : Nat} {k : IntKind} {x : Int} (h0 : 0 ≤ x) (h1 : x < n) : aindexAddr sz (.sliceU r off n c) (.int k x) = some (.ptr r (off + x.toNat * sz)) := by
  simp [aindexAddr, h0, h1]
theorem a_hi {k : IntKind} {x : Int} {d m : Nat} (h0 : 0 ≤ x) (h1 : x ≤ m) : ahi (some (.int k x)) d m = some x.toNat := by
  simp [ahi, abound, h0, h1]
theorem a_hiN {d m : Nat} : ahi none d m = some d := rfl
theorem a_sl {sz r off n c : Nat} {lo hi : Option AV} : aslice sz (.slice r off n c) lo hi = (ahi hi n c).bind fun h => (ahi lo 0 h).bind fun l => some (.slice r (off + l * sz) (h - l) (c - l)) := rfl

theorem w64 {x : Int} (h : -9223372036854775808 ≤ x) (h' : x ≤ 9223372036854775807) : IntKind.i64.wrap x = x := IntWalk.i64_in x ⟨h, h'⟩
theorem wu32 {x : Int} (h : 0 ≤ x) (h' : x ≤ 4294967295) : IntKind.u32.wrap x = x := by rw [IntKind.wrap_u32]; omega
theorem wu64 {x : Int} (h : 0 ≤ x) (h' : x ≤ 18446744073709551615) : IntKind.u64.wrap x = x := by rw [IntKind.wrap_u64]; omega
theorem beqT {a b : Int} (h : a = b) : (a == b) = true := by simp [h]
theorem beqF {a b : Int} (h : a ≠ b) : (a == b) = false := by simp [h]
theorem bneT {a b : Int} (h : a ≠ b) : (a != b) = true := by simp [h]
theorem bneF {a b : Int} (h : a = b) : (a != b) = false := by simp [h]
theorem dT {p : Prop} [Decidable p] (h : p) : decide p = true := by simp [h]
theorem dF {p : Prop} [Decidable p] (h : ¬ p) : decide p = false := by simp [h]
theorem toNat_sub1 {n : Nat} (h : 0 < n) : ((n : Int) - 1).toNat = n - 1 := by omega
theorem nat_toNat {n : Nat} : ((n : Int)).toNat = n := by omega

/-- The end of a function, no row let go. -/
theorem ret_keep {n0 : Nat} {rs : List IRes} {R : AV → AHeap → Prop} {s : St} {H : AHeap} (h : H.length ≥ n0) (ht : thenR R H (ares s H rs)) : retPost n0 rs R .ret s H := ⟨s, H, Weak.refl, h, ht⟩
theorem loop_keep {n0 : Nat} {I : Nat → St → AHeap → Prop} {n m : Nat} {s : St} {H : AHeap} (h : m < n) (hi : I m s H) : loopPost n0 I n s H := ⟨s, H, Weak.refl, m, h, hi⟩
theorem q_tmp {s : St} {H : AHeap} {t : Nat} : ares s H [.tmp t] = some (s t) := rfl
theorem q_then {R : AV → AHeap → Prop} {H : AHeap} {v : AV} : thenR R H (some v) = R v H := rfl

theorem ACallsG.body {P : Program} {γ : Nat → AV} {f : FuncId} {fn : Func} {ir : IR} {rs : List IRes} {args : List AV} {H : AHeap} {R : AV → AHeap → Prop} (hf : P.funcs[f]? = some fn) (hent : enters P f = true)
    (hir : fn.body.bind (irOf P fn.ntmps) = some ir) (hrs : fn.results.toList.mapM (resOf P) = some rs) {N : Nat} (hN : fn.ntmps = N) (hargs : args.length ≤ N) {n0 : Nat} (hn : H.length = n0) (h : iwp P n0 ir (retPost n0 rs R) (s0G γ args) H) (hG : N ≤ 1048576 := by decide) :
    ACallsG P γ f args H (List.range n0) R := by
  obtain ⟨c, hc, hi⟩ := Option.bind_eq_some_iff.1 hir
  subst hN; subst hn
  exact ACallsG.intro hf hc hent hG hi hrs hargs h
theorem ACalls.body {P : Program} {f : FuncId} {fn : Func} {ir : IR} {rs : List IRes} {args : List AV} {H : AHeap} {R : AV → AHeap → Prop} (hf : P.funcs[f]? = some fn) (hent : enters P f = true)
    (hir : fn.body.bind (irOf P fn.ntmps) = some ir) (hrs : fn.results.toList.mapM (resOf P) = some rs) {N : Nat} (hN : fn.ntmps = N) (hargs : args.length ≤ N) {n0 : Nat} (hn : H.length = n0) (h : iwp P n0 ir (retPost n0 rs R) (s0 args) H) (hG : N ≤ 1048576 := by decide) :
    ACalls P f args H (List.range n0) R := ACallsG.body hf hent hir hrs hN hargs hn h hG
end Go.Vh
