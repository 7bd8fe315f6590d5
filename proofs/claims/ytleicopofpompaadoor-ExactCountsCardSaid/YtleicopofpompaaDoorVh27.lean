/- Structs, boxed variables, closed values: equations; calls that leave nothing behind. -/
import Derived.Test.YtleicopofpompaaDoorVh25
set_option linter.unusedSimpArgs false
set_option linter.unusedVariables false
namespace Go.Vh
open Go

mutual
theorem AV.ren_under0 {σ : Sig} : ∀ {v : AV}, v.under 0 = true → v.ren σ = v
  | .ptr _ _, h => by simp [AV.under] at h
  | .slice _ _ _ _, h => by simp [AV.under] at h
  | .sliceU _ _ _ _, h => by simp [AV.under] at h
  | .func f l, h => by simp only [AV.under] at h; rw [AV.ren, renL_under0 h]
  | .bound f k l, h => by simp only [AV.under, Bool.and_eq_true] at h; rw [AV.ren, renL_under0 h.1, renL_under0 h.2]
  | .agg l, h => by simp only [AV.under] at h; rw [AV.ren, renL_under0 h]
  | .tuple l, h => by simp only [AV.under] at h; rw [AV.ren, renL_under0 h]
  | .iface t v, h => by simp only [AV.under] at h; rw [AV.ren, AV.ren_under0 h]
  | .any, h => by simp [AV.under] at h
  | .bool _, _ => rfl
  | .int _ _, _ => rfl
  | .str _, _ => rfl
  | .lit _, _ => rfl
  | .nilptr, _ => rfl
  | .nilslice, _ => rfl
theorem renL_under0 {σ : Sig} : ∀ {l : List AV}, underL 0 l = true → renL σ l = l
  | [], _ => rfl
  | v :: l, h => by
    simp only [underL, Bool.and_eq_true] at h
    rw [renL, AV.ren_under0 h.1, renL_under0 h.2]
end

theorem VRel.closed {ρ ρ' : RMap} {v : AV} {v' : Value} (h : v.under 0 = true) (hr : VRel ρ v v') : VRel ρ' v v' :=
  VRel.back (σ := fun i => some (i, 0)) (n := 0) (fun i hi => by omega) h (by rw [AV.ren_under0 h]; exact hr)

theorem Sim.none {B : Nat} {ex : Nat → Prop} {ρ : RMap} {w : World} (h : ∀ r, ρ r = .none) : Sim B ex ρ [] w :=
  ⟨fun r _ => h r, fun r row hr => by simp [rowAt] at hr, fun r row x hr => by simp [rowAt] at hr, fun r row x hr => by simp [rowAt] at hr, fun r r' row row' x x' hr => by simp [rowAt] at hr, fun r row x hr => by simp [rowAt] at hr⟩

/-- A call whose answer names no row leaves nothing. -/
theorem ACalls.trim {P : Program} {f : FuncId} {args : List AV} {W : List Nat} {R : AV → AHeap → Prop} (h : ACalls P f args [] W R) (hu : ∀ v H', R v H' → v.under 0 = true) : ACalls P f args [] [] fun v H1 => (∃ H', R v H') ∧ H1 = [] := by
  refine ⟨h.ent, fun ρ w vs hs hv hg => (h.calls ρ w vs hs hv hg).mono fun e w' ⟨v, v', ρ', H', he, hR, hle, hrel, hsim, hfrm, hlen⟩ => ?_⟩
  refine ⟨v, v', ρ, [], he, ⟨⟨H', hR⟩, rfl⟩, RMap.le_refl _, hrel.closed (hu _ _ hR), Sim.none fun r => hs.dom r (Nat.zero_le _), ⟨hfrm.os, hfrm.tape, hfrm.output, hfrm.size, fun k hk _ => hfrm.block k hk ?_⟩, Nat.le_refl _⟩
  rintro ⟨r, row, x, _, hr, _⟩
  simp [rowAt] at hr
theorem ACalls.trim1 {P : Program} {f : FuncId} {args : List AV} {W : List Nat} {c : AV} (h : ACalls P f args [] W fun v _ => v = c) (hu : c.under 0 = true) : ACalls P f args [] [] fun v H1 => v = c ∧ H1 = [] :=
  (h.trim fun v _ e => by rw [e]; exact hu).mono fun _ _ ⟨⟨_, h1⟩, h2⟩ => ⟨h1, h2⟩

section
variable {P : Program} {f : FuncId} {W0 : List Nat} {K : St → AHeap → Prop} {d : Option Nat} {s : St} {H : AHeap} {args caps : List AV} {c : AV}
theorem call_cl {args0 : List AV} (h : ACalls P f args0 [] W0 fun v H => v = c ∧ H = []) (hu : underL 0 args0 = true) (hargs : args ++ caps = args0) (hc : c.under 0 = true) (hK : K (putI d s c) H) : thenC P K d s H args (.func f caps) := by
  exact call_pure h hu hargs (renL_under0 hu) (fun v0 ⟨e, _⟩ => by subst e; rw [AV.ren_under0 hc]; exact hK) fun _ _ h => h.2
theorem call_cl0 {args0 : List AV} (h : ACalls P f args0 [] W0 fun v H => v = c ∧ H = []) (hu : underL 0 args0 = true) (hargs : args ++ caps = args0) (hc : c.under 0 = true) (hK : K (putI d s c) H) : thenC0 P K d s H args (.func f caps) := by
  exact call_pure0 h hu hargs (renL_under0 hu) (fun v0 ⟨e, _⟩ => by subst e; rw [AV.ren_under0 hc]; exact hK) fun _ _ h => h.2
end

section
variable {s : St} {H : AHeap}
theorem p_field {off n agg x} : ipure (.field off n agg x) s = (match evo s x with | .agg l => if agg then (if off + n ≤ l.length then some (.agg ((l.drop off).take n)) else none) else l[off]? | _ => none) := rfl
theorem p_fieldAddr {off x} : ipure (.fieldAddr off x) s = (match evo s x with | .ptr r o => some (.ptr r (o + off)) | _ => none) := rfl
theorem p_nilCheck {x} : ipure (.nilCheck x) s = (match evo s x with | .ptr r o => some (.ptr r o) | .func f l => some (.func f l) | .bound f k l => some (.bound f k l) | .iface t v => some (.iface t v) | _ => none) := rfl
theorem p_build {zero parts} : ipure (.build zero parts) s = (afill zero (parts.map fun (o, n, x) => (o, n, evo s x))).map AV.agg := rfl
theorem p_eqPtr {neg x y} : ipure (.eqPtr neg x y) s = (aptr (evo s x) (evo s y)).map fun b => AV.bool (if neg then !b else b) := rfl
theorem p_binB {neg x y} : ipure (.binB neg x y) s = (match evo s x, evo s y with | .bool a, .bool b => some (.bool (if neg then !(a == b) else a == b)) | _, _ => none) := rfl
theorem p_lenStr {x} : ipure (.lenStr x) s = (match evo s x with | .str b => some (.int .i64 b.size) | _ => none) := rfl
theorem p_makeFunc {f caps} : ipure (.makeFunc f caps) s = some (.func f (caps.map (evo s))) := rfl
theorem p_makeBound {f first caps} : ipure (.makeBound f first caps) s = some (.bound f (first.map (evo s)) (caps.map (evo s))) := rfl
theorem x_alloc {z} : ieff (.alloc z) s H = (anew H false z).map fun H' => (.ptr H.length 0, H') := rfl
theorem x_box {x} : ieff (.box x) s H = (anew H false (aparts (evo s x))).map fun H' => (.ptr H.length 0, H') := rfl
theorem x_loadN {n x} : ieff (.loadN n x) s H = (match evo s x with | .ptr r off => (cellsAt H r off n).map fun l => (.agg l, H) | _ => none) := rfl
theorem x_put {n x v} : ieff (.store n x v) s H = (match evo s x with | .ptr r off => if (aparts (evo s v)).length = n then (aput H r off (aparts (evo s v))).map fun H' => (.any, H') else none | _ => none) := rfl
end

theorem q_tmp2 {s : St} {H : AHeap} {a b : Nat} : ares s H [.tmp a, .tmp b] = some (.tuple [s a, s b]) := rfl
/-- A law of one answer, and a heap. -/
theorem ret_val {n0 : Nat} {rs : List IRes} {s : St} {H : AHeap} {c v : AV} (h : H.length ≥ n0) (hv : ares s H rs = some v) (hc : v = c) : retPost n0 rs (fun v _ => v = c) .ret s H := by
  refine ret_keep h ?_
  rw [hv]; exact hc
theorem ret_both {n0 : Nat} {rs : List IRes} {s : St} {H H' : AHeap} {c v : AV} (h : H.length ≥ n0) (hv : ares s H rs = some v) (hc : v = c) (hH : H = H') : retPost n0 rs (fun v H => v = c ∧ H = H') .ret s H := by
  refine ret_keep h ?_
  rw [hv]; exact ⟨hc, hH⟩

theorem abits_xor {x y : Nat} (hx : x < 2 ^ 64) (hy : y < 2 ^ 64) : abits .xor .u64 x y = ((x ^^^ y : Nat) : Int) := by
  have h : x ^^^ y < 2 ^ 64 := Nat.xor_lt_two_pow hx hy
  show IntKind.u64.wrap ((BitVec.ofInt 64 (x : Int) ^^^ BitVec.ofInt 64 (y : Int)).toNat : Int) = _
  rw [BitVec.ofInt_natCast, BitVec.ofInt_natCast, BitVec.toNat_xor, BitVec.toNat_ofNat, BitVec.toNat_ofNat, Nat.mod_eq_of_lt hx, Nat.mod_eq_of_lt hy, IntKind.wrap_u64]
  omega
theorem abits_and {x y : Nat} (hx : x < 2 ^ 64) (hy : y < 2 ^ 64) : abits .and .u64 x y = ((x &&& y : Nat) : Int) := by
  have h : x &&& y < 2 ^ 64 := Nat.and_lt_two_pow x hy
  show IntKind.u64.wrap ((BitVec.ofInt 64 (x : Int) &&& BitVec.ofInt 64 (y : Int)).toNat : Int) = _
  rw [BitVec.ofInt_natCast, BitVec.ofInt_natCast, BitVec.toNat_and, BitVec.toNat_ofNat, BitVec.toNat_ofNat, Nat.mod_eq_of_lt hx, Nat.mod_eq_of_lt hy, IntKind.wrap_u64]
  omega
theorem b_xor {x y : Nat} (hx : x < 2 ^ 64) (hy : y < 2 ^ 64) : abin .xor (.int .u64 x) (.int .u64 y) = some (.int .u64 ((x ^^^ y : Nat) : Int)) := by
  simp only [abin, aint, if_true, abits_xor hx hy]
theorem b_and1 {x : Nat} (hx : x < 2 ^ 64) : abin .and (.int .u64 x) (.int .u64 1) = some (.int .u64 ((x % 2 : Nat) : Int)) := by
  have := abits_and hx (show (1 : Nat) < 2 ^ 64 by decide)
  rw [Nat.and_one_is_mod] at this
  simp only [abin, aint, if_true]
  rw [show abits .and .u64 (x : Int) 1 = abits .and .u64 (x : Int) ((1 : Nat) : Int) from rfl, this]
theorem b_shrN {k' : IntKind} {x n : Nat} (hx : x < 2 ^ 64) : abin .shr (.int .u64 x) (.int k' n) = some (.int .u64 ((x / 2 ^ n : Nat) : Int)) := by
  have h2 : (0 : Int) < 2 ^ (min n 64) := Int.pow_pos (by decide)
  have e : min ((n : Int)).toNat IntKind.u64.bits = min n 64 := by simp [IntKind.bits]
  simp only [abin, ashift]
  rw [if_neg (by omega), e, Int.fdiv_eq_ediv_of_nonneg _ (by omega)]
  congr 2
  rcases Nat.le_total n 64 with h | h
  · rw [Nat.min_eq_left h]; simp
  · rw [Nat.min_eq_right h]
    have h3 : x / 2 ^ n = 0 := Nat.div_eq_of_lt (Nat.lt_of_lt_of_le hx (Nat.pow_le_pow_right (by decide) h))
    rw [h3]
    have : ((x : Int) / 2 ^ 64) = 0 := by omega
    exact this
theorem b_shlN {k' : IntKind} {x n : Nat} (h : x * 2 ^ n < 2 ^ 64) (hn : n ≤ 64) : abin .shl (.int .u64 x) (.int k' n) = some (.int .u64 ((x * 2 ^ n : Nat) : Int)) := by
  rw [b_shl (k := .u64) (by simpa [IntKind.bits] using hn)]
  congr 2
  rw [IntKind.wrap_u64]
  have e : ((x * 2 ^ n : Nat) : Int) = (x : Int) * 2 ^ n := by simp
  rw [← e]
  omega
end Go.Vh
