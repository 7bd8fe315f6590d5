/- Structs, boxed variables, closed values: equations; calls that leave nothing behind. -/
import Derived.Test.YthbhljolpnbdlaaV8
import Derived.Test.YthbhljolpnbdlaaV7
import Derived.Deep.Grids
set_option linter.unusedSimpArgs false
set_option linter.unusedVariables false
namespace Go.Vh
open Go

mutual
theorem AV.ren_under0 {σ : Sig} : ∀ {v : AV}, v.under 0 = true → v.ren σ = v
  | .ptr _ _, h => by simp [AV.under] at h
  | .slice _ _ _ _, h => by simp [AV.under] at h
  | .sliceU _ _ _ _, h => by simp [AV.under] at h
  | .func f l, h => by simp only [AV.under] at h; rw [AV.ren, renL_under0 h]
  | .bound f k l, h => by simp only [AV.under, Bool.and_eq_true] at h; rw [AV.ren, renL_under0 h.1, renL_under0 h.2]
  | .agg l, h => by simp only [AV.under] at h; rw [AV.ren, renL_under0 h]
  | .tuple l, h => by simp only [AV.under] at h; rw [AV.ren, renL_under0 h]
  | .iface t v, h => by simp only [AV.under] at h; rw [AV.ren, AV.ren_under0 h]
  | .yld _, h => by simp [AV.under] at h
  | .any, h => by simp [AV.under] at h
  | .bool _, _ => rfl
  | .int _ _, _ => rfl
  | .str _, _ => rfl
  | .lit _, _ => rfl
  | .nilptr, _ => rfl
  | .nilslice, _ => rfl
theorem renL_under0 {σ : Sig} : ∀ {l : List AV}, underL 0 l = true → renL σ l = l
  | [], _ => rfl
  | v :: l, h => by
    simp only [underL, Bool.and_eq_true] at h
    rw [renL, AV.ren_under0 h.1, renL_under0 h.2]
end

theorem VRel.closed {ρ ρ' : RMap} {v : AV} {v' : Value} (h : v.under 0 = true) (hr : VRel ρ v v') : VRel ρ' v v' :=
  VRel.back (σ := fun i => some (i, 0)) (n := 0) (fun i hi => by omega) h (by rw [AV.ren_under0 h]; exact hr)

theorem Sim.none {B : Nat} {ex : Nat → Prop} {ρ : RMap} {w : World} (h : ∀ r, ρ r = .none) : Sim B ex ρ [] w :=
  ⟨fun r _ => h r, fun r row hr => by simp [rowAt] at hr, fun r row x hr => by simp [rowAt] at hr, fun r row x hr => by simp [rowAt] at hr, fun r r' row row' x x' hr => by simp [rowAt] at hr, fun r row x hr => by simp [rowAt] at hr⟩

section
variable {P : Program} {f : FuncId} {W0 : List Nat} {K : St → AHeap → Prop} {d : Option Nat} {s : St} {H : AHeap} {args caps : List AV} {c : AV}
end

section
variable {s : St} {H : AHeap}
theorem p_fieldAddr {off x} : ipure (.fieldAddr off x) s = (match evo s x with | .ptr r o => some (.ptr r (o + off)) | _ => none) := rfl
theorem p_nilCheck {x} : ipure (.nilCheck x) s = (match evo s x with | .ptr r o => some (.ptr r o) | .func f l => some (.func f l) | .bound f k l => some (.bound f k l) | .iface t v => some (.iface t v) | _ => none) := rfl
theorem p_makeFunc {f caps} : ipure (.makeFunc f caps) s = some (.func f (caps.map (evo s))) := rfl
end

theorem q_tmp2 {s : St} {H : AHeap} {a b : Nat} : ares s H [.tmp a, .tmp b] = some (.tuple [s a, s b]) := rfl
end Go.Vh


/- What a law's row asks behind the call, its closed facts as one test. -/
namespace Go.Vh
open Go Go.ChangeShapes Go.WideShapes Go.RowKit Go.ChangeAt

def rowOK (P : Program) (f : Func) : Bool := laidOutB P && f.params.toList.all fun t => P.readableRec t && decide (t < P.types.size)

theorem law_post' {P : Program} {H : Type} {enc : TypeId × Value → H} {f : Func} {s : ChangeSpec} {W W' : World} {args : Array Value} {ds : List (DataW H)} {before : List MemPlace} {tb : TypeId}
    (hok : rowOK P f = true) (hr : f.resultTypes = #[tb]) (htb : P.underlying tb = some .bool)
    (hs : (s.fn H ds).results = [.lit (.bool true)]) (hsa : (s.fn H ds).args = ds) (hsv : (s.fn H ds).vars = []) (hv : s.vars = [])
    (hW : DataW.Whole enc P f.params.toList s.vars false W args.toList ds [] before) (hf : Frm W.heap.size (fun _ => False) W W') : s.post enc P f false true false false W args (.bool true) W' := by
  simp only [rowOK, Bool.and_eq_true, List.all_eq_true, decide_eq_true_eq] at hok
  exact law_post hok.1 hok.2 hr htb hs hsa hsv hv hW hf
end Go.Vh


/- Conditions and guards, looked at before what hangs on them. -/
namespace Go.Vh
open Go

def condF (K : Prop) : AV → Prop
  | .bool false => K
  | _ => False
def guardF (K : Prop) (want : Bool) : AV → Prop
  | .bool b => if b = want then False else K
  | .lit (.tuple _) => K
  | _ => False

section
variable {P : Program} {n0 : Nat} {Q : AExit → St → AHeap → Prop} {K : St → AHeap → Prop} {s : St} {H H0 : AHeap} {d : Option Nat}

theorem condPost_ite (K1 K0 : Prop) (v : AV) : condPost K1 K0 v = @ite Prop (v = .bool true) (Classical.propDecidable _) K1 (condF K0 v) := by
  by_cases h : v = .bool true
  · rw [if_pos h, h]; simp [condPost]
  · rw [if_neg h]
    cases v with
    | bool b => cases b <;> simp_all [condPost, condF]
    | _ => simp [condPost, condF]
theorem guardP_ite (K1 K0 : Prop) (want : Bool) (v : AV) : guardP K1 K0 want v = @ite Prop (v = .bool want) (Classical.propDecidable _) K1 (guardF K0 want v) := by
  by_cases h : v = .bool want
  · rw [if_pos h, h]; simp [guardP]
  · rw [if_neg h]
    cases v with
    | bool b => cases b <;> cases want <;> simp_all [guardP, guardF]
    | lit u => cases u <;> simp [guardP, guardF]
    | _ => simp [guardP, guardF]

theorem e_condI {c a b} : iwp P n0 (.cond c a b) Q s H = @ite Prop (evo s c = .bool true) (Classical.propDecidable _) (iwp P n0 a Q s H) (condF (iwp P n0 b Q s H) (evo s c)) := condPost_ite _ _ _
theorem e_consGI {t b o l} : iops P (⟨d, some (t, b), o⟩ :: l) K s H = @ite Prop (s t = .bool b) (Classical.propDecidable _) (iop P d o (iops P l K) s H) (guardF (iops P l K (putI d s unv) H) b (s t)) := guardP_ite _ _ _ _
theorem e_consDGI {t b o i m l} : iopsD P H0 (⟨⟨d, some (t, b), o⟩, i, m⟩ :: l) K s H = @ite Prop (s t = .bool b) (Classical.propDecidable _) (iopD P H0 m d o (iopsD P H0 l K) s H) (guardF (iopsD P H0 l K (putI d s unv) H) b (s t)) := guardP_ite _ _ _ _
theorem e_condFb {K : Prop} : condF K (.bool false) = K := rfl
theorem e_gTF {K : Prop} : guardF K true (.bool false) = K := by simp [guardF]
theorem e_gFT {K : Prop} : guardF K false (.bool true) = K := by simp [guardF]
theorem e_gU {K : Prop} {b} : guardF K b unv = K := rfl
theorem e_unv {b : Bool} : (unv = AV.bool b) = False := by simp [unv]
theorem e_bTT : (AV.bool true = AV.bool true) = True := by simp
theorem e_bFF : (AV.bool false = AV.bool false) = True := by simp
theorem e_bTF : (AV.bool true = AV.bool false) = False := by simp
theorem e_bFT : (AV.bool false = AV.bool true) = False := by simp
theorem e_beq1 {b : Bool} : (b == true) = b := by cases b <;> rfl
theorem e_beq2 {b : Bool} : (b == false) = !b := by cases b <;> rfl
end
end Go.Vh


/- The equations of a walk with conditions looked at first, as one. -/
namespace Go.Vh
open Go
theorem sN : type_of% (And.intro (And.intro (And.intro (And.intro (And.intro (And.intro (@e_skip) (And.intro (@e_ops) (@e_dops))) (And.intro (@e_seq) (And.intro (@e_condI) (@e_condFb)))) (And.intro (And.intro (@e_gTF) (And.intro (@e_gFT) (@e_gU))) (And.intro (@e_unv) (And.intro (@e_bTT) (@e_bFF))))) (And.intro (And.intro (And.intro (@e_bTF) (And.intro (@e_bFT) (@e_beq1))) (And.intro (@e_beq2) (And.intro (@Bool.not_true) (@Bool.not_false)))) (And.intro (And.intro (@e_block) (And.intro (@e_exit) (@e_ret))) (And.intro (@e_seqN) (And.intro (@e_seqE) (@e_seqR)))))) (And.intro (And.intro (And.intro (And.intro (@e_blockN) (And.intro (@e_blockR) (@e_blockE))) (And.intro (@e_nil) (And.intro (@e_consN) (@e_consGI)))) (And.intro (And.intro (@e_nilD) (And.intro (@e_consDN) (@e_consDGI))) (And.intro (@e_pure) (And.intro (@e_eff) (@e_call))))) (And.intro (And.intro (And.intro (@e_pureD) (And.intro (@e_effD1) (@e_effD2))) (And.intro (@e_effD3) (And.intro (@e_callD2) (@e_callD3)))) (And.intro (And.intro (@e_thenP) (And.intro (@e_thenE) (@e_thenL))) (And.intro (And.intro (@e_putS) (@e_putN)) (And.intro (@e_upd) (@e_t))))))) (And.intro (And.intro (And.intro (And.intro (And.intro (@e_c) (And.intro (@p_move) (@p_bin))) (And.intro (@p_len) (And.intro (@p_conv) (@p_pick)))) (And.intro (And.intro (@p_indexAddr) (And.intro (@p_slice) (@p_extract))) (And.intro (@p_not) (And.intro (@b_add) (@b_sub))))) (And.intro (And.intro (And.intro (@b_mul) (And.intro (@b_eql) (@b_neq))) (And.intro (@b_lss) (And.intro (@b_leq) (@b_gtr)))) (And.intro (And.intro (@b_geq) (And.intro (@l_nil) (@l_slice))) (And.intro (And.intro (@l_sliceU) (@x_load1)) (And.intro (@Nat.zero_add) (@Nat.add_zero)))))) (And.intro (And.intro (And.intro (And.intro (@Nat.mul_one) (And.intro (@w64) (@wu32))) (And.intro (@wu64) (And.intro (@beqT) (@beqF)))) (And.intro (And.intro (@bneT) (And.intro (@bneF) (@dT))) (And.intro (@dF) (And.intro (@a_idx) (@a_idxU))))) (And.intro (And.intro (And.intro (@a_hi) (And.intro (@a_hiN) (@a_sl))) (And.intro (@r_ro0) (And.intro (@r_rw0) (@r_sl0)))) (And.intro (And.intro (@r_succ) (And.intro (@ints_get) (@toNat_sub1))) (And.intro (And.intro (@nat_toNat) (@Nat.add_sub_cancel)) (And.intro (@q_tmp) (@q_then)))))))) := And.intro (And.intro (And.intro (And.intro (And.intro (And.intro (@e_skip) (And.intro (@e_ops) (@e_dops))) (And.intro (@e_seq) (And.intro (@e_condI) (@e_condFb)))) (And.intro (And.intro (@e_gTF) (And.intro (@e_gFT) (@e_gU))) (And.intro (@e_unv) (And.intro (@e_bTT) (@e_bFF))))) (And.intro (And.intro (And.intro (@e_bTF) (And.intro (@e_bFT) (@e_beq1))) (And.intro (@e_beq2) (And.intro (@Bool.not_true) (@Bool.not_false)))) (And.intro (And.intro (@e_block) (And.intro (@e_exit) (@e_ret))) (And.intro (@e_seqN) (And.intro (@e_seqE) (@e_seqR)))))) (And.intro (And.intro (And.intro (And.intro (@e_blockN) (And.intro (@e_blockR) (@e_blockE))) (And.intro (@e_nil) (And.intro (@e_consN) (@e_consGI)))) (And.intro (And.intro (@e_nilD) (And.intro (@e_consDN) (@e_consDGI))) (And.intro (@e_pure) (And.intro (@e_eff) (@e_call))))) (And.intro (And.intro (And.intro (@e_pureD) (And.intro (@e_effD1) (@e_effD2))) (And.intro (@e_effD3) (And.intro (@e_callD2) (@e_callD3)))) (And.intro (And.intro (@e_thenP) (And.intro (@e_thenE) (@e_thenL))) (And.intro (And.intro (@e_putS) (@e_putN)) (And.intro (@e_upd) (@e_t))))))) (And.intro (And.intro (And.intro (And.intro (And.intro (@e_c) (And.intro (@p_move) (@p_bin))) (And.intro (@p_len) (And.intro (@p_conv) (@p_pick)))) (And.intro (And.intro (@p_indexAddr) (And.intro (@p_slice) (@p_extract))) (And.intro (@p_not) (And.intro (@b_add) (@b_sub))))) (And.intro (And.intro (And.intro (@b_mul) (And.intro (@b_eql) (@b_neq))) (And.intro (@b_lss) (And.intro (@b_leq) (@b_gtr)))) (And.intro (And.intro (@b_geq) (And.intro (@l_nil) (@l_slice))) (And.intro (And.intro (@l_sliceU) (@x_load1)) (And.intro (@Nat.zero_add) (@Nat.add_zero)))))) (And.intro (And.intro (And.intro (And.intro (@Nat.mul_one) (And.intro (@w64) (@wu32))) (And.intro (@wu64) (And.intro (@beqT) (@beqF)))) (And.intro (And.intro (@bneT) (And.intro (@bneF) (@dT))) (And.intro (@dF) (And.intro (@a_idx) (@a_idxU))))) (And.intro (And.intro (And.intro (@a_hi) (And.intro (@a_hiN) (@a_sl))) (And.intro (@r_ro0) (And.intro (@r_rw0) (@r_sl0)))) (And.intro (And.intro (@r_succ) (And.intro (@ints_get) (@toNat_sub1))) (And.intro (And.intro (@nat_toNat) (@Nat.add_sub_cancel)) (And.intro (@q_tmp) (@q_then)))))))
end Go.Vh


/- Rows of bools. -/
namespace Go.Vh
open Go

/-- n bools. -/
def bt (n : Nat) (f : Nat → Bool) : List AV := (List.range n).map fun i => AV.bool (f i)

theorem bt_length {n f} : (bt n f).length = n := by simp [bt]
theorem bt_get {n f i} (h : i < n) : (bt n f)[i]? = some (.bool (f i)) := by simp [bt, h]
section
variable {s : St} {H : AHeap}
end

section
variable {P : Program} {f : FuncId} {W0 : List Nat} {K : St → AHeap → Prop} {d : Option Nat} {s : St} {H : AHeap} {args caps rest : List AV} {κ κ' : SK} {n n' m m' : Nat} {g g' : Nat → Bool} {a b da db : Nat} {ra rb : ARow}

end
end Go.Vh

