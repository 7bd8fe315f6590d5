/- The equations by which a proof goes through a function's code. -/
import Derived.Test.YtleicopofpompaaDoorVh12
set_option linter.unusedSimpArgs false
set_option linter.unusedVariables false
namespace Go.Vh
open Go

section
variable {P : Program} {n0 : Nat} {Q : AExit → St → AHeap → Prop} {K : St → AHeap → Prop} {s : St} {H H0 : AHeap} {d : Option Nat} {v : AV}
theorem e_skip : iwp P n0 .skip Q s H = Q .normal s H := rfl
theorem e_ops {l} : iwp P n0 (.ops l) Q s H = iops P l (Q .normal) s H := rfl
theorem e_dops {l} : iwp P n0 (.dops l) Q s H = iopsD P H l (Q .normal) s H := rfl
theorem e_tops {l} : iwp P n0 (.tops l) Q s H = iopsT P H l (Q .normal) s H := rfl
theorem e_tdone : iopsT P H0 .done K s H = K s H := rfl
theorem e_tsoft {x t} : iopsT P H0 (.soft x t) K s H = istepD P H0 x (iopsT P H0 t K) s H := rfl
theorem e_talt1 {x t} : iopsT P H0 (.alt x t .none) K s H = istepD P H0 x (iopsT P H0 t K) s H := rfl
theorem e_talt {x t x' t' r} : iopsT P H0 (.alt x t (.alt x' t' r)) K s H = (istepD P H0 x (iopsT P H0 t K) s H ∧ iopsT P H0 (.alt x' t' r) K s H) := rfl
theorem e_stepN {o i m} : istepD P H0 ⟨⟨d, none, o⟩, i, m⟩ K s H = iopD P H0 m d o K s H := rfl
theorem e_stepG {t b o i m} : istepD P H0 ⟨⟨d, some (t, b), o⟩, i, m⟩ K s H = guardP (iopD P H0 m d o K s H) (K (putI d s unv) H) b (s t) := rfl
theorem e_seq {a b} : iwp P n0 (.seq a b) Q s H = iwp P n0 a (seqPost (iwp P n0 b Q) Q) s H := rfl
theorem e_cond {c a b} : iwp P n0 (.cond c a b) Q s H = condPost (iwp P n0 a Q s H) (iwp P n0 b Q s H) (evo s c) := rfl
theorem e_block {id a} : iwp P n0 (.block id a) Q s H = iwp P n0 a (blockPost id Q) s H := rfl
theorem e_exit {id} : iwp P n0 (.exit id) Q s H = Q (.exit id) s H := rfl
theorem e_ret : iwp P n0 .ret Q s H = Q .ret s H := rfl
theorem e_seqN : seqPost K Q .normal s H = K s H := rfl
theorem e_seqE {i} : seqPost K Q (.exit i) s H = Q (.exit i) s H := rfl
theorem e_seqR : seqPost K Q .ret s H = Q .ret s H := rfl
theorem e_blockN {id} : blockPost id Q .normal s H = Q .normal s H := rfl
theorem e_blockR {id} : blockPost id Q .ret s H = Q .ret s H := rfl
theorem e_blockE {id i} : blockPost id Q (.exit i) s H = if i = id then Q .normal s H else Q (.exit i) s H := rfl
theorem e_condT {K1 K0 : Prop} : condPost K1 K0 (.bool true) = K1 := by simp [condPost]
theorem e_condF {K1 K0 : Prop} : condPost K1 K0 (.bool false) = K0 := by simp [condPost]
theorem e_condB {K1 K0 : Prop} {b} : condPost K1 K0 (.bool b) = if b = true then K1 else K0 := rfl
theorem e_nil : iops P [] K s H = K s H := rfl
theorem e_consN {o l} : iops P (⟨d, none, o⟩ :: l) K s H = iop P d o (iops P l K) s H := rfl
theorem e_consG {t b o l} : iops P (⟨d, some (t, b), o⟩ :: l) K s H = guardP (iop P d o (iops P l K) s H) (iops P l K (putI d s unv) H) b (s t) := rfl
theorem e_nilD : iopsD P H0 [] K s H = K s H := rfl
theorem e_consDN {o i m l} : iopsD P H0 (⟨⟨d, none, o⟩, i, m⟩ :: l) K s H = iopD P H0 m d o (iopsD P H0 l K) s H := rfl
theorem e_consDG {t b o i m l} : iopsD P H0 (⟨⟨d, some (t, b), o⟩, i, m⟩ :: l) K s H = guardP (iopD P H0 m d o (iopsD P H0 l K) s H) (iopsD P H0 l K (putI d s unv) H) b (s t) := rfl
theorem e_guardB {K1 K0 : Prop} {b c} : guardP K1 K0 c (.bool b) = if b = c then K1 else K0 := rfl
theorem e_guardTT {K1 K0 : Prop} : guardP K1 K0 true (.bool true) = K1 := by simp [guardP]
theorem e_guardTF {K1 K0 : Prop} : guardP K1 K0 true (.bool false) = K0 := by simp [guardP]
theorem e_guardFT {K1 K0 : Prop} : guardP K1 K0 false (.bool true) = K0 := by simp [guardP]
theorem e_guardFF {K1 K0 : Prop} : guardP K1 K0 false (.bool false) = K1 := by simp [guardP]
theorem e_guardU {K1 K0 : Prop} {c} : guardP K1 K0 c unv = K0 := rfl
theorem e_pure {p} : iop P d (.pure p) K s H = thenP K d s H (ipure p s) := rfl
theorem e_eff {e} : iop P d (.eff e) K s H = thenE K d s (ieff e s H) := rfl
theorem e_call {f args} : iop P d (.call f args) K s H = thenC P K d s H (args.map (evo s)) (evo s f) := rfl
theorem e_pureD {m p} : iopD P H0 m d (.pure p) K s H = thenP K d s H (ipure p s) := rfl
theorem e_effD1 {e} : iopD P H0 1 d (.eff e) K s H = thenL K d s H (ieff e s H0) := rfl
theorem e_effD2 {e} : iopD P H0 2 d (.eff e) K s H = thenE K d s (ieff e s H) := rfl
theorem e_effD3 {e} : iopD P H0 3 d (.eff e) K s H = thenE K d s (ieff e s H) := rfl
theorem e_callD2 {f args} : iopD P H0 2 d (.call f args) K s H = thenC0 P K d s H (args.map (evo s)) (evo s f) := rfl
theorem e_callD3 {f args} : iopD P H0 3 d (.call f args) K s H = thenC P K d s H (args.map (evo s)) (evo s f) := rfl
theorem e_thenP : thenP K d s H (some v) = K (putI d s v) H := rfl
theorem e_thenE {H'} : thenE K d s (some (v, H')) = K (putI d s v) H' := rfl
theorem e_thenL {H'} : thenL K d s H (some (v, H')) = K (putI d s v) H := rfl
theorem e_putS {d} : putI (some d) s v = upd s d v := rfl
theorem e_putN : putI none s v = s := rfl
theorem e_upd {d t} : upd s d v t = if t = d then v else s t := rfl
theorem e_t {t} : evo s (.t t) = s t := rfl
theorem e_c {v} : evo s (.c v) = v := rfl
theorem e_none {α β} {f : α → β} : Option.map f none = none := rfl
theorem e_some {α β} {f : α → β} {x} : Option.map f (some x) = some (f x) := rfl
theorem e_bindS {α β} {f : α → Option β} {x} : (some x).bind f = f x := rfl

theorem p_move {x} : ipure (.move x) s = some (evo s x) := rfl
theorem p_bin {op x y} : ipure (.bin op x y) s = abin op (evo s x) (evo s y) := rfl
theorem p_len {x} : ipure (.len x) s = (alen (evo s x)).map fun (n : Nat) => AV.int .i64 (n : Int) := rfl
theorem p_conv {k x} : ipure (.conv k x) s = (match evo s x with | .int _ n => some (.int k (k.wrap n)) | _ => none) := rfl
theorem p_pick {c x y} : ipure (.pick c x y) s = (match evo s c with | .bool true => some (evo s x) | .bool false => some (evo s y) | _ => none) := rfl
theorem p_indexAddr {sz x i} : ipure (.indexAddr sz x i) s = aindexAddr sz (evo s x) (evo s i) := rfl
theorem p_slice {sz x lo hi} : ipure (.slice sz x lo hi) s = aslice sz (evo s x) (lo.map (evo s)) (hi.map (evo s)) := rfl
theorem p_extract {x i} : ipure (.extract x i) s = (match evo s x with | .tuple l => l[i]? | _ => none) := rfl
theorem p_not {x} : ipure (.not x) s = (match evo s x with | .bool b => some (.bool !b) | _ => none) := rfl

theorem b_add {k a b} : abin .add (.int k a) (.int k b) = some (.int k (k.wrap (a + b))) := by simp [abin, aint]
theorem b_sub {k a b} : abin .sub (.int k a) (.int k b) = some (.int k (k.wrap (a - b))) := by simp [abin, aint]
theorem b_mul {k a b} : abin .mul (.int k a) (.int k b) = some (.int k (k.wrap (a * b))) := by simp [abin, aint]
theorem b_eql {k a b} : abin .eql (.int k a) (.int k b) = some (.bool (a == b)) := by simp [abin, aint]
theorem b_neq {k a b} : abin .neq (.int k a) (.int k b) = some (.bool (a != b)) := by simp [abin, aint]
theorem b_lss {k a b} : abin .lss (.int k a) (.int k b) = some (.bool (decide (a < b))) := by simp [abin, aint]
theorem b_leq {k a b} : abin .leq (.int k a) (.int k b) = some (.bool (decide (a ≤ b))) := by simp [abin, aint]
theorem b_gtr {k a b} : abin .gtr (.int k a) (.int k b) = some (.bool (decide (b < a))) := by simp [abin, aint]
theorem b_geq {k a b} : abin .geq (.int k a) (.int k b) = some (.bool (decide (b ≤ a))) := by simp [abin, aint]

theorem l_nil : alen .nilslice = some 0 := rfl
theorem l_slice {r o n c} : alen (.slice r o n c) = some n := rfl
theorem l_sliceU {r o n c} : alen (.sliceU r o n c) = some n := rfl

theorem x_load1 {x} : ieff (.load1 x) s H = (match evo s x with | .ptr r off => ((rowAt H r).bind fun row => row.cells[off]?).map fun v => (v, H) | _ => none) := rfl
end
end Go.Vh
