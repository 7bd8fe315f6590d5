/- Conditions and guards, looked at before what hangs on them. -/
import Derived.Test.YtfedgjkcbmkjpaaVh28
namespace Go.Vh
open Go

def condF (K : Prop) : AV → Prop
  | .bool false => K
  | _ => False
def guardF (K : Prop) (want : Bool) : AV → Prop
  | .bool b => if b = want then False else K
  | .lit (.tuple _) => K
  | _ => False

section
variable {P : Program} {n0 : Nat} {Q : AExit → St → AHeap → Prop} {K : St → AHeap → Prop} {s : St} {H H0 : AHeap} {d : Option Nat}

theorem condPost_ite (K1 K0 : Prop) (v : AV) : condPost K1 K0 v = @ite Prop (v = .bool true) (Classical.propDecidable _) K1 (condF K0 v) := by
  by_cases h : v = .bool true
  · rw [if_pos h, h]; simp [condPost]
  · rw [if_neg h]
    cases v with
    | bool b => cases b <;> simp_all [condPost, condF]
    | _ => simp [condPost, condF]
theorem guardP_ite (K1 K0 : Prop) (want : Bool) (v : AV) : guardP K1 K0 want v = @ite Prop (v = .bool want) (Classical.propDecidable _) K1 (guardF K0 want v) := by
  by_cases h : v = .bool want
  · rw [if_pos h, h]; simp [guardP]
  · rw [if_neg h]
    cases v with
    | bool b => cases b <;> cases want <;> simp_all [guardP, guardF]
    | lit u => cases u <;> simp [guardP, guardF]
    | _ => simp [guardP, guardF]

theorem e_condI {c a b} : iwp P n0 (.cond c a b) Q s H = @ite Prop (evo s c = .bool true) (Classical.propDecidable _) (iwp P n0 a Q s H) (condF (iwp P n0 b Q s H) (evo s c)) := condPost_ite _ _ _
theorem e_consGI {t b o l} : iops P (⟨d, some (t, b), o⟩ :: l) K s H = @ite Prop (s t = .bool b) (Classical.propDecidable _) (iop P d o (iops P l K) s H) (guardF (iops P l K (putI d s unv) H) b (s t)) := guardP_ite _ _ _ _
theorem e_consDGI {t b o i m l} : iopsD P H0 (⟨⟨d, some (t, b), o⟩, i, m⟩ :: l) K s H = @ite Prop (s t = .bool b) (Classical.propDecidable _) (iopD P H0 m d o (iopsD P H0 l K) s H) (guardF (iopsD P H0 l K (putI d s unv) H) b (s t)) := guardP_ite _ _ _ _
theorem e_condFb {K : Prop} : condF K (.bool false) = K := rfl
theorem e_gTF {K : Prop} : guardF K true (.bool false) = K := by simp [guardF]
theorem e_gFT {K : Prop} : guardF K false (.bool true) = K := by simp [guardF]
theorem e_gU {K : Prop} {b} : guardF K b unv = K := rfl
theorem e_unv {b : Bool} : (unv = AV.bool b) = False := by simp [unv]
theorem e_bTT : (AV.bool true = AV.bool true) = True := by simp
theorem e_bFF : (AV.bool false = AV.bool false) = True := by simp
theorem e_bTF : (AV.bool true = AV.bool false) = False := by simp
theorem e_bFT : (AV.bool false = AV.bool true) = False := by simp
theorem e_beq1 {b : Bool} : (b == true) = b := by cases b <;> rfl
theorem e_beq2 {b : Bool} : (b == false) = !b := by cases b <;> rfl
end
end Go.Vh
