/- A runner that keeps its state in full and lets rows go. -/
import Derived.Test.YthbhljolpnbdlaaRC
set_option linter.unusedSimpArgs false
set_option linter.unusedVariables false
namespace Go.Vh
open Go

/-! ### What is held is held in full -/
section force
variable {α : Type}
def fNat (n : Nat) (k : Nat → α) : α := match n with
  | 0 => k 0
  | m + 1 => k (m + 1)
theorem fNat_eq {n : Nat} {k : Nat → α} : fNat n k = k n := by cases n <;> rfl
def fInt (x : Int) (k : Int → α) : α := match x with
  | .ofNat n => fNat n fun n => k (.ofNat n)
  | .negSucc n => fNat n fun n => k (.negSucc n)
theorem fInt_eq {x : Int} {k : Int → α} : fInt x k = k x := by cases x <;> simp [fInt, fNat_eq]
def fBool (b : Bool) (k : Bool → α) : α := match b with
  | true => k true
  | false => k false
theorem fBool_eq {b : Bool} {k : Bool → α} : fBool b k = k b := by cases b <;> rfl

mutual
def fAV : AV → (AV → α) → α
  | .any, k => k .any
  | .bool b, k => fBool b fun b => k (.bool b)
  | .int κ n, k => fInt n fun n => k (.int κ n)
  | .str s, k => k (.str s)
  | .lit v, k => k (.lit v)
  | .nilptr, k => k .nilptr
  | .ptr r o, k => fNat r fun r => fNat o fun o => k (.ptr r o)
  | .nilslice, k => k .nilslice
  | .slice r o n c, k => fNat r fun r => fNat o fun o => fNat n fun n => fNat c fun c => k (.slice r o n c)
  | .sliceU r o n z, k => fNat r fun r => fNat o fun o => fNat n fun n => fNat z fun z => k (.sliceU r o n z)
  | .func f l, k => fNat f fun f => fAVL l fun l => k (.func f l)
  | .bound f a b, k => fNat f fun f => fAVL a fun a => fAVL b fun b => k (.bound f a b)
  | .agg l, k => fAVL l fun l => k (.agg l)
  | .tuple l, k => fAVL l fun l => k (.tuple l)
  | .iface t v, k => fAV v fun v => k (.iface t v)
  | .yld r, k => fNat r fun r => k (.yld r)
def fAVL : List AV → (List AV → α) → α
  | [], k => k []
  | v :: l, k => fAV v fun v => fAVL l fun l => k (v :: l)
end
mutual
theorem fAV_eq : ∀ (v : AV) (k : AV → α), fAV v k = k v
  | .any, k => rfl
  | .bool b, k => by simp only [fAV, fBool_eq]
  | .int κ n, k => by simp only [fAV, fInt_eq]
  | .str s, k => rfl
  | .lit v, k => rfl
  | .nilptr, k => rfl
  | .ptr r o, k => by simp only [fAV, fNat_eq]
  | .nilslice, k => rfl
  | .slice r o n c, k => by simp only [fAV, fNat_eq]
  | .sliceU r o n z, k => by simp only [fAV, fNat_eq]
  | .func f l, k => by simp only [fAV, fNat_eq]; exact fAVL_eq l _
  | .bound f a b, k => by simp only [fAV, fNat_eq]; rw [fAVL_eq a]; exact fAVL_eq b _
  | .agg l, k => by simp only [fAV]; exact fAVL_eq l _
  | .tuple l, k => by simp only [fAV]; exact fAVL_eq l _
  | .iface t v, k => by simp only [fAV]; exact fAV_eq v _
  | .yld r, k => by simp only [fAV, fNat_eq]
theorem fAVL_eq : ∀ (l : List AV) (k : List AV → α), fAVL l k = k l
  | [], k => rfl
  | v :: l, k => by simp only [fAVL]; rw [fAV_eq v]; exact fAVL_eq l _
end
def fHeap : AHeap → (AHeap → α) → α
  | [], k => k []
  | none :: H, k => fHeap H fun H => k (none :: H)
  | some ⟨o, s, c⟩ :: H, k => fBool o fun o => fBool s fun s => fAVL c fun c => fHeap H fun H => k (some ⟨o, s, c⟩ :: H)
theorem fHeap_eq : ∀ (H : AHeap) (k : AHeap → α), fHeap H k = k H
  | [], k => rfl
  | none :: H, k => by simp only [fHeap]; exact fHeap_eq H _
  | some ⟨o, s, c⟩ :: H, k => by simp only [fHeap, fBool_eq]; rw [fAVL_eq c]; exact fHeap_eq H _
def fRes (r : List AV × AHeap) (k : List AV → AHeap → α) : α := fAVL r.1 fun l => fHeap r.2 fun H => k l H
theorem fRes_eq {r : List AV × AHeap} {k : List AV → AHeap → α} : fRes r k = k r.1 r.2 := by
  unfold fRes; rw [fAVL_eq, fHeap_eq]
def fNatL : List Nat → (List Nat → α) → α
  | [], k => k []
  | n :: l, k => fNat n fun n => fNatL l fun l => k (n :: l)
theorem fNatL_eq : ∀ (l : List Nat) (k : List Nat → α), fNatL l k = k l
  | [], k => rfl
  | n :: l, k => by simp only [fNatL, fNat_eq]; exact fNatL_eq l _
end force

/-! ### Rows are let go -/
mutual
def AV.rows : AV → List Nat
  | .ptr r _ => [r]
  | .slice r _ _ _ => [r]
  | .sliceU r _ _ _ => [r]
  | .yld r => [r]
  | .func _ l => rowsL l
  | .bound _ a b => rowsL a ++ rowsL b
  | .agg l => rowsL l
  | .tuple l => rowsL l
  | .iface _ v => AV.rows v
  | _ => []
def rowsL : List AV → List Nat
  | [] => []
  | v :: l => AV.rows v ++ rowsL l
end
def addNew (keep : List Nat) : List Nat → List Nat
  | [] => keep
  | r :: l => if keep.contains r then addNew keep l else addNew (keep ++ [r]) l
def rowCells (H : AHeap) (r : Nat) : List AV := match rowAt H r with
  | some row => row.cells
  | none => []
def closeGo (H : AHeap) : Nat → Nat → List Nat → List Nat
  | 0, _, keep => keep
  | n + 1, i, keep => match keep[i]? with
    | none => keep
    | some r => fNatL (addNew keep (rowsL (rowCells H r))) fun keep => closeGo H n (i + 1) keep
def gcKeep (n0 : Nat) (roots : List Nat) (H : AHeap) : List Nat := fNatL (addNew (List.range n0) roots) fun keep => closeGo H (H.length + 1) 0 keep
def gcTry (n0 : Nat) (roots : List Nat) (l : List AV) (H : AHeap) : List AV × AHeap :=
  fNatL (gcKeep n0 roots H) fun keep =>
    if gcOK n0 keep H && (gcH keep H).all (fun o => o.all fun row => row.cells.all AV.cell) then (renL (gcSig keep) l, gcH keep H) else (l, H)

theorem envS_ren {σ : Sig} {l : List AV} : envS noG (renL σ l) = fun t => (envS noG l t).ren σ := by
  funext t
  simp only [envS]
  by_cases h : t < 1048576
  · rw [if_pos h, if_pos h, List.getD_eq_getElem?_getD, List.getD_eq_getElem?_getD, renL_get]
    cases l[t]? <;> rfl
  · rw [if_neg h, if_neg h]; rfl
theorem gcTry_weak {n0 : Nat} {roots : List Nat} {l : List AV} {H : AHeap} : Weak n0 (envS noG l) H (envS noG (gcTry n0 roots l H).1) (gcTry n0 roots l H).2 := by
  unfold gcTry
  rw [fNatL_eq]
  split
  · rename_i h
    simp only [Bool.and_eq_true] at h
    rw [envS_ren]
    exact Weak.gc _ h.1 h.2
  · exact Weak.refl

/-! ### Equal or not -/
mutual
def avEq : AV → AV → Bool
  | .any, .any => true
  | .bool a, .bool b => a == b
  | .int k a, .int k' b => decide (k = k') && a == b
  | .str a, .str b => a.data.toList == b.data.toList
  | .lit (.tuple ⟨[]⟩), .lit (.tuple ⟨[]⟩) => true
  | .nilptr, .nilptr => true
  | .nilslice, .nilslice => true
  | .ptr a b, .ptr c d => a == c && b == d
  | .slice a b c d, .slice a' b' c' d' => a == a' && b == b' && c == c' && d == d'
  | .sliceU a b c d, .sliceU a' b' c' d' => a == a' && b == b' && c == c' && d == d'
  | .func f l, .func f' l' => f == f' && avEqL l l'
  | .bound f a b, .bound f' a' b' => f == f' && avEqL a a' && avEqL b b'
  | .agg l, .agg l' => avEqL l l'
  | .tuple l, .tuple l' => avEqL l l'
  | .yld r, .yld r' => r == r'
  | _, _ => false
def avEqL : List AV → List AV → Bool
  | [], [] => true
  | a :: l, b :: l' => avEq a b && avEqL l l'
  | _, _ => false
end
mutual
theorem avEq_ok : ∀ (a b : AV), avEq a b = true → a = b
  | .func f l, .func f' l', h => by
    simp only [avEq, Bool.and_eq_true, beq_iff_eq] at h
    rw [h.1, avEqL_ok l l' h.2]
  | .bound f a b, .bound f' a' b', h => by
    simp only [avEq, Bool.and_eq_true, beq_iff_eq] at h
    rw [h.1.1, avEqL_ok a a' h.1.2, avEqL_ok b b' h.2]
  | .agg l, .agg l', h => by simp only [avEq] at h; rw [avEqL_ok l l' h]
  | .tuple l, .tuple l', h => by simp only [avEq] at h; rw [avEqL_ok l l' h]
  | a, b, h => by
    unfold avEq at h
    split at h
    all_goals first
      | rfl
      | cases h; done
      | (first | simp only [Bool.and_eq_true, beq_iff_eq, decide_eq_true_eq] at h | skip
         first
         | (subst h; rfl)
         | (obtain ⟨h1, h2⟩ := h; subst h1; subst h2; rfl)
         | (obtain ⟨⟨⟨h1, h2⟩, h3⟩, h4⟩ := h; subst h1; subst h2; subst h3; subst h4; rfl)
         | (exact congrArg AV.str (ByteArray.ext (Array.ext' h)))
         | (rw [h.1, avEqL_ok _ _ h.2])
         | (rw [h.1.1, avEqL_ok _ _ h.1.2, avEqL_ok _ _ h.2])
         | (rw [avEqL_ok _ _ h]))
theorem avEqL_ok : ∀ (l l' : List AV), avEqL l l' = true → l = l'
  | [], [], _ => rfl
  | a :: l, b :: l', h => by
    simp only [avEqL, Bool.and_eq_true] at h
    rw [avEq_ok a b h.1, avEqL_ok l l' h.2]
  | [], _ :: _, h => by simp [avEqL] at h
  | _ :: _, [], h => by simp [avEqL] at h
end
end Go.Vh


/- The runner that keeps its state in full and lets rows go: functions. -/
namespace Go.Vh
open Go

/-- What lies in the temporaries is kept. -/
def gcAll (n0 : Nat) (l : List AV) (H : AHeap) : List AV × AHeap := gcTry n0 (rowsL l) l H

def gloop (n0 : Nat) (f : List AV → AHeap → Option Res) : Nat → List AV → AHeap → Option Res
  | 0, _, _ => none
  | n + 1, l, H => (f l H).bind fun r => match r.1 with
    | .normal => fRes (gcAll n0 r.2.1 r.2.2) fun l H => gloop n0 f n l H
    | _ => some r

def gir (call : Caller) (n0 n : Nat) : IR → List AV → AHeap → Option Res
  | .skip, l, H => some (.normal, l, H)
  | .ops o, l, H => (rops noG call o l H).bind fun x => fRes x fun l H => some (.normal, l, H)
  | .dops o, l, H => (rdops noG call H o l H).bind fun x => fRes x fun l H => some (.normal, l, H)
  | .tops _, _, _ => none
  | .seq a b, l, H => (gir call n0 n a l H).bind fun r => match r.1 with
    | .normal => gir call n0 n b r.2.1 r.2.2
    | _ => some r
  | .cond c a b, l, H => match evo (envS noG l) c with
    | .bool true => gir call n0 n a l H
    | .bool false => gir call n0 n b l H
    | _ => none
  | .block id a, l, H => (gir call n0 n a l H).map fun r => match r.1 with
    | .exit i => if i = id then (.normal, r.2.1, r.2.2) else r
    | _ => r
  | .loop a, l, H => gloop n0 (gir call n0 n a) n l H
  | .exit id, l, H => some (.exit id, l, H)
  | .ret, l, H => some (.ret, l, H)
  | .strLoop .., _, _ => none

def girY (call : Caller) (y : YRun) (ry n0 n : Nat) : IR → List AV → AHeap → Option Res
  | .skip, l, H => some (.normal, l, H)
  | .ops o, l, H => (ropsY noG call y ry o l H).bind fun x => fRes x fun l H => some (.normal, l, H)
  | .dops o, l, H => (rdops noG call H o l H).bind fun x => fRes x fun l H => some (.normal, l, H)
  | .tops _, _, _ => none
  | .seq a b, l, H => (girY call y ry n0 n a l H).bind fun r => match r.1 with
    | .normal => girY call y ry n0 n b r.2.1 r.2.2
    | _ => some r
  | .cond c a b, l, H => match evo (envS noG l) c with
    | .bool true => girY call y ry n0 n a l H
    | .bool false => girY call y ry n0 n b l H
    | _ => none
  | .block id a, l, H => (girY call y ry n0 n a l H).map fun r => match r.1 with
    | .exit i => if i = id then (.normal, r.2.1, r.2.2) else r
    | _ => r
  | .loop a, l, H => gloop n0 (girY call y ry n0 n a) n l H
  | .exit id, l, H => some (.exit id, l, H)
  | .ret, l, H => some (.ret, l, H)
  | .strLoop .., _, _ => none

/-- All orders of a region. -/
def topsAll (call : Caller) (H0 : AHeap) : DTree → List AV → AHeap → Option (List (List AV × AHeap))
  | .done, l, H => some [(l, H)]
  | .none, _, _ => some []
  | .soft x t, l, H => (rstep noG call H0 x.mode x.st l H).bind fun y => topsAll call H0 t y.1 y.2
  | .alt x t r, l, H => (rstep noG call H0 x.mode x.st l H).bind fun y => (topsAll call H0 t y.1 y.2).bind fun a => (topsAll call H0 r l H).map fun b => a ++ b

def resRoots (l : List AV) : List IRes → List Nat
  | [] => []
  | .tmp t :: rs => (l.getD t unv).rows ++ resRoots l rs
  | .cell t _ _ :: rs => (l.getD t unv).rows ++ resRoots l rs

/-- The end of a function. -/
def gret (n0 : Nat) (rs : List IRes) (r : Res) : Option (AV × AHeap) := match r.1 with
  | .exit _ => none
  | _ => fRes (gcTry n0 (resRoots r.2.1 rs) r.2.1 r.2.2) fun l H => if n0 ≤ H.length then (ares (envS noG l) H rs).bind fun v => fAV v fun v => some (v, H) else none

def rowEq : Option ARow → Option ARow → Bool
  | none, none => true
  | some ⟨a, b, c⟩, some ⟨a', b', c'⟩ => a == a' && b == b' && avEqL c c'
  | _, _ => false
def heapEq : AHeap → AHeap → Bool
  | [], [] => true
  | a :: H, b :: H' => rowEq a b && heapEq H H'
  | _, _ => false
theorem rowEq_ok : ∀ {a b : Option ARow}, rowEq a b = true → a = b
  | none, none, _ => rfl
  | some ⟨a, b, c⟩, some ⟨a', b', c'⟩, h => by
    simp only [rowEq, Bool.and_eq_true, beq_iff_eq] at h
    rw [h.1.1, h.1.2, avEqL_ok _ _ h.2]
  | none, some _, h => by simp [rowEq] at h
  | some _, none, h => by simp [rowEq] at h
theorem heapEq_ok : ∀ {a b : AHeap}, heapEq a b = true → a = b
  | [], [], _ => rfl
  | a :: H, b :: H', h => by
    simp only [heapEq, Bool.and_eq_true] at h
    rw [rowEq_ok h.1, heapEq_ok h.2]
  | [], _ :: _, h => by simp [heapEq] at h
  | _ :: _, [], h => by simp [heapEq] at h

def gY (call : Caller) (n : Nat) (ps : List Nat) (A B : IR) (l : List AV) : YRun := fun args H =>
  if args.length = ps.length then (setL l ps args).bind fun l' => fRes (l', H) fun l' H => (gir call H.length n (.seq A B) l' H).bind fun r => match r.1 with
    | .normal => some r.2.2
    | _ => none
  else none

def girX (call : Caller) (look : FuncId → Option Vh.Found) (n0 n : Nat) : IRX → List AV → AHeap → Option Res
  | .ir i, l, H => gir call n0 n i l H
  | .seq (.ir (.tops T)) b, l, H => (topsAll call H T l H).bind fun outs => match outs with
    | [] => none
    | x :: xs => fRes (gcAll n0 x.1 x.2) fun l1 H1 => if xs.all (fun z => avEqL (gcAll n0 z.1 z.2).1 l1 && heapEq (gcAll n0 z.1 z.2).2 H1) = true then girX call look n0 n b l1 H1 else none
  | .seq a b, l, H => (girX call look n0 n a l H).bind fun r => match r.1 with
    | .normal => fRes (gcAll n0 r.2.1 r.2.2) fun l H => girX call look n0 n b l H
    | _ => some r
  | .cond c a b, l, H => match evo (envS noG l) c with
    | .bool true => girX call look n0 n a l H
    | .bool false => girX call look n0 n b l H
    | _ => none
  | .block id a, l, H => (girX call look n0 n a l H).map fun r => match r.1 with
    | .exit i => if i = id then (.normal, r.2.1, r.2.2) else r
    | _ => r
  | .rangeF g ps A B, l, H => match evo (envS noG l) g with
    | .func f caps => (look f).bind fun F => if caps.length + 1 ≤ F.nt ∧ F.nt ≤ 1048576 then
        (girY call (gY call n ps A B l) H.length (H.length + 1) n F.ir ((.yld H.length :: caps) ++ List.replicate (F.nt - (caps.length + 1)) unv) (H ++ [loopRow])).bind fun r => match r.1 with
          | .exit _ => none
          | _ => if H.length + 1 ≤ r.2.2.length then (ares (envS noG r.2.1) r.2.2 F.rs).map fun _ => (.normal, l, r.2.2) else none
      else none
    | _ => none

section
variable {P : Program}

theorem gloop_ok {n0 : Nat} {f : List AV → AHeap → Option Res} {W : (AExit → St → AHeap → Prop) → St → AHeap → Prop} (hf : ∀ l H x Q, f l H = some x → Q x.1 (envS noG x.2.1) x.2.2 → W Q (envS noG l) H) {n : Nat} {l : List AV} {H : AHeap} {x : Res} {Q : AExit → St → AHeap → Prop} (h : gloop n0 f n l H = some x) (hQ : Q x.1 (envS noG x.2.1) x.2.2) :
    ∃ (I : Nat → St → AHeap → Prop) (n : Nat), I n (envS noG l) H ∧ ∀ n s H, I n s H → W (seqPost (loopPost n0 I n) Q) s H := by
  refine ⟨fun m s H => ∃ l, s = envS noG l ∧ gloop n0 f m l H = some x, n, ⟨l, rfl, h⟩, ?_⟩
  rintro m s H ⟨l, rfl, h⟩
  cases m with
  | zero => cases h
  | succ m =>
    simp only [gloop, Option.bind_eq_some_iff] at h
    obtain ⟨⟨e, l1, H1⟩, h1, h2⟩ := h
    refine hf l H _ _ h1 ?_
    cases e with
    | normal =>
      simp only [fRes_eq] at h2
      exact ⟨_, _, gcTry_weak, m, by omega, _, rfl, h2⟩
    | exit i => simp only [Option.some.injEq] at h2; subst h2; exact hQ
    | ret => simp only [Option.some.injEq] at h2; subst h2; exact hQ

theorem gir_ok {call : Caller} (hc : CallOK P noG call) {n0 n : Nat} : ∀ (ir : IR) (l : List AV) (H : AHeap) (x : Res) (Q : AExit → St → AHeap → Prop), gir call n0 n ir l H = some x → Q x.1 (envS noG x.2.1) x.2.2 → iwp P n0 ir Q (envS noG l) H := by
  intro ir
  induction ir with
  | skip => intro l H x Q h hQ; simp only [gir, Option.some.injEq] at h; subst h; exact hQ
  | exit id => intro l H x Q h hQ; simp only [gir, Option.some.injEq] at h; subst h; exact hQ
  | ret => intro l H x Q h hQ; simp only [gir, Option.some.injEq] at h; subst h; exact hQ
  | ops o =>
    intro l H x Q h hQ
    simp only [gir, Option.bind_eq_some_iff, fRes_eq, Option.some.injEq] at h
    obtain ⟨y, h1, rfl⟩ := h
    exact rops_ok hc o l H y h1 hQ
  | dops o =>
    intro l H x Q h hQ
    simp only [gir, Option.bind_eq_some_iff, fRes_eq, Option.some.injEq] at h
    obtain ⟨y, h1, rfl⟩ := h
    exact rdops_ok hc o l H y h1 hQ
  | tops t => intro l H x Q h hQ; simp only [gir] at h; cases h
  | seq a b iha ihb =>
    intro l H x Q h hQ
    simp only [gir, Option.bind_eq_some_iff] at h
    obtain ⟨⟨e, l1, H1⟩, h1, h2⟩ := h
    refine iha l H _ _ h1 ?_
    cases e with
    | normal => exact ihb l1 H1 x Q h2 hQ
    | exit i => simp only [Option.some.injEq] at h2; subst h2; exact hQ
    | ret => simp only [Option.some.injEq] at h2; subst h2; exact hQ
  | cond c a b iha ihb =>
    intro l H x Q h hQ
    simp only [gir] at h
    simp only [iwp]
    split at h
    · rename_i hb; rw [hb]; simp only [condPost, if_true]; exact iha l H x Q h hQ
    · rename_i hb; rw [hb]; simp only [condPost, Bool.false_eq_true, if_false]; exact ihb l H x Q h hQ
    · cases h
  | block id a iha =>
    intro l H x Q h hQ
    simp only [gir, Option.map_eq_some_iff] at h
    obtain ⟨⟨e, l1, H1⟩, h1, h2⟩ := h
    refine iha l H _ _ h1 ?_
    cases e with
    | normal => simp only at h2; subst h2; exact hQ
    | ret => simp only at h2; subst h2; exact hQ
    | exit i =>
      simp only at h2
      simp only [blockPost]
      split at h2
      · rename_i e; rw [if_pos e]; subst h2; exact hQ
      · rename_i e; rw [if_neg e]; subst h2; exact hQ
  | loop a iha =>
    intro l H x Q h hQ
    simp only [gir] at h
    exact gloop_ok (W := fun Q s H => iwp P n0 a Q s H) iha h hQ
  | strLoop A X it id d B rest ih => intro l H x Q h hQ; simp only [gir] at h; cases h

theorem girY_ok {call : Caller} (hc : CallOK P noG call) {y : YRun} {ye : YEnv} (hy : ∀ args H H' K, y args H = some H' → K H' → ye.Y args H K) {n0 n : Nat} : ∀ (ir : IR) (l : List AV) (H : AHeap) (x : Res) (Q : AExit → St → AHeap → Prop), girY call y ye.ry n0 n ir l H = some x → Q x.1 (envS noG x.2.1) x.2.2 → iwpY P ye n0 ir Q (envS noG l) H := by
  intro ir
  induction ir with
  | skip => intro l H x Q h hQ; simp only [girY, Option.some.injEq] at h; subst h; exact hQ
  | exit id => intro l H x Q h hQ; simp only [girY, Option.some.injEq] at h; subst h; exact hQ
  | ret => intro l H x Q h hQ; simp only [girY, Option.some.injEq] at h; subst h; exact hQ
  | ops o =>
    intro l H x Q h hQ
    simp only [girY, Option.bind_eq_some_iff, fRes_eq, Option.some.injEq] at h
    obtain ⟨z, h1, rfl⟩ := h
    exact ropsY_ok hc hy o l H z h1 hQ
  | dops o =>
    intro l H x Q h hQ
    simp only [girY, Option.bind_eq_some_iff, fRes_eq, Option.some.injEq] at h
    obtain ⟨z, h1, rfl⟩ := h
    exact rdops_ok hc o l H z h1 hQ
  | tops t => intro l H x Q h hQ; simp only [girY] at h; cases h
  | seq a b iha ihb =>
    intro l H x Q h hQ
    simp only [girY, Option.bind_eq_some_iff] at h
    obtain ⟨⟨e, l1, H1⟩, h1, h2⟩ := h
    refine iha l H _ _ h1 ?_
    cases e with
    | normal => exact ihb l1 H1 x Q h2 hQ
    | exit i => simp only [Option.some.injEq] at h2; subst h2; exact hQ
    | ret => simp only [Option.some.injEq] at h2; subst h2; exact hQ
  | cond c a b iha ihb =>
    intro l H x Q h hQ
    simp only [girY] at h
    simp only [iwpY]
    split at h
    · rename_i hb; rw [hb]; simp only [condPost, if_true]; exact iha l H x Q h hQ
    · rename_i hb; rw [hb]; simp only [condPost, Bool.false_eq_true, if_false]; exact ihb l H x Q h hQ
    · cases h
  | block id a iha =>
    intro l H x Q h hQ
    simp only [girY, Option.map_eq_some_iff] at h
    obtain ⟨⟨e, l1, H1⟩, h1, h2⟩ := h
    refine iha l H _ _ h1 ?_
    cases e with
    | normal => simp only at h2; subst h2; exact hQ
    | ret => simp only at h2; subst h2; exact hQ
    | exit i =>
      simp only at h2
      simp only [blockPost]
      split at h2
      · rename_i e; rw [if_pos e]; subst h2; exact hQ
      · rename_i e; rw [if_neg e]; subst h2; exact hQ
  | loop a iha =>
    intro l H x Q h hQ
    simp only [girY] at h
    exact gloop_ok (W := fun Q s H => iwpY P ye n0 a Q s H) iha h hQ
  | strLoop A X it id d B rest ih => intro l H x Q h hQ; simp only [girY] at h; cases h

theorem topsAll_ok {call : Caller} (hc : CallOK P noG call) {H0 : AHeap} {K : St → AHeap → Prop} : ∀ (T : DTree) (l : List AV) (H : AHeap) (outs : List (List AV × AHeap)), topsAll call H0 T l H = some outs → (∀ o ∈ outs, K (envS noG o.1) o.2) → iopsT P H0 T K (envS noG l) H
  | .done, l, H, outs, h, hK => by simp only [topsAll, Option.some.injEq] at h; subst h; exact hK (l, H) (by simp)
  | .none, l, H, outs, h, hK => trivial
  | .soft x t, l, H, outs, h, hK => by
    simp only [topsAll, Option.bind_eq_some_iff] at h
    obtain ⟨y, h1, h2⟩ := h
    exact rstepD_ok hc h1 (K := iopsT P H0 t K) (topsAll_ok hc t y.1 y.2 outs h2 hK)
  | .alt x t r, l, H, outs, h, hK => by
    simp only [topsAll, Option.bind_eq_some_iff, Option.map_eq_some_iff] at h
    obtain ⟨y, h1, a, h2, b, h3, rfl⟩ := h
    have q1 := rstepD_ok hc h1 (K := iopsT P H0 t K) (topsAll_ok hc t y.1 y.2 a h2 fun o ho => hK o (List.mem_append_left _ ho))
    have q2 := topsAll_ok hc r l H b h3 fun o ho => hK o (List.mem_append_right _ ho)
    cases r with
    | none => exact q1
    | done => exact ⟨q1, q2⟩
    | soft x' t' => exact ⟨q1, q2⟩
    | alt x' t' r' => exact ⟨q1, q2⟩

theorem gY_ok {call : Caller} (hc : CallOK P noG call) {n : Nat} {ps : List Nat} {A B : IR} {l : List AV} : ∀ args H H' K, gY call n ps A B l args H = some H' → K H' → roundY P ps A B (envS noG l) args H K := fun args H H' K h hK => by
  unfold gY at h
  split at h
  case isFalse => cases h
  rename_i hl
  simp only [Option.bind_eq_some_iff, fRes_eq] at h
  obtain ⟨l', h1, ⟨e, l2, H2⟩, h2, h3⟩ := h
  refine ⟨hl, ?_⟩
  rw [setL_ok _ _ _ _ h1]
  refine gir_ok hc (.seq A B) l' H _ _ h2 ?_
  cases e with
  | normal => simp only [Option.some.injEq] at h3; subst h3; exact hK
  | exit i => cases h3
  | ret => cases h3

theorem girX_ok {call : Caller} (hc : CallOK P noG call) {look : FuncId → Option Vh.Found} (hl : ∀ f F, look f = some F → find P f = some F) {n0 n : Nat} : ∀ (ir : IRX) (l : List AV) (H : AHeap) (x : Res) (Q : AExit → St → AHeap → Prop), girX call look n0 n ir l H = some x → Q x.1 (envS noG x.2.1) x.2.2 → iwpX P n0 ir Q (envS noG l) H := by
  intro ir
  induction ir with
  | ir i => intro l H x Q h hQ; exact gir_ok hc i l H x Q h hQ
  | seq a b iha ihb =>
    intro l H x Q h hQ
    have plain : ((girX call look n0 n a l H).bind fun r => match r.1 with
        | .normal => fRes (gcAll n0 r.2.1 r.2.2) fun l H => girX call look n0 n b l H
        | _ => some r) = some x → iwpX P n0 (.seq a b) Q (envS noG l) H := fun h => by
      simp only [Option.bind_eq_some_iff] at h
      obtain ⟨⟨e, l1, H1⟩, h1, h2⟩ := h
      refine iha l H _ _ h1 ?_
      cases e with
      | normal =>
        simp only [fRes_eq] at h2
        exact ⟨_, _, gcTry_weak, ihb _ _ x Q h2 hQ⟩
      | exit i => simp only [Option.some.injEq] at h2; subst h2; exact hQ
      | ret => simp only [Option.some.injEq] at h2; subst h2; exact hQ
    unfold girX at h
    split at h
    · rename_i e; cases e
    · rename_i e1
      cases e1
      simp only [Option.bind_eq_some_iff] at h
      obtain ⟨outs, h1, h2⟩ := h
      split at h2
      · cases h2
      · rename_i z zs
        rw [fRes_eq] at h2
        split at h2
        case isFalse => cases h2
        rename_i hall
        rw [List.all_eq_true] at hall
        refine topsAll_ok hc _ _ _ _ h1 fun o ho => ?_
        refine ⟨_, _, gcTry_weak (roots := rowsL o.1), ?_⟩
        rcases List.mem_cons.1 ho with rfl | ho
        · exact ihb _ _ x Q h2 hQ
        · have := hall o ho
          simp only [Bool.and_eq_true] at this
          have e1 := avEqL_ok _ _ this.1
          have e2 := heapEq_ok this.2
          unfold gcAll at e1 e2 h2
          rw [e1, e2]
          exact ihb _ _ x Q h2 hQ
    · rename_i e1 e2
      cases e2
      exact plain h
    all_goals (rename_i e; cases e)
  | cond c a b iha ihb =>
    intro l H x Q h hQ
    simp only [girX] at h
    simp only [iwpX]
    split at h
    · rename_i hb; rw [hb]; simp only [condPost, if_true]; exact iha l H x Q h hQ
    · rename_i hb; rw [hb]; simp only [condPost, Bool.false_eq_true, if_false]; exact ihb l H x Q h hQ
    · cases h
  | block id a iha =>
    intro l H x Q h hQ
    simp only [girX, Option.map_eq_some_iff] at h
    obtain ⟨⟨e, l1, H1⟩, h1, h2⟩ := h
    refine iha l H _ _ h1 ?_
    cases e with
    | normal => simp only at h2; subst h2; exact hQ
    | ret => simp only at h2; subst h2; exact hQ
    | exit i =>
      simp only at h2
      simp only [blockPost]
      split at h2
      · rename_i e; rw [if_pos e]; subst h2; exact hQ
      · rename_i e; rw [if_neg e]; subst h2; exact hQ
  | rangeF g ps A B =>
    intro l H x Q h hQ
    simp only [girX] at h
    simp only [iwpX]
    split at h
    case h_2 => cases h
    rename_i f caps hg
    rw [hg]
    simp only [rangeC]
    rw [gl_env]
    simp only [Option.bind_eq_some_iff] at h
    obtain ⟨F, hF, h⟩ := h
    obtain ⟨fn, hfn, hir, hrs, hnt, hent⟩ := find_spec (hl _ _ hF)
    split at h
    case isFalse => cases h
    rename_i hargs
    simp only [Option.bind_eq_some_iff] at h
    obtain ⟨⟨e, l1, H1⟩, h1, h2⟩ := h
    refine ACallsY.body (N := F.nt) (n0 := H.length + 1) hfn hent hir hrs hnt (by simpa using hargs.1) (by simp) ?_ hargs.2
    rw [← envS_pad (k := F.nt - (caps.length + 1)) (by have := hargs.1; have := hargs.2; simp only [List.length_cons]; omega)]
    refine girY_ok (ye := ⟨H.length, roundY P ps A B (envS noG l)⟩) hc (gY_ok hc) F.ir _ _ _ _ h1 ?_
    have fin : (if H.length + 1 ≤ H1.length then (ares (envS noG l1) H1 F.rs).map fun _ => ((AExit.normal, l, H1) : Res) else none) = some x → ∃ s' H2, Weak (H.length + 1) (envS noG l1) H1 s' H2 ∧ H2.length ≥ H.length + 1 ∧ thenR (fun _ H' => Q .normal (envS noG l) H') H2 (ares s' H2 F.rs) := fun h3 => by
      split at h3
      · rename_i hle
        simp only [Option.map_eq_some_iff] at h3
        obtain ⟨v3, h4, rfl⟩ := h3
        exact ⟨_, _, Weak.refl, hle, by rw [h4]; exact hQ⟩
      · cases h3
    cases e with
    | exit i => cases h2
    | normal => exact fin h2
    | ret => exact fin h2

theorem gret_ok {n0 : Nat} {rs : List IRes} {r : Res} {v : AV} {H' : AHeap} (h : gret n0 rs r = some (v, H')) : retPost n0 rs (fun v2 H2 => v2 = v ∧ H2 = H') r.1 (envS noG r.2.1) r.2.2 := by
  obtain ⟨e, l, H⟩ := r
  unfold gret at h
  have fin : (fRes (gcTry n0 (resRoots l rs) l H) fun l H => if n0 ≤ H.length then (ares (envS noG l) H rs).bind fun v => fAV v fun v => some (v, H) else none) = some (v, H') → ∃ s' H2, Weak n0 (envS noG l) H s' H2 ∧ H2.length ≥ n0 ∧ thenR (fun v2 H2 => v2 = v ∧ H2 = H') H2 (ares s' H2 rs) := fun h => by
    rw [fRes_eq] at h
    split at h
    case isFalse => cases h
    rename_i hle
    simp only [Option.bind_eq_some_iff, fAV_eq, Option.some.injEq, Prod.mk.injEq] at h
    obtain ⟨v3, h4, rfl, rfl⟩ := h
    exact ⟨_, _, gcTry_weak, hle, by rw [h4]; exact ⟨rfl, rfl⟩⟩
  cases e with
  | exit i => cases h
  | normal => exact fin h
  | ret => exact fin h

end
end Go.Vh


/- The runner, with calls that are answered beforehand. -/
namespace Go.Vh
open Go
def gfunP (pre : Caller) (look : FuncId → Option Vh.Found) (lookX : FuncId → Option FoundX) (loops : Nat) : Nat → Caller
  | 0, _, _, _ => none
  | n + 1, f, args, H => fRes (args, H) fun args H => match pre f args H with
    | some r => some r
    | none => match lookX f with
    | some F => if args.length ≤ F.nt ∧ F.nt ≤ 1048576 then (girX (gfunP pre look lookX loops n) look H.length loops F.ir (args ++ List.replicate (F.nt - args.length) unv) H).bind fun r => gret H.length F.rs r else none
    | none => (look f).bind fun F => if args.length ≤ F.nt ∧ F.nt ≤ 1048576 then (gir (gfunP pre look lookX loops n) H.length loops F.ir (args ++ List.replicate (F.nt - args.length) unv) H).bind fun r => gret H.length F.rs r else none


section
variable {P : Program}
/-- **The runner's word is a contract.** -/
theorem gfunP_ok {pre : Caller} (hpre : CallOK P noG pre) {look : FuncId → Option Vh.Found} {lookX : FuncId → Option FoundX} (hl : ∀ f F, look f = some F → find P f = some F) (hx : ∀ f F, lookX f = some F → findX P f = some F) {loops : Nat} : ∀ n, CallOK P noG (gfunP pre look lookX loops n)
  | 0 => fun f args H v H' h => by simp [gfunP] at h
  | n + 1 => fun f args H v H' h => by
    simp only [gfunP, fRes_eq] at h
    split at h
    · rename_i r0 h0
      cases h
      exact hpre _ _ _ _ _ h0
    split at h
    · rename_i F hF
      obtain ⟨fn, hfn, hir, hrs, hnt, hent⟩ := findX_spec (hx _ _ hF)
      split at h
      case isFalse => cases h
      rename_i hargs
      simp only [Option.bind_eq_some_iff] at h
      obtain ⟨r, h1, h2⟩ := h
      refine ⟨List.range H.length, ?_⟩
      refine ACallsG.bodyX hfn hent hir hrs hnt hargs.1 rfl ?_ hargs.2
      rw [← envS_pad (k := F.nt - args.length) (by have := hargs.1; have := hargs.2; omega)]
      exact girX_ok (gfunP_ok hpre hl hx n) hl F.ir _ H _ _ h1 (gret_ok h2)
    · simp only [Option.bind_eq_some_iff] at h
      obtain ⟨F, hF, h⟩ := h
      obtain ⟨fn, hfn, hir, hrs, hnt, hent⟩ := find_spec (hl _ _ hF)
      split at h
      case isFalse => cases h
      rename_i hargs
      simp only [Option.bind_eq_some_iff] at h
      obtain ⟨r, h1, h2⟩ := h
      refine ⟨List.range H.length, ?_⟩
      refine ACallsG.body hfn hent hir hrs hnt hargs.1 rfl ?_ hargs.2
      rw [← envS_pad (k := F.nt - args.length) (by have := hargs.1; have := hargs.2; omega)]
      exact gir_ok (gfunP_ok hpre hl hx n) F.ir _ H _ _ h1 (gret_ok h2)

theorem gfunP_calls {pre : Caller} (hpre : CallOK P noG pre) {look : FuncId → Option Vh.Found} {lookX : FuncId → Option FoundX} (hl : ∀ f F, look f = some F → find P f = some F) (hx : ∀ f F, lookX f = some F → findX P f = some F) {loops n : Nat} {f : FuncId} {args : List AV} {H H' : AHeap} {v : AV} (h : gfunP pre look lookX loops n f args H = some (v, H')) :
    ∃ W, ACalls P f args H W fun v2 H2 => v2 = v ∧ H2 = H' := gfunP_ok hpre hl hx n f args H v H' h
end
end Go.Vh

