/- Bad things and samples may be exchanged; fractions, reduced, are compared as they are. -/
import Derived.Test.YtpkeneadkiabiabDoorVX
import Derived.Test.YtpkeneadkiabiabDoorFK
import Derived.Test.YtpkeneadkiabiabDoorFJ
import Derived.Test.YtpkeneadkiabiabDoorEF
import Derived.Test.YtpkeneadkiabiabDoorFL
import Derived.Test.YtpkeneadkiabiabDoorIrM
set_option linter.unusedSimpArgs false
set_option linter.unusedVariables false
-- NEWSET
namespace Go.Proofs.YtpkeneadkiabiabDoor
open Go Go.Vh

theorem wT_seen {n b k : Nat} {s : Nat} : wT n b k (s : Int) ≤ wT n b k ((s : Int) + 1) := by
  unfold wT wN
  rw [show ((s : Int) + 1 + 1).toNat = (((s : Int) + 1).toNat) + 1 by omega, sumT]
  omega

theorem red_parts {x y : Nat} (hy : 0 < y) : ∃ a c g, 0 < g ∧ 0 < c ∧ x = a * g ∧ y = c * g ∧ Nat.gcd a c = 1 ∧ redX (x : Int) (y : Int) = (a : Int) ∧ redX (y : Int) (x : Int) = (c : Int) := by
  have hg : 0 < Nat.gcd x y := Nat.gcd_pos_of_pos_right _ hy
  have h1 := Nat.div_mul_cancel (Nat.gcd_dvd_left x y)
  have h2 := Nat.div_mul_cancel (Nat.gcd_dvd_right x y)
  refine ⟨x / Nat.gcd x y, y / Nat.gcd x y, Nat.gcd x y, hg, ?_, h1.symm, h2.symm, ?_, ?_, ?_⟩
  · exact Nat.div_pos (Nat.le_of_dvd hy (Nat.gcd_dvd_right x y)) hg
  · rw [Nat.gcd_div (Nat.gcd_dvd_left x y) (Nat.gcd_dvd_right x y), Nat.div_self hg]
  · unfold redX; rw [Int.toNat_natCast, Int.toNat_natCast, Int.natCast_ediv]
  · unfold redX; rw [Int.toNat_natCast, Int.toNat_natCast, Int.natCast_ediv, Nat.gcd_comm]
end Go.Proofs.YtpkeneadkiabiabDoor


/- ExactMonotone's walk. -/
-- NEWSET
namespace Go.Proofs.YtpkeneadkiabiabDoor
open Go Go.Vh

theorem wT_bb {n b k : Nat} {seen : Int} (hn : n ≤ 512) (hb : b ≤ n) (hk : k ≤ n) : ((wT n b k seen : Nat) : Int) < BB ^ 64 := by
  unfold wT
  exact Int.lt_of_lt_of_le (wN_bb (b := b) (g := n - b) (k := k) (by omega) (by omega)) (BB_mono (by omega))
theorem cnk_bb {n k : Nat} (hn : n ≤ 512) : ((cnk n k : Nat) : Int) < BB ^ 64 := pow_bb (cnk_le n k) (by omega)
theorem red_bb {x y : Int} (h0 : 0 ≤ x) (h : x < BB ^ 64) : redX x y < BB ^ 64 := Int.lt_of_le_of_lt (red_le h0).2 h
/-- Tail, where all is in order. -/
theorem tail_ok {n b k : Nat} {seen : Int} (hn : n ≤ 512) (hb : b ≤ n) (hk : k ≤ n) (h3 : -9223372036854775808 ≤ seen ∧ seen ≤ 9223372036854775807) :
    ACalls Tryd.prog 5 [.int .i64 (n : Int), .int .i64 (b : Int), .int .i64 (k : Int), .int .i64 seen] [] (List.range 0) (UpF (redX ((wT n b k seen : Nat) : Int) ((cnk n k : Nat) : Int)) (redX ((cnk n k : Nat) : Int) ((wT n b k seen : Nat) : Int)) 0 []) := by
  have hxT := xTail_calls (n : Int) (b : Int) (k : Int) seen (by omega) (by omega) (by omega) h3
  have hok : tlOK (n : Int) (b : Int) (k : Int) := by unfold tlOK; omega
  have hW : tlW (n : Int) (b : Int) (k : Int) seen = ((wT n b k seen : Nat) : Int) := by
    unfold tlW wT; rw [show ((n : Int) - (b : Int)).toNat = n - b by omega]; rfl
  have hC : tlC (n : Int) (k : Int) = ((cnk n k : Nat) : Int) := rfl
  have hE0 : redE ((wT n b k seen : Nat) : Int) ((cnk n k : Nat) : Int) = 0 := by
    unfold redE; rw [if_pos ⟨red_bb (by omega) (wT_bb hn hb hk), red_bb (by omega) (cnk_bb hn)⟩]
  have hE : tlE (n : Int) (b : Int) (k : Int) seen = 0 := by unfold tlE; rw [if_pos hok, hW, hC, hE0]
  have hNe : tlN (n : Int) (b : Int) (k : Int) seen = redX ((wT n b k seen : Nat) : Int) ((cnk n k : Nat) : Int) := by unfold tlN; rw [hE, hW, hC]; rfl
  have hDe : tlD (n : Int) (b : Int) (k : Int) seen = redX ((cnk n k : Nat) : Int) ((wT n b k seen : Nat) : Int) := by unfold tlD; rw [hE, hW, hC]; rfl
  rw [hE, hNe, hDe] at hxT
  exact hxT
/-- Two fractions of numbers that are not too long are compared. -/
theorem cmp_frac (H : AHeap) {w1 w2 w3 w4 : AV} {x1 y1 x2 y2 : Int} (h1 : AtN H w1 x1) (h2 : AtN H w2 y1) (h3 : AtN H w3 x2) (h4 : AtN H w4 y2) (b1 : x1 < BB ^ 64) (b2 : y1 < BB ^ 64) (b3 : x2 < BB ^ 64) (b4 : y2 < BB ^ 64) (z1 : y1 ≠ 0) (z2 : y2 ≠ 0) :
    ACalls Tryd.prog 7 [.agg [w1, w2], .agg [w3, w4]] H (List.range H.length) fun v H' => v = .tuple [.int .i64 (cmpI (x1 * y2) (x2 * y1)), .int .i64 0] ∧ Base H H' := by
  obtain ⟨l1, m1, k1⟩ := h1.x b1
  obtain ⟨l2, m2, k2⟩ := h2.x b2
  obtain ⟨l3, m3, k3⟩ := h3.x b3
  obtain ⟨l4, m4, k4⟩ := h4.x b4
  have hcf : cfE [⟨w1, w2, x1, y1, l1, l2⟩, ⟨w3, w4, x2, y2, l3, l4⟩] = 0 := cfE_zero m1 m2 m3 m4 z1 z2
  have hfc : fcC ⟨w1, w2, x1, y1, l1, l2⟩ ⟨w3, w4, x2, y2, l3, l4⟩ = cmpI (x1 * y2) (x2 * y1) := by unfold fcC; rw [if_pos hcf]
  have hcmp := xFracCompare_calls H (q := ⟨w1, w2, x1, y1, l1, l2⟩) (p := ⟨w3, w4, x2, y2, l3, l4⟩) ⟨k1, k2, by show l1 ≤ 100000; omega, by show l2 ≤ 100000; omega⟩ ⟨k3, k4, by show l3 ≤ 100000; omega, by show l4 ≤ 100000; omega⟩
  rwa [hcf, hfc] at hcmp
theorem cmp_le {a b : Int} (h : a ≤ b) : cmpI a b ≤ 0 := by
  unfold cmpI
  split
  · omega
  · split <;> omega

end Go.Proofs.YtpkeneadkiabiabDoor


/- ExactExcludes' walk. -/
-- NEWSET
namespace Go.Proofs.YtpkeneadkiabiabDoor
open Go Go.Vh

section
variable {K : St → AHeap → Prop} {d : Option Nat} {s : St} {H : AHeap}
theorem call_rof {x : Int} (h0 : 0 ≤ x) (h1 : x ≤ 18446744073709551615) (hK : ∀ R w, AtN (H ++ R) w x → K (putI d s w) (H ++ R)) : thenC Tryd.prog K d s H [.int .u64 x] (.func 9 []) := by
  refine call_do (rof_calls x h0 h1) [] rfl rfl rfl rfl trivial ?_
  rintro v0 H0' ⟨rfl, row, rfl, hown, hrow⟩
  have hn := new_of_trim (S := two x) (x := x) (c := 2) (row := ⟨true, false, ints .u32 (two x)⟩) (two_range h0 h1) (num_two x) (tz_le _ 2) rfl rfl
  have htl : ((two x).take (tz (two x) 2)).length = tz (two x) 2 := by rw [List.length_take, two_length]; have := tz_le (two x) 2; omega
  rw [m_merge, m_nil, n_mkS (r' := H.length) (d := 0) (by simp [sig])]
  refine hK _ _ ⟨upK (tz (two x) 2), (two x).take (tz (two x) 2), ⟨true, row.slack, renL (sig [] H.length) row.cells⟩, H.length, ?_, ?_, ?_, ?_, hn.limbs, hn.num, hn.norm⟩
  · rw [htl]; unfold upK; split <;> simp_all [okS]
  · rw [htl, Nat.zero_add]
  · simp [Vh.rowAt, renRow, hown]
  · simp only [htl]
    rw [renL_take, hrow, ints_ren]
end
theorem lastF_le {p : Nat → Bool} : ∀ n, lastF p n ≤ n
  | 0 => Nat.le_refl _
  | n + 1 => by
    unfold lastF; split
    · exact Nat.le_succ_of_le (lastF_le n)
    · exact Nat.le_refl _
theorem lastF_ge {p : Nat → Bool} {b : Nat} (h : p b = false) : ∀ n, b ≤ n → b ≤ lastF p n
  | 0, hb => by omega
  | n + 1, hb => by
    unfold lastF; split
    · rename_i ht
      rcases Nat.eq_or_lt_of_le hb with e | e
      · rw [e, ht] at h; cases h
      · exact lastF_ge h n (by omega)
    · exact hb
theorem lastF_false {p : Nat → Bool} (h0 : p 0 = false) : ∀ n, p (lastF p n) = false
  | 0 => h0
  | n + 1 => by
    unfold lastF; split
    · exact lastF_false h0 n
    · rename_i ht; simpa using ht
theorem lastF_true {p : Nat → Bool} : ∀ {n i : Nat}, lastF p n < i → i ≤ n → p i = true
  | 0, i, h1, h2 => by omega
  | n + 1, i, h1, h2 => by
    unfold lastF at h1; split at h1
    · rename_i ht
      rcases Nat.eq_or_lt_of_le h2 with e | e
      · rw [e]; exact ht
      · exact lastF_true h1 (by omega)
    · omega
/-- Bound, where all is in order. -/
theorem bound_ok (H : AHeap) {n k sn : Nat} {w1 w2 : AV} {x y : Int} (hn : n ≤ 512) (hk : k ≤ n) (hs : sn ≤ k) (h1 : AtN H w1 x) (h2 : AtN H w2 y) (hxy : x < y) (hx : 0 ≤ x) (hy : y < BB ^ 64) :
    ACalls Tryd.prog 10 [.int .i64 (n : Int), .int .i64 (k : Int), .int .i64 (sn : Int), .agg [w1, w2]] H (List.range H.length) fun v H' => v = .tuple [.int .i64 ((lastF (exclP n k (sn : Int) x y) n : Nat) : Int), .int .i64 0] ∧ Base H H' := by
  obtain ⟨l1, m1, k1⟩ := h1.x (k := 64) (by omega)
  obtain ⟨l2, m2, k2⟩ := h2.x hy
  have hb := xBound_calls H (q := ⟨w1, w2, x, y, l1, l2⟩) ⟨k1, k2, by show l1 ≤ 100000; omega, by show l2 ≤ 100000; omega⟩ (n : Int) (k : Int) (sn : Int) (by omega) (by omega) (by omega)
  have hcf : cfE [⟨w1, w2, x, y, l1, l2⟩] = 0 := by
    have hy0 : y ≠ 0 := by omega
    simp [cfE, Fr.short, Fr.den, m1, m2, hy0]
  have hok : bdOK (n : Int) (k : Int) (sn : Int) := by unfold bdOK; omega
  have hE : bdE ⟨w1, w2, x, y, l1, l2⟩ (n : Int) (k : Int) (sn : Int) = 0 := by unfold bdE; rw [if_pos hcf, if_pos hok]; exact if_pos hxy
  have hV : bdV ⟨w1, w2, x, y, l1, l2⟩ (n : Int) (k : Int) (sn : Int) = ((lastF (exclP n k (sn : Int) x y) n : Nat) : Int) := by unfold bdV; rw [if_pos hE]; rfl
  rwa [hE, hV] at hb
theorem red_le_iff {W C : Nat} {x y : Int} (hC : 0 < C) : ((W : Int) * y ≤ x * (C : Int)) ↔ redX (W : Int) (C : Int) * y ≤ x * redX (C : Int) (W : Int) := by
  obtain ⟨a, c, g, pg, _, rfl, rfl, _, e1, e2⟩ := red_parts (x := W) hC
  rw [e1, e2, Int.natCast_mul, Int.natCast_mul]
  have e3 : (a : Int) * (g : Int) * y = (a : Int) * y * (g : Int) := by rw [Int.mul_assoc, Int.mul_comm (g : Int), ← Int.mul_assoc]
  have e4 : x * ((c : Int) * (g : Int)) = x * (c : Int) * (g : Int) := by rw [Int.mul_assoc]
  rw [e3, e4]
  constructor
  · intro h; exact Int.le_of_mul_le_mul_right h (by omega)
  · intro h; exact Int.mul_le_mul_of_nonneg_right h (by omega)
theorem cmp_gt {a b : Int} (h : b < a) : cmpI a b = 1 := by unfold cmpI; rw [if_neg (by omega), if_pos h]
theorem excl_less {n k b : Nat} {s x x' y : Int} (h : x' ≤ x) (hf : exclP n k s x y b = false) : exclP n k s x' y b = false := by
  unfold exclP at hf ⊢
  rw [decide_eq_false_iff_not] at hf ⊢
  intro h2
  have : x' * ((cnk n k : Nat) : Int) ≤ x * ((cnk n k : Nat) : Int) := Int.mul_le_mul_of_nonneg_right h (by omega)
  exact hf (by omega)
theorem excl_seen {n k b sn : Nat} {x y : Int} (hy : 0 ≤ y) (hf : exclP n k (sn : Int) x y b = false) : exclP n k ((sn + 1 : Nat) : Int) x y b = false := by
  unfold exclP at hf ⊢
  rw [decide_eq_false_iff_not] at hf ⊢
  intro h2
  have h3 := wT_seen (n := n) (b := b) (k := k) (s := sn)
  have h4 : ((wT n b k (sn : Int) : Nat) : Int) * y ≤ ((wT n b k ((sn + 1 : Nat) : Int) : Nat) : Int) * y := Int.mul_le_mul_of_nonneg_right (by rw [show ((sn + 1 : Nat) : Int) = (sn : Int) + 1 by omega]; omega) hy
  exact hf (by omega)

set_option maxHeartbeats 4000000 in
theorem excludes_calls {Ww : List Nat} (hw : ACalls Tryd.prog 8 [] [] Ww fun v _ => v = .bool true) (a0 a1 a2 p q : Int) (h0 : 0 ≤ a0 ∧ a0 ≤ 65535) (h1 : 0 ≤ a1 ∧ a1 ≤ 65535) (h2 : 0 ≤ a2 ∧ a2 ≤ 65535) (h3 : 0 ≤ p ∧ p ≤ 4294967295) (h4 : 0 ≤ q ∧ q ≤ 4294967295) :
    ACalls Tryd.prog 4 [.int .u16 a0, .int .u16 a1, .int .u16 a2, .int .u32 p, .int .u32 q] [] (List.range 0) fun v _ => v = .bool true := by
  refine ACalls.body Tryd.func4 ent_excludes ir_excludes_ok rs_excludes_ok Tryd.ntmps4 (by simp) rfl ?_
  unfold ir_excludes
  have e0 : s0 [.int .u16 a0, .int .u16 a1, .int .u16 a2, .int .u32 p, .int .u32 q] 0 = .int .u16 a0 := rfl
  have e1 : s0 [.int .u16 a0, .int .u16 a1, .int .u16 a2, .int .u32 p, .int .u32 q] 1 = .int .u16 a1 := rfl
  have e2 : s0 [.int .u16 a0, .int .u16 a1, .int .u16 a2, .int .u32 p, .int .u32 q] 2 = .int .u16 a2 := rfl
  have e3 : s0 [.int .u16 a0, .int .u16 a1, .int .u16 a2, .int .u32 p, .int .u32 q] 3 = .int .u32 p := rfl
  have e4 : s0 [.int .u16 a0, .int .u16 a1, .int .u16 a2, .int .u32 p, .int .u32 q] 4 = .int .u32 q := rfl
  have hz : [AV.nilslice, AV.nilslice].all AV.cell = true := rfl
  obtain ⟨n, hn⟩ : ∃ n : Nat, a0 % 513 = n := ⟨(a0 % 513).toNat, by omega⟩
  have hn1 : n ≤ 512 := by omega
  have q3 := Int.emod_lt_of_pos a1 (show (0 : Int) < (n : Int) + 1 by omega)
  have q4 := Int.emod_nonneg a1 (show (n : Int) + 1 ≠ 0 by omega)
  obtain ⟨k, hk⟩ : ∃ k : Nat, a1 % ((n : Int) + 1) = k := ⟨(a1 % ((n : Int) + 1)).toNat, by omega⟩
  have q5 := Int.emod_lt_of_pos a2 (show (0 : Int) < (k : Int) + 1 by omega)
  have q6 := Int.emod_nonneg a2 (show (k : Int) + 1 ≠ 0 by omega)
  obtain ⟨sn, hs⟩ : ∃ sn : Nat, a2 % ((k : Int) + 1) = sn := ⟨(a2 % ((k : Int) + 1)).toNat, by omega⟩
  have hx0 : IntKind.i64.wrap a0 = a0 := by rw [w64 (by omega) (by omega)]
  have hx1 : IntKind.i64.wrap a1 = a1 := by rw [w64 (by omega) (by omega)]
  have hx2 : IntKind.i64.wrap a2 = a2 := by rw [w64 (by omega) (by omega)]
  have hx3 : IntKind.u64.wrap p = p := by rw [wu64 (by omega) (by omega)]
  have hx4 : IntKind.u64.wrap q = q := by rw [wu64 (by omega) (by omega)]
  have hkn : k ≤ n := by omega
  have hsk : sn ≤ k := by omega
  have hs1 : (sn : Int) + 1 = ((sn + 1 : Nat) : Int) := by omega
  obtain ⟨y, hy⟩ : ∃ y : Int, p + q + 1 = y := ⟨_, rfl⟩
  have b64 : (8589934592 : Int) < BB ^ 64 := by
    have := BB_mono (show 2 ≤ 64 by omega)
    have h1 : BB ^ 2 = 18446744073709551616 := by rw [Int.pow_succ, Int.pow_succ]; simp [BB]
    omega
  have yb : y < BB ^ 64 := by omega
  have pb : p < BB ^ 64 := by omega
  have pC := cnk_pos2 n k hkn
  have BC := cnk_bb (k := k) hn1
  have hz0 := excl_zero (n := n) (k := k) (seen := (sn : Int)) (x := p) (y := y) hkn (by omega) (by omega) (b := 0) (by omega) (by omega)
  have hzs := excl_zero (n := n) (k := k) (seen := (sn : Int)) (x := p) (y := y) hkn (by omega) (by omega) (b := sn) (by omega) (by omega)
  have hBf := lastF_false hz0 n
  have hBs := lastF_ge hzs n (by omega)
  have hBn := lastF_le (p := exclP n k (sn : Int) p y) n
  have hBt := fun i => lastF_true (p := exclP n k (sn : Int) p y) (n := n) (i := i)
  have hP := fun (H : AHeap) (w1 w2 : AV) (g1 : AtN H w1 p) (g2 : AtN H w2 y) => bound_ok H (n := n) (k := k) (sn := sn) hn1 hkn hsk g1 g2 (by omega) (by omega) yb
  have hP2 := fun (H : AHeap) (w1 w2 : AV) (g1 : AtN H w1 (p / 2)) (g2 : AtN H w2 y) => bound_ok H (n := n) (k := k) (sn := sn) hn1 hkn hsk g1 g2 (by omega) (by omega) yb
  have hP3 := fun (hlt : sn < k) (H : AHeap) (w1 w2 : AV) (g1 : AtN H w1 p) (g2 : AtN H w2 y) => bound_ok H (n := n) (k := k) (sn := sn + 1) hn1 hkn hlt g1 g2 (by omega) (by omega) yb
  have g2 := lastF_ge (excl_less (x' := p / 2) (by omega) hBf) n hBn
  have g3 := lastF_ge (excl_seen (by omega) hBf) n hBn
  generalize lastF (exclP n k (sn : Int) p y) n = B at *
  generalize lastF (exclP n k (sn : Int) (p / 2) y) n = B2 at *
  generalize lastF (exclP n k ((sn + 1 : Nat) : Int) p y) n = B3 at *
  have hB1 : (B : Int) + 1 = ((B + 1 : Nat) : Int) := by omega
  have T1 := tail_ok (seen := (sn : Int)) (b := B) hn1 hBn hkn (by omega)
  have W1b := wT_bb (seen := (sn : Int)) hn1 hBn hkn
  have L1 : redX ((wT n B k (sn : Int) : Nat) : Int) ((cnk n k : Nat) : Int) * y > p * redX ((cnk n k : Nat) : Int) ((wT n B k (sn : Int) : Nat) : Int) := by
    unfold exclP at hBf
    rw [decide_eq_false_iff_not, red_le_iff pC] at hBf
    omega
  have c1 := cmp_gt L1
  have z1 := red_pos (x := ((cnk n k : Nat) : Int)) (y := ((wT n B k (sn : Int) : Nat) : Int)) (by omega)
  have x1 := red_bb (x := ((wT n B k (sn : Int) : Nat) : Int)) (y := ((cnk n k : Nat) : Int)) (by omega) W1b
  have y1 := red_bb (x := ((cnk n k : Nat) : Int)) (y := ((wT n B k (sn : Int) : Nat) : Int)) (by omega) BC
  have hmore : B < n → ACalls Tryd.prog 5 [.int .i64 (n : Int), .int .i64 ((B + 1 : Nat) : Int), .int .i64 (k : Int), .int .i64 (sn : Int)] [] (List.range 0) (UpF (redX ((wT n (B + 1) k (sn : Int) : Nat) : Int) ((cnk n k : Nat) : Int)) (redX ((cnk n k : Nat) : Int) ((wT n (B + 1) k (sn : Int) : Nat) : Int)) 0 []) ∧ cmpI (redX ((wT n (B + 1) k (sn : Int) : Nat) : Int) ((cnk n k : Nat) : Int) * y) (p * redX ((cnk n k : Nat) : Int) ((wT n (B + 1) k (sn : Int) : Nat) : Int)) ≤ 0 ∧ 0 < redX ((cnk n k : Nat) : Int) ((wT n (B + 1) k (sn : Int) : Nat) : Int) ∧ redX ((wT n (B + 1) k (sn : Int) : Nat) : Int) ((cnk n k : Nat) : Int) < BB ^ 64 ∧ redX ((cnk n k : Nat) : Int) ((wT n (B + 1) k (sn : Int) : Nat) : Int) < BB ^ 64 := by
    intro hlt
    have ht := hBt (B + 1) (by omega) (by omega)
    unfold exclP at ht
    rw [decide_eq_true_eq, red_le_iff pC] at ht
    exact ⟨tail_ok hn1 (by omega) hkn (by omega), cmp_le ht, red_pos (by omega), red_bb (by omega) (wT_bb hn1 (by omega) hkn), red_bb (by omega) BC⟩
  clear hBf hBt L1 W1b BC hz0 hzs
  generalize redX ((wT n B k (sn : Int) : Nat) : Int) ((cnk n k : Nat) : Int) = X1 at *
  generalize redX ((cnk n k : Nat) : Int) ((wT n B k (sn : Int) : Nat) : Int) = Y1 at *
  generalize redX ((wT n (B + 1) k (sn : Int) : Nat) : Int) ((cnk n k : Nat) : Int) = X2 at *
  generalize redX ((cnk n k : Nat) : Int) ((wT n (B + 1) k (sn : Int) : Nat) : Int) = Y2 at *
  simp (disch := omega) only [sN, ↓reduceIte, Nat.reduceEqDiff, Nat.reduceAdd, Nat.reduceMul, Nat.reduceSub, reduceCtorEq, e_none, e_some, e_bindS, e0, e1, e2, e3, e4, hx0, hx1, hx2, hx3, hx4, b_rem, hn, hk, hs, hy, List.map_cons, List.map_nil]
  refine call_rof (by omega) (by omega) fun R1 w1 m1 => ?_
  obtain ⟨K1, hK1⟩ : ∃ q, q = [] ++ R1 := ⟨_, rfl⟩
  rw [← hK1] at m1 ⊢
  simp (disch := omega) only [sN, ↓reduceIte, Nat.reduceEqDiff, Nat.reduceAdd, Nat.reduceMul, Nat.reduceSub, reduceCtorEq, e_none, e_some, e_bindS, e3, hx3, List.map_cons, List.map_nil]
  refine call_rof (by omega) (by omega) fun R2 w2 m2 => ?_
  obtain ⟨K2, hK2⟩ : ∃ q, q = K1 ++ R2 := ⟨_, rfl⟩
  have m1' : AtN K2 w1 y := by rw [hK2]; exact m1.base Base.one
  rw [← hK2] at m2 ⊢
  simp (disch := omega) only [sN, ↓reduceIte, Nat.reduceEqDiff, Nat.reduceAdd, Nat.reduceMul, Nat.reduceSub, reduceCtorEq, e_none, e_some, e_bindS, List.map_cons, List.map_nil]
  rw [p_build2 (v1 := w2) (v2 := w1) (by simp only [e_upd, e_putS, e_putN, e_t, e_c, Nat.reduceEqDiff, ↓reduceIte, reduceCtorEq, Nat.reduceAdd]) (by simp only [e_upd, e_putS, e_putN, e_t, e_c, Nat.reduceEqDiff, ↓reduceIte, reduceCtorEq, Nat.reduceAdd]) m2.cell m1.cell]
  simp (disch := omega) only [sN, ↓reduceIte, Nat.reduceEqDiff, Nat.reduceAdd, Nat.reduceMul, Nat.reduceSub, reduceCtorEq, e_none, e_some, e_bindS]
  rw [x_allocA hz]
  simp (disch := omega) only [sN, ↓reduceIte, Nat.reduceEqDiff, Nat.reduceAdd, Nat.reduceMul, Nat.reduceSub, reduceCtorEq, e_none, e_some, e_bindS]
  rw [x_storeNA (n := 2) (r := K2.length) (l := [.nilslice, .nilslice]) (l' := [w2, w1]) (by simp only [e_upd, e_putS, e_putN, e_t, e_c, Nat.reduceEqDiff, ↓reduceIte, reduceCtorEq, Nat.reduceAdd]) (by simp only [e_upd, e_putS, e_putN, e_t, e_c, Nat.reduceEqDiff, ↓reduceIte, reduceCtorEq, Nat.reduceAdd]) (by simp [m1.cell, m2.cell]) (by simp [Vh.rowAt, rw_]) rfl rfl, set_last]
  obtain ⟨H2, hH2⟩ : ∃ q, q = K2 ++ [rw_ [w2, w1]] := ⟨_, rfl⟩
  have r15 : Vh.rowAt H2 K2.length = some ⟨true, false, [w2, w1]⟩ := by rw [hH2]; simp [Vh.rowAt, rw_]
  replace m1 : AtN H2 w1 y := by rw [hH2]; exact m1'.base Base.one
  replace m2 : AtN H2 w2 p := by rw [hH2]; exact m2.base Base.one
  rw [← hH2]
  clear hH2 hK2 hK1 m1'
  simp (disch := omega) only [sN, ↓reduceIte, Nat.reduceEqDiff, Nat.reduceAdd, Nat.reduceMul, Nat.reduceSub, reduceCtorEq, e_none, e_some, e_bindS]
  rw [x_loadNA (n := 2) (r := K2.length) (row := ⟨true, false, [w2, w1]⟩) (l := [w2, w1]) (by simp only [e_upd, e_putS, e_putN, e_t, e_c, Nat.reduceEqDiff, ↓reduceIte, reduceCtorEq, Nat.reduceAdd]) r15 rfl rfl]
  simp (disch := omega) only [sN, ↓reduceIte, Nat.reduceEqDiff, Nat.reduceAdd, Nat.reduceMul, Nat.reduceSub, reduceCtorEq, e_none, e_some, e_bindS, List.map_cons, List.map_nil]
  refine ⟨_, (hP H2 w2 w1 m2 m1).g.mono ?_⟩
  rintro v3 H3 ⟨rfl, hB3⟩
  simp (disch := omega) only [sN, ↓reduceIte, Nat.reduceEqDiff, Nat.reduceAdd, Nat.reduceMul, Nat.reduceSub, reduceCtorEq, e_none, e_some, e_bindS, List.map_cons, List.map_nil, List.getElem?_cons_zero, List.getElem?_cons_succ]
  refine call_in0 (Q := UpF X1 Y1 0) T1 rfl (hk_F fun R4 u4 v4 n4 k4 => ?_)
  obtain ⟨K4, hK4⟩ : ∃ q, q = H3 ++ R4 := ⟨_, rfl⟩
  rw [← hK4] at n4 k4 ⊢
  have hBK4 : Base H2 K4 := by rw [hK4]; exact hB3.trans Base.one
  simp (disch := omega) only [sN, ↓reduceIte, Nat.reduceEqDiff, Nat.reduceAdd, Nat.reduceMul, Nat.reduceSub, reduceCtorEq, e_none, e_some, e_bindS, List.map_cons, List.map_nil, List.getElem?_cons_zero, List.getElem?_cons_succ]
  rw [x_allocA hz]
  simp (disch := omega) only [sN, ↓reduceIte, Nat.reduceEqDiff, Nat.reduceAdd, Nat.reduceMul, Nat.reduceSub, reduceCtorEq, e_none, e_some, e_bindS]
  rw [x_storeNA (n := 2) (r := K4.length) (l := [.nilslice, .nilslice]) (l' := [u4, v4]) (by simp only [e_upd, e_putS, e_putN, e_t, e_c, Nat.reduceEqDiff, ↓reduceIte, reduceCtorEq, Nat.reduceAdd]) (by simp only [e_upd, e_putS, e_putN, e_t, e_c, Nat.reduceEqDiff, ↓reduceIte, reduceCtorEq, Nat.reduceAdd]) (by simp [n4.cell, k4.cell]) (by simp [Vh.rowAt, rw_]) rfl rfl, set_last]
  obtain ⟨H4, hH4⟩ : ∃ q, q = K4 ++ [rw_ [u4, v4]] := ⟨_, rfl⟩
  have hBH4 : Base K4 H4 := by rw [hH4]; exact Base.one
  have r18 : Vh.rowAt H4 K4.length = some ⟨true, false, [u4, v4]⟩ := by rw [hH4]; simp [Vh.rowAt, rw_]
  have c4 : AtN H4 u4 X1 := by rw [hH4] at *; exact n4.app.normAt r18
  have d4 : AtN H4 v4 Y1 := by rw [hH4] at *; exact k4.app.normAt r18
  rw [← hH4]
  clear n4 k4 hK4
  have hl4 : K4.length < H4.length := by rw [hH4]; simp
  clear hH4
  have hB4 := hBK4.trans hBH4
  simp (disch := omega) only [sN, ↓reduceIte, Nat.reduceEqDiff, Nat.reduceAdd, Nat.reduceMul, Nat.reduceSub, reduceCtorEq, e_none, e_some, e_bindS]
  rw [x_loadNA (n := 2) (r := K4.length) (row := ⟨true, false, [u4, v4]⟩) (l := [u4, v4]) (by simp only [e_upd, e_putS, e_putN, e_t, e_c, Nat.reduceEqDiff, ↓reduceIte, reduceCtorEq, Nat.reduceAdd]) r18 rfl rfl]
  simp (disch := omega) only [sN, ↓reduceIte, Nat.reduceEqDiff, Nat.reduceAdd, Nat.reduceMul, Nat.reduceSub, reduceCtorEq, e_none, e_some, e_bindS]
  rw [x_loadNA (n := 2) (r := K2.length) (row := ⟨true, false, [w2, w1]⟩) (l := [w2, w1]) (by simp only [e_upd, e_putS, e_putN, e_t, e_c, Nat.reduceEqDiff, ↓reduceIte, reduceCtorEq, Nat.reduceAdd]) (hB4.row r15) rfl rfl]
  simp (disch := omega) only [sN, ↓reduceIte, Nat.reduceEqDiff, Nat.reduceAdd, Nat.reduceMul, Nat.reduceSub, reduceCtorEq, e_none, e_some, e_bindS, List.map_cons, List.map_nil]
  refine ⟨_, (cmp_frac H4 c4 d4 (m2.base hB4) (m1.base hB4) x1 y1 pb yb (by omega) (by omega)).g.mono ?_⟩
  rintro v5 H5 ⟨rfl, hB5⟩
  rw [c1]
  have hB25 := hB4.trans hB5
  have hBK5 := hBH4.trans hB5
  have hl5 : K4.length < H5.length := Nat.lt_of_lt_of_le hl4 hB5.1
  have r185 := hB5.row r18
  clear r18 c4 d4 hB4 hB5 hBH4 hl4 H4
  simp (disch := omega) only [sN, ↓reduceIte, Nat.reduceEqDiff, Nat.reduceAdd, Nat.reduceMul, Nat.reduceSub, reduceCtorEq, e_none, e_some, e_bindS, List.map_cons, List.map_nil, List.getElem?_cons_zero, List.getElem?_cons_succ]
  by_cases hlt : B < n
  · obtain ⟨T2, c2, z2, x2, y2⟩ := hmore hlt
    simp (disch := omega) only [sN, ↓reduceIte, Nat.reduceEqDiff, Nat.reduceAdd, Nat.reduceMul, Nat.reduceSub, reduceCtorEq, e_none, e_some, e_bindS, hB1, List.map_cons, List.map_nil]
    refine call_in0 (Q := UpF X2 Y2 0) T2 rfl (hk_F fun R5 u5 v5 n5 k5 => ?_)
    have hBR : Base K4 (H5 ++ R5) := hBK5.trans Base.one
    simp (disch := omega) only [sN, ↓reduceIte, Nat.reduceEqDiff, Nat.reduceAdd, Nat.reduceMul, Nat.reduceSub, reduceCtorEq, e_none, e_some, e_bindS, List.map_cons, List.map_nil, List.getElem?_cons_zero, List.getElem?_cons_succ]
    rw [x_storeNA (n := 2) (r := K4.length) (l := [u4, v4]) (l' := [u5, v5]) (by simp only [e_upd, e_putS, e_putN, e_t, e_c, Nat.reduceEqDiff, ↓reduceIte, reduceCtorEq, Nat.reduceAdd]) (by simp only [e_upd, e_putS, e_putN, e_t, e_c, Nat.reduceEqDiff, ↓reduceIte, reduceCtorEq, Nat.reduceAdd]) (by simp [n5.cell, k5.cell]) (by rw [rowAt_append_left hl5]; exact r185) rfl rfl]
    obtain ⟨H9, hH9⟩ : ∃ q, q = (H5 ++ R5).set K4.length (rw_ [u5, v5]) := ⟨_, rfl⟩
    have hB9 : Base K4 H9 := by rw [hH9]; exact hBR.set (Nat.le_refl _)
    have r189 : Vh.rowAt H9 K4.length = some ⟨true, false, [u5, v5]⟩ := by rw [hH9, rowAt_set (by simp; omega), if_pos rfl]; rfl
    have c9 : AtN H9 u5 X2 := by rw [hH9] at *; exact (n5.set hl5).normAt r189
    have d9 : AtN H9 v5 Y2 := by rw [hH9] at *; exact (k5.set hl5).normAt r189
    rw [← hH9]
    clear n5 k5 hH9 hBR r185 hl5
    have hB29 := hBK4.trans hB9
    simp (disch := omega) only [sN, ↓reduceIte, Nat.reduceEqDiff, Nat.reduceAdd, Nat.reduceMul, Nat.reduceSub, reduceCtorEq, e_none, e_some, e_bindS]
    rw [x_loadNA (n := 2) (r := K4.length) (row := ⟨true, false, [u5, v5]⟩) (l := [u5, v5]) (by simp only [e_upd, e_putS, e_putN, e_t, e_c, Nat.reduceEqDiff, ↓reduceIte, reduceCtorEq, Nat.reduceAdd]) r189 rfl rfl]
    simp (disch := omega) only [sN, ↓reduceIte, Nat.reduceEqDiff, Nat.reduceAdd, Nat.reduceMul, Nat.reduceSub, reduceCtorEq, e_none, e_some, e_bindS]
    rw [x_loadNA (n := 2) (r := K2.length) (row := ⟨true, false, [w2, w1]⟩) (l := [w2, w1]) (by simp only [e_upd, e_putS, e_putN, e_t, e_c, Nat.reduceEqDiff, ↓reduceIte, reduceCtorEq, Nat.reduceAdd]) (hB29.row r15) rfl rfl]
    simp (disch := omega) only [sN, ↓reduceIte, Nat.reduceEqDiff, Nat.reduceAdd, Nat.reduceMul, Nat.reduceSub, reduceCtorEq, e_none, e_some, e_bindS, List.map_cons, List.map_nil]
    refine ⟨_, (cmp_frac H9 c9 d9 (m2.base hB29) (m1.base hB29) x2 y2 pb yb (by omega) (by omega)).g.mono ?_⟩
    rintro v10 H10 ⟨rfl, hB10⟩
    have hB210 := hB29.trans hB10
    simp (disch := omega) only [sN, ↓reduceIte, Nat.reduceEqDiff, Nat.reduceAdd, Nat.reduceMul, Nat.reduceSub, reduceCtorEq, e_none, e_some, e_bindS, e3, hx3, b_quo, List.map_cons, List.map_nil, List.getElem?_cons_zero, List.getElem?_cons_succ]
    refine call_rof (by omega) (by omega) fun R6 w6 m6 => ?_
    obtain ⟨K6, hK6⟩ : ∃ q, q = H10 ++ R6 := ⟨_, rfl⟩
    have hBK6 : Base H2 K6 := by rw [hK6]; exact hB210.trans Base.one
    rw [← hK6] at m6 ⊢
    clear hK6
    simp (disch := omega) only [sN, ↓reduceIte, Nat.reduceEqDiff, Nat.reduceAdd, Nat.reduceMul, Nat.reduceSub, reduceCtorEq, e_none, e_some, e_bindS, List.map_cons, List.map_nil]
    rw [p_build2 (v1 := w6) (v2 := w1) (by simp only [e_upd, e_putS, e_putN, e_t, e_c, Nat.reduceEqDiff, ↓reduceIte, reduceCtorEq, Nat.reduceAdd]) (by simp only [e_upd, e_putS, e_putN, e_t, e_c, Nat.reduceEqDiff, ↓reduceIte, reduceCtorEq, Nat.reduceAdd]) m6.cell m1.cell]
    simp (disch := omega) only [sN, ↓reduceIte, Nat.reduceEqDiff, Nat.reduceAdd, Nat.reduceMul, Nat.reduceSub, reduceCtorEq, e_none, e_some, e_bindS]
    rw [x_allocA hz]
    simp (disch := omega) only [sN, ↓reduceIte, Nat.reduceEqDiff, Nat.reduceAdd, Nat.reduceMul, Nat.reduceSub, reduceCtorEq, e_none, e_some, e_bindS]
    rw [x_storeNA (n := 2) (r := K6.length) (l := [.nilslice, .nilslice]) (l' := [w6, w1]) (by simp only [e_upd, e_putS, e_putN, e_t, e_c, Nat.reduceEqDiff, ↓reduceIte, reduceCtorEq, Nat.reduceAdd]) (by simp only [e_upd, e_putS, e_putN, e_t, e_c, Nat.reduceEqDiff, ↓reduceIte, reduceCtorEq, Nat.reduceAdd]) (by simp [m1.cell, m6.cell]) (by simp [Vh.rowAt, rw_]) rfl rfl, set_last]
    obtain ⟨H6, hH6⟩ : ∃ q, q = K6 ++ [rw_ [w6, w1]] := ⟨_, rfl⟩
    have hB6 : Base H2 H6 := by rw [hH6]; exact hBK6.trans Base.one
    have r22 : Vh.rowAt H6 K6.length = some ⟨true, false, [w6, w1]⟩ := by rw [hH6]; simp [Vh.rowAt, rw_]
    replace m6 : AtN H6 w6 (p / 2) := by rw [hH6]; exact m6.base Base.one
    rw [← hH6]
    clear hH6
    simp (disch := omega) only [sN, ↓reduceIte, Nat.reduceEqDiff, Nat.reduceAdd, Nat.reduceMul, Nat.reduceSub, reduceCtorEq, e_none, e_some, e_bindS]
    rw [x_loadNA (n := 2) (r := K6.length) (row := ⟨true, false, [w6, w1]⟩) (l := [w6, w1]) (by simp only [e_upd, e_putS, e_putN, e_t, e_c, Nat.reduceEqDiff, ↓reduceIte, reduceCtorEq, Nat.reduceAdd]) r22 rfl rfl]
    simp (disch := omega) only [sN, ↓reduceIte, Nat.reduceEqDiff, Nat.reduceAdd, Nat.reduceMul, Nat.reduceSub, reduceCtorEq, e_none, e_some, e_bindS, List.map_cons, List.map_nil]
    refine ⟨_, (hP2 H6 w6 w1 m6 (m1.base hB6)).g.mono ?_⟩
    rintro v7 H7 ⟨rfl, hB7⟩
    have hB27 := hB6.trans hB7
    by_cases hlt : sn < k
    · simp (disch := omega) only [sN, ↓reduceIte, Nat.reduceEqDiff, Nat.reduceAdd, Nat.reduceMul, Nat.reduceSub, reduceCtorEq, e_none, e_some, e_bindS, hs1, List.map_cons, List.map_nil, List.getElem?_cons_zero, List.getElem?_cons_succ]
      rw [x_loadNA (n := 2) (r := K2.length) (row := ⟨true, false, [w2, w1]⟩) (l := [w2, w1]) (by simp only [e_upd, e_putS, e_putN, e_t, e_c, Nat.reduceEqDiff, ↓reduceIte, reduceCtorEq, Nat.reduceAdd]) (hB27.row r15) rfl rfl]
      simp (disch := omega) only [sN, ↓reduceIte, Nat.reduceEqDiff, Nat.reduceAdd, Nat.reduceMul, Nat.reduceSub, reduceCtorEq, e_none, e_some, e_bindS, List.map_cons, List.map_nil]
      refine ⟨_, (hP3 hlt H7 w2 w1 (m2.base hB27) (m1.base hB27)).g.mono ?_⟩
      rintro v8 H8 ⟨rfl, hB8⟩
      simp (disch := omega) only [sN, ↓reduceIte, Nat.reduceEqDiff, Nat.reduceAdd, Nat.reduceMul, Nat.reduceSub, reduceCtorEq, e_none, e_some, e_bindS, List.map_cons, List.map_nil, List.getElem?_cons_zero, List.getElem?_cons_succ, beq_self_eq_true]
      refine call_true hw fun H' => ?_
      simp (disch := omega) only [sN, ↓reduceIte, Nat.reduceEqDiff, Nat.reduceAdd, Nat.reduceMul, Nat.reduceSub, reduceCtorEq, e_none, e_some, e_bindS]
      refine ret_keep (by simp) ?_
      simp only [q_tmp, q_then, rs_excludes, e_upd, e_putS, e_putN, e_t, e_c, Nat.reduceEqDiff, ↓reduceIte, reduceCtorEq, Nat.reduceAdd]
    · simp (disch := omega) only [sN, ↓reduceIte, Nat.reduceEqDiff, Nat.reduceAdd, Nat.reduceMul, Nat.reduceSub, reduceCtorEq, e_none, e_some, e_bindS, List.map_cons, List.map_nil, List.getElem?_cons_zero, List.getElem?_cons_succ]
      refine call_true hw fun H' => ?_
      simp (disch := omega) only [sN, ↓reduceIte, Nat.reduceEqDiff, Nat.reduceAdd, Nat.reduceMul, Nat.reduceSub, reduceCtorEq, e_none, e_some, e_bindS]
      refine ret_keep (by simp) ?_
      simp only [q_tmp, q_then, rs_excludes, e_upd, e_putS, e_putN, e_t, e_c, Nat.reduceEqDiff, ↓reduceIte, reduceCtorEq, Nat.reduceAdd]
  · skip
    simp (disch := omega) only [sN, ↓reduceIte, Nat.reduceEqDiff, Nat.reduceAdd, Nat.reduceMul, Nat.reduceSub, reduceCtorEq, e_none, e_some, e_bindS, e3, hx3, b_quo, List.map_cons, List.map_nil, List.getElem?_cons_zero, List.getElem?_cons_succ]
    refine call_rof (by omega) (by omega) fun R6 w6 m6 => ?_
    obtain ⟨K6, hK6⟩ : ∃ q, q = H5 ++ R6 := ⟨_, rfl⟩
    have hBK6 : Base H2 K6 := by rw [hK6]; exact hB25.trans Base.one
    rw [← hK6] at m6 ⊢
    clear hK6
    simp (disch := omega) only [sN, ↓reduceIte, Nat.reduceEqDiff, Nat.reduceAdd, Nat.reduceMul, Nat.reduceSub, reduceCtorEq, e_none, e_some, e_bindS, List.map_cons, List.map_nil]
    rw [p_build2 (v1 := w6) (v2 := w1) (by simp only [e_upd, e_putS, e_putN, e_t, e_c, Nat.reduceEqDiff, ↓reduceIte, reduceCtorEq, Nat.reduceAdd]) (by simp only [e_upd, e_putS, e_putN, e_t, e_c, Nat.reduceEqDiff, ↓reduceIte, reduceCtorEq, Nat.reduceAdd]) m6.cell m1.cell]
    simp (disch := omega) only [sN, ↓reduceIte, Nat.reduceEqDiff, Nat.reduceAdd, Nat.reduceMul, Nat.reduceSub, reduceCtorEq, e_none, e_some, e_bindS]
    rw [x_allocA hz]
    simp (disch := omega) only [sN, ↓reduceIte, Nat.reduceEqDiff, Nat.reduceAdd, Nat.reduceMul, Nat.reduceSub, reduceCtorEq, e_none, e_some, e_bindS]
    rw [x_storeNA (n := 2) (r := K6.length) (l := [.nilslice, .nilslice]) (l' := [w6, w1]) (by simp only [e_upd, e_putS, e_putN, e_t, e_c, Nat.reduceEqDiff, ↓reduceIte, reduceCtorEq, Nat.reduceAdd]) (by simp only [e_upd, e_putS, e_putN, e_t, e_c, Nat.reduceEqDiff, ↓reduceIte, reduceCtorEq, Nat.reduceAdd]) (by simp [m1.cell, m6.cell]) (by simp [Vh.rowAt, rw_]) rfl rfl, set_last]
    obtain ⟨H6, hH6⟩ : ∃ q, q = K6 ++ [rw_ [w6, w1]] := ⟨_, rfl⟩
    have hB6 : Base H2 H6 := by rw [hH6]; exact hBK6.trans Base.one
    have r22 : Vh.rowAt H6 K6.length = some ⟨true, false, [w6, w1]⟩ := by rw [hH6]; simp [Vh.rowAt, rw_]
    replace m6 : AtN H6 w6 (p / 2) := by rw [hH6]; exact m6.base Base.one
    rw [← hH6]
    clear hH6
    simp (disch := omega) only [sN, ↓reduceIte, Nat.reduceEqDiff, Nat.reduceAdd, Nat.reduceMul, Nat.reduceSub, reduceCtorEq, e_none, e_some, e_bindS]
    rw [x_loadNA (n := 2) (r := K6.length) (row := ⟨true, false, [w6, w1]⟩) (l := [w6, w1]) (by simp only [e_upd, e_putS, e_putN, e_t, e_c, Nat.reduceEqDiff, ↓reduceIte, reduceCtorEq, Nat.reduceAdd]) r22 rfl rfl]
    simp (disch := omega) only [sN, ↓reduceIte, Nat.reduceEqDiff, Nat.reduceAdd, Nat.reduceMul, Nat.reduceSub, reduceCtorEq, e_none, e_some, e_bindS, List.map_cons, List.map_nil]
    refine ⟨_, (hP2 H6 w6 w1 m6 (m1.base hB6)).g.mono ?_⟩
    rintro v7 H7 ⟨rfl, hB7⟩
    have hB27 := hB6.trans hB7
    by_cases hlt : sn < k
    · simp (disch := omega) only [sN, ↓reduceIte, Nat.reduceEqDiff, Nat.reduceAdd, Nat.reduceMul, Nat.reduceSub, reduceCtorEq, e_none, e_some, e_bindS, hs1, List.map_cons, List.map_nil, List.getElem?_cons_zero, List.getElem?_cons_succ]
      rw [x_loadNA (n := 2) (r := K2.length) (row := ⟨true, false, [w2, w1]⟩) (l := [w2, w1]) (by simp only [e_upd, e_putS, e_putN, e_t, e_c, Nat.reduceEqDiff, ↓reduceIte, reduceCtorEq, Nat.reduceAdd]) (hB27.row r15) rfl rfl]
      simp (disch := omega) only [sN, ↓reduceIte, Nat.reduceEqDiff, Nat.reduceAdd, Nat.reduceMul, Nat.reduceSub, reduceCtorEq, e_none, e_some, e_bindS, List.map_cons, List.map_nil]
      refine ⟨_, (hP3 hlt H7 w2 w1 (m2.base hB27) (m1.base hB27)).g.mono ?_⟩
      rintro v8 H8 ⟨rfl, hB8⟩
      simp (disch := omega) only [sN, ↓reduceIte, Nat.reduceEqDiff, Nat.reduceAdd, Nat.reduceMul, Nat.reduceSub, reduceCtorEq, e_none, e_some, e_bindS, List.map_cons, List.map_nil, List.getElem?_cons_zero, List.getElem?_cons_succ, beq_self_eq_true]
      refine call_true hw fun H' => ?_
      simp (disch := omega) only [sN, ↓reduceIte, Nat.reduceEqDiff, Nat.reduceAdd, Nat.reduceMul, Nat.reduceSub, reduceCtorEq, e_none, e_some, e_bindS]
      refine ret_keep (by simp) ?_
      simp only [q_tmp, q_then, rs_excludes, e_upd, e_putS, e_putN, e_t, e_c, Nat.reduceEqDiff, ↓reduceIte, reduceCtorEq, Nat.reduceAdd]
    · simp (disch := omega) only [sN, ↓reduceIte, Nat.reduceEqDiff, Nat.reduceAdd, Nat.reduceMul, Nat.reduceSub, reduceCtorEq, e_none, e_some, e_bindS, List.map_cons, List.map_nil, List.getElem?_cons_zero, List.getElem?_cons_succ]
      refine call_true hw fun H' => ?_
      simp (disch := omega) only [sN, ↓reduceIte, Nat.reduceEqDiff, Nat.reduceAdd, Nat.reduceMul, Nat.reduceSub, reduceCtorEq, e_none, e_some, e_bindS]
      refine ret_keep (by simp) ?_
      simp only [q_tmp, q_then, rs_excludes, e_upd, e_putS, e_putN, e_t, e_c, Nat.reduceEqDiff, ↓reduceIte, reduceCtorEq, Nat.reduceAdd]
end Go.Proofs.YtpkeneadkiabiabDoor

