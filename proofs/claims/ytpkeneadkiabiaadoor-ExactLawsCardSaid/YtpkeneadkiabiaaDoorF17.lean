/- ExactLaws' walk. -/
import Derived.Test.YtpkeneadkiabiaaDoorF16
set_option linter.unusedSimpArgs false
set_option linter.unusedVariables false
-- NEWSET
namespace Go.Proofs.YtpkeneadkiabiaaDoor
open Go Go.Vh

theorem add_pow {x y : Int} {j : Nat} (hx : x < BB ^ j) (hy : y < BB ^ j) : x + y < BB ^ (j + 1) := by
  rw [Int.pow_succ, show BB = 4294967296 from rfl]
  rw [show BB = 4294967296 from rfl] at hx hy
  have : (0 : Int) < 4294967296 ^ j := BB_pos j
  omega
theorem NumV.len0 {H : AHeap} {w : AV} {m : Nat} (h : NumV H w 0 m) : alen w = some 0 := by
  rcases h with ⟨rfl, _⟩ | ⟨κ, l, row, r, h1, rfl, h3, h4⟩
  · rfl
  · have h0 := (tz_zero_iff h4.limbs).2 h4.num
    rw [h4.norm] at h0
    rw [k_len h4.ok (Nat.le_refl _), h0]
/-- What is known of a heap: its first row, and some numbers. -/
structure Has (n0 : Nat) (H : AHeap) (L : List (AV × Int × Nat)) : Prop where
  len : n0 ≤ H.length
  z : ∃ row, Vh.rowAt H 0 = some row
  nums : ∀ p ∈ L, ∃ r, AtK H p.1 p.2.1 r p.2.2
theorem Has.app {n0 : Nat} {H R : AHeap} {L : List (AV × Int × Nat)} (h : Has n0 H L) : Has n0 (H ++ R) L := by
  obtain ⟨hlen, ⟨row, hr⟩, hn⟩ := h
  exact ⟨by rw [List.length_append]; omega, ⟨row, by rw [rowAt_append_left (rowAt_lt hr)]; exact hr⟩, fun p hp => by obtain ⟨r, h⟩ := hn p hp; exact ⟨r, h.app⟩⟩
theorem Has.cons {n0 : Nat} {H : AHeap} {L : List (AV × Int × Nat)} {w : AV} {x : Int} {m k : Nat} (h : Has n0 H L) (hw : NumV H w x m) (hx : x < BB ^ k) : Has n0 H ((w, x, k) :: L) := by
  obtain ⟨row, hr⟩ := h.z
  refine ⟨h.len, ⟨row, hr⟩, fun p hp => ?_⟩
  rcases List.mem_cons.1 hp with rfl | hp
  · exact hw.at hr hx
  · exact h.nums p hp
section
variable {f : FuncId} {x y z z' e : Int} {k k' m m' n0 : Nat} {u v c : AV} {rest : List AV} {K : St → AHeap → Prop} {d : Option Nat} {s : St} {H : AHeap} {L : List (AV × Int × Nat)}
/-- A call of two of these numbers that answers one. -/
theorem hs_N (h : In2 f x y k k' [] (UpN z)) (hL : Has n0 H L) (hu : (u, x, m) ∈ L) (hv : (v, y, m') ∈ L) (hm : m ≤ k) (hm' : m' ≤ k') {b : Nat} (hb : z < BB ^ b) (hK : ∀ H' w, Has n0 H' ((w, z, b) :: L) → AtN H' w z → (∀ w2 z2, AtN H w2 z2 → AtN H' w2 z2) → K (putI d s w) H') : thenC Tryd.prog K d s H [u, v] (.func f []) := by
  obtain ⟨a, ha⟩ := hL.nums _ hu
  obtain ⟨a', ha'⟩ := hL.nums _ hv
  refine call_in2 h rfl (ha.mono hm) (ha'.mono hm') (hk_N fun R w hw => ?_)
  obtain ⟨row, hr⟩ := hL.app (R := R) |>.z
  refine hK _ _ (hL.app.cons hw hb) (hw.norm hr) fun w2 z2 ⟨κ, l, row2, r, h1, h2, h3, h4⟩ => ⟨κ, l, row2, r, h1, h2, by rw [rowAt_append_left (rowAt_lt h3)]; exact h3, h4⟩
theorem hs_E (h : In2 f x y k k' [] (UpE z e)) (hL : Has n0 H L) (hu : (u, x, m) ∈ L) (hv : (v, y, m') ∈ L) (hm : m ≤ k) (hm' : m' ≤ k') {b : Nat} (hb : z < BB ^ b) (hK : ∀ H' w, Has n0 H' ((w, z, b) :: L) → AtN H' w z → (∀ w2 z2, AtN H w2 z2 → AtN H' w2 z2) → K (putI d s (.tuple [w, .int .i64 e])) H') : thenC Tryd.prog K d s H [u, v] (.func f []) := by
  obtain ⟨a, ha⟩ := hL.nums _ hu
  obtain ⟨a', ha'⟩ := hL.nums _ hv
  refine call_in2 h rfl (ha.mono hm) (ha'.mono hm') (hk_E fun R w hw => ?_)
  obtain ⟨row, hr⟩ := hL.app (R := R) |>.z
  refine hK _ _ (hL.app.cons hw hb) (hw.norm hr) fun w2 z2 ⟨κ, l, row2, r, h1, h2, h3, h4⟩ => ⟨κ, l, row2, r, h1, h2, by rw [rowAt_append_left (rowAt_lt h3)]; exact h3, h4⟩
theorem hs_2E (h : In2 f x y k k' [] (Up2E z z' e)) (hL : Has n0 H L) (hu : (u, x, m) ∈ L) (hv : (v, y, m') ∈ L) (hm : m ≤ k) (hm' : m' ≤ k') {b b' : Nat} (hb : z < BB ^ b) (hb' : z' < BB ^ b') (hK : ∀ H' w w', Has n0 H' ((w, z, b) :: (w', z', b') :: L) → AtN H' w z → AtN H' w' z' → (∀ w2 z2, AtN H w2 z2 → AtN H' w2 z2) → (z' = 0 → alen w' = some 0) → K (putI d s (.tuple [w, w', .int .i64 e])) H') : thenC Tryd.prog K d s H [u, v] (.func f []) := by
  obtain ⟨a, ha⟩ := hL.nums _ hu
  obtain ⟨a', ha'⟩ := hL.nums _ hv
  refine call_in2 h rfl (ha.mono hm) (ha'.mono hm') (hk_2E fun R w w' hw hw' => ?_)
  obtain ⟨row, hr⟩ := hL.app (R := R) |>.z
  refine hK _ _ _ ((hL.app.cons hw' hb').cons hw hb) (hw.norm hr) (hw'.norm hr) (fun w2 z2 ⟨κ, l, row2, r, h1, h2, h3, h4⟩ => ⟨κ, l, row2, r, h1, h2, by rw [rowAt_append_left (rowAt_lt h3)]; exact h3, h4⟩) fun h0 => ?_
  subst h0
  exact hw'.len0
theorem hs_P (h : In2 f x y k k' [] (UpP c)) (hc : ∀ σ, c.ren σ = c) (hL : Has n0 H L) (hu : (u, x, m) ∈ L) (hv : (v, y, m') ∈ L) (hm : m ≤ k) (hm' : m' ≤ k') (hK : ∀ H', Has n0 H' L → (∀ w2 z2, AtN H w2 z2 → AtN H' w2 z2) → K (putI d s c) H') : thenC Tryd.prog K d s H [u, v] (.func f []) := by
  obtain ⟨a, ha⟩ := hL.nums _ hu
  obtain ⟨a', ha'⟩ := hL.nums _ hv
  refine call_in2 h rfl (ha.mono hm) (ha'.mono hm') (hk_P hc fun R => ?_)
  refine hK _ hL.app fun w2 z2 ⟨κ, l, row2, r, h1, h2, h3, h4⟩ => ⟨κ, l, row2, r, h1, h2, by rw [rowAt_append_left (rowAt_lt h3)]; exact h3, h4⟩
theorem hs_E1 (h : In1 f x k [] (UpE z e)) (hL : Has n0 H L) (hu : (u, x, m) ∈ L) (hm : m ≤ k) {b : Nat} (hb : z < BB ^ b) (hK : ∀ H' w, Has n0 H' ((w, z, b) :: L) → AtN H' w z → (∀ w2 z2, AtN H w2 z2 → AtN H' w2 z2) → K (putI d s (.tuple [w, .int .i64 e])) H') : thenC Tryd.prog K d s H [u] (.func f []) := by
  obtain ⟨a, ha⟩ := hL.nums _ hu
  refine call_in1 h rfl (ha.mono hm) (hk_E fun R w hw => ?_)
  obtain ⟨row, hr⟩ := hL.app (R := R) |>.z
  refine hK _ _ (hL.app.cons hw hb) (hw.norm hr) fun w2 z2 ⟨κ, l, row2, r, h1, h2, h3, h4⟩ => ⟨κ, l, row2, r, h1, h2, by rw [rowAt_append_left (rowAt_lt h3)]; exact h3, h4⟩
theorem hs_P1 (h : In1 f x k [] (UpP c)) (hc : ∀ σ, c.ren σ = c) (hL : Has n0 H L) (hu : (u, x, m) ∈ L) (hm : m ≤ k) (hK : ∀ H', Has n0 H' L → (∀ w2 z2, AtN H w2 z2 → AtN H' w2 z2) → K (putI d s c) H') : thenC Tryd.prog K d s H [u] (.func f []) := by
  obtain ⟨a, ha⟩ := hL.nums _ hu
  refine call_in1 h rfl (ha.mono hm) (hk_P hc fun R => ?_)
  refine hK _ hL.app fun w2 z2 ⟨κ, l, row2, r, h1, h2, h3, h4⟩ => ⟨κ, l, row2, r, h1, h2, by rw [rowAt_append_left (rowAt_lt h3)]; exact h3, h4⟩
end
end Go.Proofs.YtpkeneadkiabiaaDoor
