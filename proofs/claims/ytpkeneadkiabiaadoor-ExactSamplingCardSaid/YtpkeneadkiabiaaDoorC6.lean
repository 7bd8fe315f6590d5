/- The reference's Of: what it computes. -/
import Derived.Test.YtpkeneadkiabiaaDoorV7
import Derived.Test.YtpkeneadkiabiaaDoorC5
set_option linter.unusedSimpArgs false
set_option linter.unusedVariables false
namespace Go.Proofs.YtpkeneadkiabiaaDoor
open Go Go.Vh

theorem tz_zero (l : List Int) : ∀ n i, tz l n ≤ i → i < n → l.getD i 0 = 0
  | 0, i, _, h => by omega
  | n + 1, i, h1, h2 => by
    unfold tz at h1
    split at h1
    · rename_i hz
      rcases Nat.lt_or_ge i n with h | h
      · exact tz_zero l n i h1 h
      · obtain rfl : i = n := by omega
        exact hz
    · omega
theorem tz_last (l : List Int) : ∀ n, tz l n ≠ 0 → l.getD (tz l n - 1) 0 ≠ 0
  | 0, h => (h rfl).elim
  | n + 1, h => by
    unfold tz at h ⊢
    split
    · rename_i hz; rw [if_pos hz] at h; exact tz_last l n h
    · rename_i hz; simpa using hz
theorem tz_uniq (l : List Int) (n m : Nat) (h1 : m ≤ n) (h2 : m ≠ 0 → l.getD (m - 1) 0 ≠ 0) (h3 : ∀ i, m ≤ i → i < n → l.getD i 0 = 0) : tz l n = m := by
  rcases Nat.lt_trichotomy (tz l n) m with h | h | h
  · exact (h2 (by omega) (tz_zero l n (m - 1) (by omega) (by omega))).elim
  · exact h
  · exact (tz_last l n (by omega) (h3 _ (by omega) (by have := tz_le l n; omega))).elim
theorem getD_take (l : List Int) (n m i : Nat) (h : ∀ j, m ≤ j → j < n → l.getD j 0 = 0) (hn : l.length ≤ n) : (l.take m).getD i 0 = l.getD i 0 := by
  rcases Nat.lt_or_ge i m with h1 | h1
  · simp [List.getD_eq_getElem?_getD, List.getElem?_take, h1]
  · have e1 : (l.take m).getD i 0 = 0 := by
      rw [List.getD_eq_getElem?_getD, List.getElem?_eq_none (by rw [List.length_take]; omega)]; rfl
    rw [e1]
    rcases Nat.lt_or_ge i n with h2 | h2
    · exact (h i h1 h2).symm
    · rw [List.getD_eq_getElem?_getD, List.getElem?_eq_none (by omega)]; rfl

theorem digs_get : ∀ (l : List Int) (k j : Nat), j < 4 → (digs l).getD (4 * k + j) 0 = (dig4 (l.getD k 0)).getD j 0
  | [], k, j, hj => by
    simp only [digs, List.flatMap_nil, List.getD_nil]
    rcases (show j = 0 ∨ j = 1 ∨ j = 2 ∨ j = 3 by omega) with rfl | rfl | rfl | rfl <;> rfl
  | x :: l, 0, j, hj => by
    rcases (show j = 0 ∨ j = 1 ∨ j = 2 ∨ j = 3 by omega) with rfl | rfl | rfl | rfl <;> rfl
  | x :: l, k + 1, j, hj => by
    have := digs_get l k j hj
    have e : (digs (x :: l)).getD (4 * (k + 1) + j) 0 = (digs l).getD (4 * k + j) 0 := by
      have : 4 * (k + 1) + j = (4 * k + j) + 1 + 1 + 1 + 1 := by omega
      rw [this]
      simp [digs, dig4]
    rw [e, this]
    rfl
theorem digs_range {l : List Int} (hr : ∀ i, 0 ≤ l.getD i 0 ∧ l.getD i 0 ≤ 4294967295) (i : Nat) : 0 ≤ (digs l).getD i 0 ∧ (digs l).getD i 0 ≤ 255 := by
  have h := digs_get l (i / 4) (i % 4) (by omega)
  rw [show 4 * (i / 4) + i % 4 = i by omega] at h
  have hx := hr (i / 4)
  rw [h]
  generalize l.getD (i / 4) 0 = x at *
  rcases (show i % 4 = 0 ∨ i % 4 = 1 ∨ i % 4 = 2 ∨ i % 4 = 3 by omega) with e | e | e | e <;> rw [e] <;> simp [dig4] <;> omega
theorem pv_digs {l : List Int} (hr : ∀ i, 0 ≤ l.getD i 0 ∧ l.getD i 0 ≤ 4294967295) (d : List Int) (hd : ∀ i, d.getD i 0 = (digs l).getD i 0) (k : Nat) : pv d (4 * k) 4 = l.getD k 0 := by
  have hx := hr k
  have h0 := digs_get l k 0 (by omega)
  have h1 := digs_get l k 1 (by omega)
  have h2 := digs_get l k 2 (by omega)
  have h3 := digs_get l k 3 (by omega)
  simp only [pv, hd, Nat.sub_zero, Nat.reduceSub]
  rw [h0, h1, h2, h3]
  simp [dig4]
  omega

/-- The digits' number of a list of limbs. -/
theorem nat_digs {l : List Int} (hr : ∀ i, 0 ≤ l.getD i 0 ∧ l.getD i 0 ≤ 4294967295) :
    ((tz (digs l) (4 * l.length)) + 3) / 4 = tz l l.length ∧ natL ((digs l).take (tz (digs l) (4 * l.length))) (tz l l.length) = l.take (tz l l.length) := by
  have hlen := digs_length l
  have hz := tz_zero (digs l) (4 * l.length)
  have hl := tz_last (digs l) (4 * l.length)
  have hle := tz_le (digs l) (4 * l.length)
  generalize tz (digs l) (4 * l.length) = t at *
  have h1 : tz l l.length = (t + 3) / 4 := by
    refine tz_uniq l l.length _ (by omega) (fun h => ?_) (fun i h h' => ?_)
    · have hne := hl (by omega)
      have hg := digs_get l ((t - 1) / 4) ((t - 1) % 4) (by omega)
      rw [show 4 * ((t - 1) / 4) + (t - 1) % 4 = t - 1 by omega] at hg
      rw [show (t + 3) / 4 - 1 = (t - 1) / 4 by omega]
      intro h0
      rw [h0] at hg
      rw [hg] at hne
      have hj : (t - 1) % 4 < 4 := by omega
      revert hne hj
      generalize (t - 1) % 4 = j
      intro hne hj
      rcases (show j = 0 ∨ j = 1 ∨ j = 2 ∨ j = 3 by omega) with rfl | rfl | rfl | rfl <;> exact hne rfl
    · have a0 := hz (4 * i + 0) (by omega) (by omega)
      have a1 := hz (4 * i + 1) (by omega) (by omega)
      have a2 := hz (4 * i + 2) (by omega) (by omega)
      have a3 := hz (4 * i + 3) (by omega) (by omega)
      have hx := pv_digs hr (digs l) (fun _ => rfl) i
      simp only [pv, Nat.sub_zero, Nat.reduceSub] at hx
      rw [a0, a1, a2, a3] at hx
      omega
  refine ⟨h1.symm, ?_⟩
  have hg : ∀ i, ((digs l).take t).getD i 0 = (digs l).getD i 0 := fun i => getD_take (digs l) (4 * l.length) t i hz (by omega)
  have hle2 := tz_le l l.length
  refine List.ext_getElem (by rw [natL_length, List.length_take]; omega) fun i hi hi' => ?_
  rw [natL_length] at hi
  have := pv_digs hr _ hg i
  simp only [natL, List.getElem_map, List.getElem_range, List.getElem_take, this]
  simp [List.getD_eq_getElem?_getD, show i < l.length by omega]
end Go.Proofs.YtpkeneadkiabiaaDoor
