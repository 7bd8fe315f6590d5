/- The contract of slices.Sort, for the virtual heap: out of the library's own; what is said of bound methods. -/
import Derived.Test.YthbhljolpnbdlaaV7
import Derived.Test.YthbhljolpnbdlaaQA
import Derived.Test.YthbhljolpnbdlaaQIrO1
import Derived.Test.YthbhljolpnbdlaaQSh
import Derived.Test.YthbhljolpnbdlaaVY
set_option linter.unusedSimpArgs false
set_option linter.unusedVariables false
namespace Go.Proofs.Ythbhljolpnbdlaa.S2
open Go Go.Vh

theorem ACallsG.widen {P : Program} {γ : Nat → AV} {f : FuncId} {args : List AV} {H : AHeap} {W : List Nat} {R : AV → AHeap → Prop} (h : ACallsG P γ f args H W R) {n : Nat} (hn : H.length = n) : ACallsG P γ f args H (List.range n) R := by
  subst hn
  refine ⟨h.ent, fun ρ w vs hs hv hg => (h.calls ρ w vs hs hv hg).mono fun e w' ⟨v, v', ρ', H', h1, h2, h3, h4, h5, h6, h7⟩ => ⟨v, v', ρ', H', h1, h2, h3, h4, h5, ⟨h6.os, h6.tape, h6.output, h6.size, fun k hk hne => h6.block k hk fun ⟨r, row, x, q1, q2, q3⟩ => hne ⟨r, row, x, ?_, q2, q3⟩⟩, h7⟩⟩
  simpa using rowAt_lt q2

theorem ent_srt : enters Try.prog 106 = true := by kernel_rfl

abbrev srt (l : List Int) : List Int := l.mergeSort fun x y => decide (x ≤ y)

theorem sort0_cap (c : Nat) (sk : Bool) : rfun noG (find Try.prog) 100 50 106 [.slice 0 0 0 c] [some ⟨true, sk, []⟩] = some (.tuple [], [some ⟨true, sk, []⟩]) := by kernel_rfl
theorem sort0_u (sk : Bool) : rfun noG (find Try.prog) 100 50 106 [.sliceU 0 0 0 1] [some ⟨true, sk, []⟩] = some (.tuple [], [some ⟨true, sk, []⟩]) := by kernel_rfl
theorem sort0_nil (sk : Bool) : rfun noG (find Try.prog) 100 50 106 [.nilslice] [some ⟨true, sk, []⟩] = some (.tuple [], [some ⟨true, sk, []⟩]) := by kernel_rfl

theorem sort0_calls (κ : SK) (sk : Bool) : ACalls Try.prog 106 [mkS κ 0 0 0] [some ⟨true, sk, []⟩] [0] fun v H => v = .tuple [] ∧ H = [some ⟨true, sk, []⟩] := by
  cases κ with
  | nil => obtain ⟨W, h⟩ := run_calls (P := Try.prog) (fun _ _ h => h) (sort0_nil sk); exact ACallsG.widen (n := 1) h rfl
  | cap c => obtain ⟨W, h⟩ := run_calls (P := Try.prog) (fun _ _ h => h) (sort0_cap c sk); exact ACallsG.widen (n := 1) h rfl
  | u => obtain ⟨W, h⟩ := run_calls (P := Try.prog) (fun _ _ h => h) (sort0_u sk); exact ACallsG.widen (n := 1) h rfl

theorem sort_calls (κ : SK) (zs : List Int) (sk : Bool) (hk : okS κ zs.length) (hn : zs.length ≤ 1000000) : ACalls Try.prog 106 [mkS κ 0 0 zs.length] [some ⟨true, sk, ints .i64 zs⟩] [0] fun v H => v = .tuple [] ∧ H = [some ⟨true, sk, ints .i64 (srt zs)⟩] := by
  rcases Nat.eq_zero_or_pos zs.length with h0 | hpos
  · have : zs = [] := List.length_eq_zero_iff.1 h0
    subst this
    rw [show srt [] = [] by simp [srt]]
    exact sort0_calls κ sk
  refine ⟨ent_srt, fun ρ w vs hs hv _ => ?_⟩
  obtain ⟨x, cap, hx, rfl⟩ : ∃ x cap, ρ 0 = some x ∧ vs = [.slice (some ⟨x.b, x.d, none⟩) zs.length cap] := by
    cases hv with
    | cons _ v _ vs h1 h2 =>
      cases h2
      cases κ with
      | nil => simp only [okS] at hk; omega
      | cap c =>
        rcases h1.slice_inv with ⟨y, hy, _, rfl⟩ | ⟨h, _⟩
        · exact ⟨y, _, hy, rfl⟩
        · omega
      | u =>
        rcases h1.sliceU_inv with ⟨y, c, hy, _, _, rfl⟩ | ⟨h, _⟩
        · exact ⟨y, _, hy, rfl⟩
        · omega
  have hrow : Vh.rowAt [some (⟨true, sk, ints .i64 zs⟩ : ARow)] 0 = some ⟨true, sk, ints .i64 zs⟩ := rfl
  obtain ⟨o1, o2, o3⟩ := hs.own 0 _ x hrow rfl hx
  have hxn : x.n ≠ 0 := hs.room 0 _ x hrow hx (by simp only; intro e; have := congrArg List.length e; simp only [ints_length, List.length_nil] at this; omega)
  obtain ⟨hex, ⟨C, e, fr, hC, hsz⟩, hfr⟩ := o3 hxn
  simp only [ints_length] at o1 o2
  have hblk : x.b < w.heap.size := (Array.getElem?_eq_some_iff.1 hC).1
  have hH : Sort.Holds (Value.int .i64) w x.b x.d zs.toArray := fun j hj => by
    have hj' : j < zs.length := by simpa using hj
    obtain ⟨_, v, h1, h2⟩ := hs.cells 0 _ x hrow hx j (.int .i64 (zs.getD j 0)) (ints_get hj')
    refine ⟨?_, hfr _ (by omega)⟩
    rw [h1, h2.int_inv]
    congr 2
    simp [hj']
  have hlen : (srt zs).length = zs.length := by simp [srt, List.length_mergeSort]
  refine (Go.Proofs.Try.slices_Sort_int x.b x.d cap zs w hH hblk (by omega)).mono fun e' w' ⟨he, n, os, hw⟩ => ?_
  have hb1 : ∀ k, k < w.heap.size → k ≠ x.b → w'.heap[k]? = w.heap[k]? := fun k hk hne => by
    rw [hw, Sort.heap_grow_old _ _ (by simpa using hk)]
    show ((Sort.ahead w n).heap.modify x.b _)[k]? = _
    rw [Array.getElem?_modify, if_neg (Ne.symm hne)]; rfl
  have hsame : Sort.Holds (Value.int .i64) (Sort.ahead w n) x.b x.d zs.toArray := hH
  have hput := Sort.holds_grow (Value.int .i64) (Sort.putRow (Value.int .i64) (Sort.ahead w n) x.b x.d (srt zs).toArray) os x.b x.d (srt zs).toArray (by simpa using hblk) (Sort.holds_putRow (Value.int .i64) (Sort.ahead w n) x.b x.d zs.toArray (srt zs).toArray hsame (by simp [hlen]))
  have hsize : w.heap.size ≤ w'.heap.size := by rw [hw]; simp [Sort.ahead]
  have hfrz : ∀ i, w'.frozen? ⟨x.b, i, none⟩ = w.frozen? ⟨x.b, i, none⟩ := fun i => by
    rw [hw, Sort.frozen?_grow _ _ _ (by simpa using hblk), Sort.frozen?_putRow]; rfl
  refine ⟨.tuple [], .tuple #[], ρ, [some ⟨true, sk, ints .i64 (srt zs)⟩], he, ⟨rfl, rfl⟩, RMap.le_refl _, .tuple _ _ .nil, ?_, ⟨?_, ?_, ?_, hsize, fun k hk hne => hb1 k hk fun e => hne ⟨0, _, x, by simp, hrow, rfl, hx, hxn, e.symm⟩⟩, by simp⟩
  · have one : ∀ {r row}, Vh.rowAt [some (⟨true, sk, ints .i64 (srt zs)⟩ : ARow)] r = some row → r = 0 ∧ row = ⟨true, sk, ints .i64 (srt zs)⟩ := fun {r row} h => by
      cases r with
      | zero => simp only [Vh.rowAt, List.getElem?_cons_zero, Option.getD_some, Option.some.injEq] at h; exact ⟨rfl, h.symm⟩
      | succ r => simp [Vh.rowAt] at h
    refine ⟨fun r hr => hs.dom r (by simpa using hr), fun r row hr => ?_, fun r row y hr hy i c hi => ?_, fun r row y hr _ hy => ?_, fun r r' row row' y y' h1 h2 _ hne => ?_, fun r row y hr hy _ => ?_⟩
    · obtain ⟨rfl, rfl⟩ := one hr; exact ⟨x, hx⟩
    · obtain ⟨rfl, rfl⟩ := one hr
      rw [hx] at hy; cases hy
      simp only at hi
      have hi' : i < (srt zs).length := by have := (List.getElem?_eq_some_iff.1 hi).1; simpa [ints_length] using this
      rw [ints_get hi'] at hi; cases hi
      refine ⟨rfl, .int .i64 ((srt zs).getD i 0), ?_, .int _ _⟩
      rw [hw, (hput i (by simpa using hi')).1]
      congr 2
      simp [hi']
    · obtain ⟨rfl, rfl⟩ := one hr
      rw [hx] at hy; cases hy
      simp only [ints_length, hlen]
      refine ⟨o1, o2, fun _ => ⟨hex, ?_, fun i hi => by rw [hfrz]; exact hfr i hi⟩⟩
      refine ⟨Sort.putCells (Value.int .i64) x.d (srt zs).toArray C, e, fr, ?_, by simp [Sort.putCells, hsz]⟩
      rw [hw, Sort.heap_grow_old _ _ (by simpa using hblk)]
      show ((Sort.ahead w n).heap.modify x.b _)[x.b]? = _
      rw [Array.getElem?_modify, if_pos rfl]
      show (w.heap[x.b]?).map _ = _
      rw [hC]; rfl
    · obtain ⟨rfl, _⟩ := one h1
      obtain ⟨rfl, _⟩ := one h2
      exact (hne rfl).elim
    · obtain ⟨rfl, rfl⟩ := one hr
      rw [hx] at hy; cases hy; exact hxn
  · rw [hw]; rfl
  · rw [hw]; rfl
  · rw [hw]; rfl

/-- A bound method is called as the method is, with its receiver ahead. -/
theorem call_bound {P : Program} {f : FuncId} {first caps args : List AV} {K : St → AHeap → Prop} {d : Option Nat} {s : St} {H : AHeap} (h : thenC P K d s H (first ++ (args ++ caps)) (.func f [])) : thenC P K d s H args (.bound f first caps) := by
  obtain ⟨W, h⟩ := h
  rw [List.append_nil] at h
  exact ⟨W, h⟩
end Go.Proofs.Ythbhljolpnbdlaa.S2


