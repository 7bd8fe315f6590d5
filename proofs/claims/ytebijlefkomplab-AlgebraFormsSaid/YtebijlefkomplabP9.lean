/- Contracts: any text as a bit string. NEWSET -/
import Derived.Test.YtebijlefkomplabP8
set_option linter.unusedSimpArgs false
set_option linter.unusedVariables false
namespace Go.Proofs.Ytebijlefkomplab
open Go Go.Vh Go.Wd

/-- A letter of a string. -/
def sb (s : ByteArray) (i : Nat) : Nat := if h : i < s.size then (s[i]'h).toNat else 0
def okc (s : ByteArray) (i : Nat) : Bool := sb s i == 48 || sb s i == 49
def sbit (s : ByteArray) : Nat → Bool := fun i => sb s i == 49
/-- Each letter is a digit. -/
def good (s : ByteArray) : Bool := decide (∀ i, i < s.size → okc s i = true)

theorem sb_lt (s : ByteArray) (i : Nat) : sb s i < 256 := by
  unfold sb; split
  · exact UInt8.toNat_lt _
  · omega
theorem sb_idx {s : ByteArray} {i : Nat} (h : i < s.size) : (s[i]?).map (fun c => AV.int .u8 (c.toNat : Int)) = some (.int .u8 ((sb s i : Nat) : Int)) := by
  rw [getElem?_pos s i h, Option.map_some, sb, dif_pos h]

theorem decode_big (s : ByteArray) (i : Nat) (h : i < s.size) (hb : 128 ≤ sb s i) : 128 ≤ (Utf8.decode s i).1 := by
  have e : (s.get! (i + 0)).toNat = sb s i := by
    show (s.get! i).toNat = _
    rw [sb, dif_pos h]
    simp [ByteArray.get!, getElem!_pos, h]
    rfl
  unfold Utf8.decode
  simp only [e]
  rw [if_neg (by omega)]
  repeat' split
  all_goals simp only [Utf8.runeError]
  all_goals first | omega | (rename_i h; simp only [Bool.and_eq_true, decide_eq_true_eq] at h; omega)

theorem decode_at (s : ByteArray) (i : Nat) (h : i < s.size) (hs : sb s i < 128) : Utf8.decode s i = (sb s i, 1) := by
  have e : sb s i = (s[i]'h).toNat := by rw [sb, dif_pos h]
  rw [decode_ascii s i h (by omega), e]

theorem rune_is (s : ByteArray) (i : Nat) (h : i < s.size) : letter s i = .tuple [.bool true, .int .i64 (i : Int), .int .i32 (((Utf8.decode s i).1 : Nat) : Int)] := by
  unfold letter; rw [if_pos h]

/-- What Parse answers. -/
def parsed (s : ByteArray) (bad ok : AV) : AV := if good s then .tuple [.slice 0 0 s.size s.size, ok] else .tuple [.nilslice, bad]

theorem parseAny_calls (s : ByteArray) (hn : s.size ≤ 100000) : ACalls Try.prog 13 [.str s] [] [] fun v H => v = parsed s (.int .i64 6) (.int .i64 0) ∧ H = if good s then [rw_ (bt s.size (sbit s))] else [] := by
  refine ACalls.body Try.func13 ent_parse ir_parse_ok rs_parse_ok Try.ntmps13 (by simp) rfl ?_
  unfold ir_parse
  have e0 : s0 [.str s] 0 = .str s := rfl
  generalize hsz : s.size = n at hn
  simp (disch := omega) only [e_skip, e_ops, e_dops, e_seq, e_condI, e_condFb, e_gTF, e_gFT, e_gU, e_unv, e_bTT, e_bFF, e_bTF, e_bFT, e_beq1, e_beq2, Bool.not_true, Bool.not_false, e_block, e_exit, e_ret, e_seqN, e_seqE, e_seqR, e_blockN, e_blockR, e_blockE, e_nil, e_consN, e_consGI, e_nilD, e_consDN, e_consDGI, e_pure, e_eff, e_call, e_pureD, e_effD1, e_effD2, e_effD3, e_callD2, e_callD3, e_thenP, e_thenE, e_thenL, e_putS, e_putN, e_upd, e_t, e_c, e_none, e_some, e_bindS, p_move, p_bin, p_len, p_conv, p_pick, p_indexAddr, p_slice, p_extract, p_not, b_add, b_sub, b_mul, b_eql, b_neq, b_lss, b_leq, b_gtr, b_geq, l_nil, l_slice, l_sliceU, x_load1, ↓reduceIte, Nat.reduceEqDiff, Nat.reduceAdd, Nat.reduceMul, Nat.reduceSub, reduceCtorEq, Nat.zero_add, Nat.add_zero, Nat.mul_one, w64, wu32, wu64, beqT, beqF, bneT, bneF, dT, dF, a_idx, a_idxU, a_hi, a_hiN, a_sl, r_ro0, r_rw0, r_sl0, r_succ, ints_get, toNat_sub1, nat_toNat, Nat.add_sub_cancel, q_tmp, q_then, e0, p_lenStr, hsz]
  rw [x_makeR (n := n) (by simp only [e_upd, e_putS, e_putN, e_t, e_c, Nat.reduceEqDiff, ↓reduceIte, reduceCtorEq, Nat.reduceAdd]) (by simp only [e_upd, e_putS, e_putN, e_t, e_c, Nat.reduceEqDiff, ↓reduceIte, reduceCtorEq, Nat.reduceAdd]) (by omega) (by omega)]
  simp (disch := omega) only [e_skip, e_ops, e_dops, e_seq, e_condI, e_condFb, e_gTF, e_gFT, e_gU, e_unv, e_bTT, e_bFF, e_bTF, e_bFT, e_beq1, e_beq2, Bool.not_true, Bool.not_false, e_block, e_exit, e_ret, e_seqN, e_seqE, e_seqR, e_blockN, e_blockR, e_blockE, e_nil, e_consN, e_consGI, e_nilD, e_consDN, e_consDGI, e_pure, e_eff, e_call, e_pureD, e_effD1, e_effD2, e_effD3, e_callD2, e_callD3, e_thenP, e_thenE, e_thenL, e_putS, e_putN, e_upd, e_t, e_c, e_none, e_some, e_bindS, p_move, p_bin, p_len, p_conv, p_pick, p_indexAddr, p_slice, p_extract, p_not, b_add, b_sub, b_mul, b_eql, b_neq, b_lss, b_leq, b_gtr, b_geq, l_nil, l_slice, l_sliceU, x_load1, ↓reduceIte, Nat.reduceEqDiff, Nat.reduceAdd, Nat.reduceMul, Nat.reduceSub, reduceCtorEq, Nat.zero_add, Nat.add_zero, Nat.mul_one, w64, wu32, wu64, beqT, beqF, bneT, bneF, dT, dF, a_idx, a_idxU, a_hi, a_hiN, a_sl, r_ro0, r_rw0, r_sl0, r_succ, ints_get, toNat_sub1, nat_toNat, Nat.add_sub_cancel, q_tmp, q_then, e0, e_strLoop, e_strT]
  refine ⟨fun pos st H => pos ≤ n ∧ (∀ i, i < pos → okc s i = true) ∧ st 4 = .slice 0 0 pos n ∧ st 11 = .ptr 1 0 ∧ H = [rw_ (bt n (fpart (sbit s) pos)), some ⟨false, false, []⟩], ⟨by omega, fun i hi => by omega, ?_, ?_, ?_⟩, ?_⟩
  · simp only [e_upd, e_putS, e_putN, e_t, e_c, Nat.reduceEqDiff, ↓reduceIte, reduceCtorEq, Nat.reduceAdd]; rfl
  · simp only [e_upd, e_putS, e_putN, e_t, e_c, Nat.reduceEqDiff, ↓reduceIte, reduceCtorEq, Nat.reduceAdd]; rfl
  · rfl
  rintro pos st H ⟨hp, hall, h4, h11, rfl⟩
  refine ⟨⟨1, h11⟩, ?_⟩
  by_cases hlt : pos < n
  · have hps : pos < s.size := by omega
    rw [rune_is s pos hps]
    have fin : ∀ b, b = sbit s pos → bt n (fun i => if pos ≤ i ∧ i < pos + 1 then (fun _ => b) (i - pos) else fpart (sbit s) pos i) = bt n (fpart (sbit s) (pos + 1)) := fun b hb => bt_congr fun i _ => by
      subst hb
      unfold fpart
      by_cases e : i < pos
      · rw [if_neg (by omega), if_pos e, if_pos (by omega)]
      · by_cases e2 : i = pos
        · subst e2; rw [if_pos (by omega), if_pos (by omega)]
        · rw [if_neg (by omega), if_neg e, if_neg (by omega)]
    have step : ∀ c b, sb s pos = c → c < 128 → okc s pos = true → ((c : Int) == 49) = b → b = sbit s pos → further s pos = pos + 1 := fun c b h1 h2 _ _ _ => by
      unfold further; rw [decode_at s pos hps (by omega)]
    by_cases k1 : sb s pos = 49
    · have hd := decode_at s pos hps (by omega)
      rw [hd, k1]
      have hb : sbit s pos = true := by unfold sbit; rw [k1]; rfl
      have hf : further s pos = pos + 1 := by unfold further; rw [hd]
      have c49 : ((49 : Nat) : Int) = 49 := rfl
      simp (disch := omega) only [e_skip, e_ops, e_dops, e_seq, e_condI, e_condFb, e_gTF, e_gFT, e_gU, e_unv, e_bTT, e_bFF, e_bTF, e_bFT, e_beq1, e_beq2, Bool.not_true, Bool.not_false, e_block, e_exit, e_ret, e_seqN, e_seqE, e_seqR, e_blockN, e_blockR, e_blockE, e_nil, e_consN, e_consGI, e_nilD, e_consDN, e_consDGI, e_pure, e_eff, e_call, e_pureD, e_effD1, e_effD2, e_effD3, e_callD2, e_callD3, e_thenP, e_thenE, e_thenL, e_putS, e_putN, e_upd, e_t, e_c, e_none, e_some, e_bindS, p_move, p_bin, p_len, p_conv, p_pick, p_indexAddr, p_slice, p_extract, p_not, b_add, b_sub, b_mul, b_eql, b_neq, b_lss, b_leq, b_gtr, b_geq, l_nil, l_slice, l_sliceU, x_load1, ↓reduceIte, Nat.reduceEqDiff, Nat.reduceAdd, Nat.reduceMul, Nat.reduceSub, reduceCtorEq, Nat.zero_add, Nat.add_zero, Nat.mul_one, w64, wu32, wu64, beqT, beqF, bneT, bneF, dT, dF, a_idx, a_idxU, a_hi, a_hiN, a_sl, r_ro0, r_rw0, r_sl0, r_succ, ints_get, toNat_sub1, nat_toNat, Nat.add_sub_cancel, q_tmp, q_then, h4, h11, List.getElem?_cons_zero, List.getElem?_cons_succ, c49]
      rw [x_bs1 (v := .bool true) (by simp only [e_upd, e_putS, e_putN, e_t, e_c, Nat.reduceEqDiff, ↓reduceIte, reduceCtorEq, Nat.reduceAdd]) rfl]
      simp (disch := omega) only [e_skip, e_ops, e_dops, e_seq, e_condI, e_condFb, e_gTF, e_gFT, e_gU, e_unv, e_bTT, e_bFF, e_bTF, e_bFT, e_beq1, e_beq2, Bool.not_true, Bool.not_false, e_block, e_exit, e_ret, e_seqN, e_seqE, e_seqR, e_blockN, e_blockR, e_blockE, e_nil, e_consN, e_consGI, e_nilD, e_consDN, e_consDGI, e_pure, e_eff, e_call, e_pureD, e_effD1, e_effD2, e_effD3, e_callD2, e_callD3, e_thenP, e_thenE, e_thenL, e_putS, e_putN, e_upd, e_t, e_c, e_none, e_some, e_bindS, p_move, p_bin, p_len, p_conv, p_pick, p_indexAddr, p_slice, p_extract, p_not, b_add, b_sub, b_mul, b_eql, b_neq, b_lss, b_leq, b_gtr, b_geq, l_nil, l_slice, l_sliceU, x_load1, ↓reduceIte, Nat.reduceEqDiff, Nat.reduceAdd, Nat.reduceMul, Nat.reduceSub, reduceCtorEq, Nat.zero_add, Nat.add_zero, Nat.mul_one, w64, wu32, wu64, beqT, beqF, bneT, bneF, dT, dF, a_idx, a_idxU, a_hi, a_hiN, a_sl, r_ro0, r_rw0, r_sl0, r_succ, ints_get, toNat_sub1, nat_toNat, Nat.add_sub_cancel, q_tmp, q_then, h4, h11]
      rw [x_appS (r := 0) (q := 2) (n := pos) (m := 1) (c := n) (c' := 1) (row := ⟨true, false, [.bool true]⟩) (g := fpart (sbit s) pos) (h := fun _ => true) (by simp only [e_upd, e_putS, e_putN, e_t, e_c, Nat.reduceEqDiff, ↓reduceIte, reduceCtorEq, Nat.reduceAdd, h4]) (by simp only [e_upd, e_putS, e_putN, e_t, e_c, Nat.reduceEqDiff, ↓reduceIte, reduceCtorEq, Nat.reduceAdd]; rfl) rfl rfl (by simp) rfl (by omega) (by omega) (by omega)]
      simp (disch := omega) only [e_skip, e_ops, e_dops, e_seq, e_condI, e_condFb, e_gTF, e_gFT, e_gU, e_unv, e_bTT, e_bFF, e_bTF, e_bFT, e_beq1, e_beq2, Bool.not_true, Bool.not_false, e_block, e_exit, e_ret, e_seqN, e_seqE, e_seqR, e_blockN, e_blockR, e_blockE, e_nil, e_consN, e_consGI, e_nilD, e_consDN, e_consDGI, e_pure, e_eff, e_call, e_pureD, e_effD1, e_effD2, e_effD3, e_callD2, e_callD3, e_thenP, e_thenE, e_thenL, e_putS, e_putN, e_upd, e_t, e_c, e_none, e_some, e_bindS, p_move, p_bin, p_len, p_conv, p_pick, p_indexAddr, p_slice, p_extract, p_not, b_add, b_sub, b_mul, b_eql, b_neq, b_lss, b_leq, b_gtr, b_geq, l_nil, l_slice, l_sliceU, x_load1, ↓reduceIte, Nat.reduceEqDiff, Nat.reduceAdd, Nat.reduceMul, Nat.reduceSub, reduceCtorEq, Nat.zero_add, Nat.add_zero, Nat.mul_one, w64, wu32, wu64, beqT, beqF, bneT, bneF, dT, dF, a_idx, a_idxU, a_hi, a_hiN, a_sl, r_ro0, r_rw0, r_sl0, r_succ, ints_get, toNat_sub1, nat_toNat, Nat.add_sub_cancel, q_tmp, q_then, h4, h11]
      refine ⟨hps, by simp only [e_upd, e_putS, e_putN, e_t, e_c, Nat.reduceEqDiff, ↓reduceIte, reduceCtorEq, Nat.reduceAdd, h11], _, _, Weak.gc [0, 1] rfl ?_, ?_⟩
      · simp [gcH, Vh.rowAt, ro, rw_, bt_ren, bt_cell, n_lcons, n_lnil]
      rw [hf]
      refine ⟨by omega, fun i hi => ?_, ?_, ?_, ?_⟩
      · rcases Nat.eq_or_lt_of_le (Nat.le_of_lt_succ hi) with e | e
        · rw [e]; simp [okc, k1]
        · exact hall i e
      · exact gc_at (v := .slice 0 0 (pos + 1) n) (by simp only [e_upd, e_putS, e_putN, e_t, e_c, Nat.reduceEqDiff, ↓reduceIte, reduceCtorEq, Nat.reduceAdd]) rfl
      · exact gc_at (v := .ptr 1 0) (by simp only [e_upd, e_putS, e_putN, e_t, e_c, Nat.reduceEqDiff, ↓reduceIte, reduceCtorEq, Nat.reduceAdd, h11]) rfl
      · rw [fin true hb.symm]
        simp [gcH, Vh.rowAt, ro, rw_, bt_ren, n_lnil]
    by_cases k0 : sb s pos = 48
    · have hd := decode_at s pos hps (by omega)
      rw [hd, k0]
      have hb : sbit s pos = false := by unfold sbit; rw [k0]; rfl
      have hf : further s pos = pos + 1 := by unfold further; rw [hd]
      have c48 : ((48 : Nat) : Int) = 48 := rfl
      simp (disch := omega) only [e_skip, e_ops, e_dops, e_seq, e_condI, e_condFb, e_gTF, e_gFT, e_gU, e_unv, e_bTT, e_bFF, e_bTF, e_bFT, e_beq1, e_beq2, Bool.not_true, Bool.not_false, e_block, e_exit, e_ret, e_seqN, e_seqE, e_seqR, e_blockN, e_blockR, e_blockE, e_nil, e_consN, e_consGI, e_nilD, e_consDN, e_consDGI, e_pure, e_eff, e_call, e_pureD, e_effD1, e_effD2, e_effD3, e_callD2, e_callD3, e_thenP, e_thenE, e_thenL, e_putS, e_putN, e_upd, e_t, e_c, e_none, e_some, e_bindS, p_move, p_bin, p_len, p_conv, p_pick, p_indexAddr, p_slice, p_extract, p_not, b_add, b_sub, b_mul, b_eql, b_neq, b_lss, b_leq, b_gtr, b_geq, l_nil, l_slice, l_sliceU, x_load1, ↓reduceIte, Nat.reduceEqDiff, Nat.reduceAdd, Nat.reduceMul, Nat.reduceSub, reduceCtorEq, Nat.zero_add, Nat.add_zero, Nat.mul_one, w64, wu32, wu64, beqT, beqF, bneT, bneF, dT, dF, a_idx, a_idxU, a_hi, a_hiN, a_sl, r_ro0, r_rw0, r_sl0, r_succ, ints_get, toNat_sub1, nat_toNat, Nat.add_sub_cancel, q_tmp, q_then, h4, h11, List.getElem?_cons_zero, List.getElem?_cons_succ, c48]
      rw [x_bs1 (v := .bool false) (by simp only [e_upd, e_putS, e_putN, e_t, e_c, Nat.reduceEqDiff, ↓reduceIte, reduceCtorEq, Nat.reduceAdd]) rfl]
      simp (disch := omega) only [e_skip, e_ops, e_dops, e_seq, e_condI, e_condFb, e_gTF, e_gFT, e_gU, e_unv, e_bTT, e_bFF, e_bTF, e_bFT, e_beq1, e_beq2, Bool.not_true, Bool.not_false, e_block, e_exit, e_ret, e_seqN, e_seqE, e_seqR, e_blockN, e_blockR, e_blockE, e_nil, e_consN, e_consGI, e_nilD, e_consDN, e_consDGI, e_pure, e_eff, e_call, e_pureD, e_effD1, e_effD2, e_effD3, e_callD2, e_callD3, e_thenP, e_thenE, e_thenL, e_putS, e_putN, e_upd, e_t, e_c, e_none, e_some, e_bindS, p_move, p_bin, p_len, p_conv, p_pick, p_indexAddr, p_slice, p_extract, p_not, b_add, b_sub, b_mul, b_eql, b_neq, b_lss, b_leq, b_gtr, b_geq, l_nil, l_slice, l_sliceU, x_load1, ↓reduceIte, Nat.reduceEqDiff, Nat.reduceAdd, Nat.reduceMul, Nat.reduceSub, reduceCtorEq, Nat.zero_add, Nat.add_zero, Nat.mul_one, w64, wu32, wu64, beqT, beqF, bneT, bneF, dT, dF, a_idx, a_idxU, a_hi, a_hiN, a_sl, r_ro0, r_rw0, r_sl0, r_succ, ints_get, toNat_sub1, nat_toNat, Nat.add_sub_cancel, q_tmp, q_then, h4, h11]
      rw [x_appS (r := 0) (q := 2) (n := pos) (m := 1) (c := n) (c' := 1) (row := ⟨true, false, [.bool false]⟩) (g := fpart (sbit s) pos) (h := fun _ => false) (by simp only [e_upd, e_putS, e_putN, e_t, e_c, Nat.reduceEqDiff, ↓reduceIte, reduceCtorEq, Nat.reduceAdd, h4]) (by simp only [e_upd, e_putS, e_putN, e_t, e_c, Nat.reduceEqDiff, ↓reduceIte, reduceCtorEq, Nat.reduceAdd]; rfl) rfl rfl (by simp) rfl (by omega) (by omega) (by omega)]
      simp (disch := omega) only [e_skip, e_ops, e_dops, e_seq, e_condI, e_condFb, e_gTF, e_gFT, e_gU, e_unv, e_bTT, e_bFF, e_bTF, e_bFT, e_beq1, e_beq2, Bool.not_true, Bool.not_false, e_block, e_exit, e_ret, e_seqN, e_seqE, e_seqR, e_blockN, e_blockR, e_blockE, e_nil, e_consN, e_consGI, e_nilD, e_consDN, e_consDGI, e_pure, e_eff, e_call, e_pureD, e_effD1, e_effD2, e_effD3, e_callD2, e_callD3, e_thenP, e_thenE, e_thenL, e_putS, e_putN, e_upd, e_t, e_c, e_none, e_some, e_bindS, p_move, p_bin, p_len, p_conv, p_pick, p_indexAddr, p_slice, p_extract, p_not, b_add, b_sub, b_mul, b_eql, b_neq, b_lss, b_leq, b_gtr, b_geq, l_nil, l_slice, l_sliceU, x_load1, ↓reduceIte, Nat.reduceEqDiff, Nat.reduceAdd, Nat.reduceMul, Nat.reduceSub, reduceCtorEq, Nat.zero_add, Nat.add_zero, Nat.mul_one, w64, wu32, wu64, beqT, beqF, bneT, bneF, dT, dF, a_idx, a_idxU, a_hi, a_hiN, a_sl, r_ro0, r_rw0, r_sl0, r_succ, ints_get, toNat_sub1, nat_toNat, Nat.add_sub_cancel, q_tmp, q_then, h4, h11]
      refine ⟨hps, by simp only [e_upd, e_putS, e_putN, e_t, e_c, Nat.reduceEqDiff, ↓reduceIte, reduceCtorEq, Nat.reduceAdd, h11], _, _, Weak.gc [0, 1] rfl ?_, ?_⟩
      · simp [gcH, Vh.rowAt, ro, rw_, bt_ren, bt_cell, n_lcons, n_lnil]
      rw [hf]
      refine ⟨by omega, fun i hi => ?_, ?_, ?_, ?_⟩
      · rcases Nat.eq_or_lt_of_le (Nat.le_of_lt_succ hi) with e | e
        · rw [e]; simp [okc, k0]
        · exact hall i e
      · exact gc_at (v := .slice 0 0 (pos + 1) n) (by simp only [e_upd, e_putS, e_putN, e_t, e_c, Nat.reduceEqDiff, ↓reduceIte, reduceCtorEq, Nat.reduceAdd]) rfl
      · exact gc_at (v := .ptr 1 0) (by simp only [e_upd, e_putS, e_putN, e_t, e_c, Nat.reduceEqDiff, ↓reduceIte, reduceCtorEq, Nat.reduceAdd, h11]) rfl
      · rw [fin false hb.symm]
        simp [gcH, Vh.rowAt, ro, rw_, bt_ren, n_lnil]
    · have hg : good s = false := decide_eq_false fun h => by
        have := h pos hps
        simp [okc, k0, k1] at this
      have hr : ∃ c : Nat, (Utf8.decode s pos).1 = c ∧ c ≠ 48 ∧ c ≠ 49 := by
        refine ⟨_, rfl, ?_⟩
        by_cases h : sb s pos < 128
        · rw [decode_at s pos hps h]; exact ⟨k0, k1⟩
        · have := decode_big s pos hps (by omega)
          constructor <;> omega
      obtain ⟨c, hc, hc0, hc1⟩ := hr
      rw [hc]
      have n0 : (((c : Nat) : Int) != 48) = true := by simp; omega
      have n1 : (((c : Nat) : Int) != 49) = true := by simp; omega
      simp (disch := omega) only [e_skip, e_ops, e_dops, e_seq, e_condI, e_condFb, e_gTF, e_gFT, e_gU, e_unv, e_bTT, e_bFF, e_bTF, e_bFT, e_beq1, e_beq2, Bool.not_true, Bool.not_false, e_block, e_exit, e_ret, e_seqN, e_seqE, e_seqR, e_blockN, e_blockR, e_blockE, e_nil, e_consN, e_consGI, e_nilD, e_consDN, e_consDGI, e_pure, e_eff, e_call, e_pureD, e_effD1, e_effD2, e_effD3, e_callD2, e_callD3, e_thenP, e_thenE, e_thenL, e_putS, e_putN, e_upd, e_t, e_c, e_none, e_some, e_bindS, p_move, p_bin, p_len, p_conv, p_pick, p_indexAddr, p_slice, p_extract, p_not, b_add, b_sub, b_mul, b_eql, b_neq, b_lss, b_leq, b_gtr, b_geq, l_nil, l_slice, l_sliceU, x_load1, ↓reduceIte, Nat.reduceEqDiff, Nat.reduceAdd, Nat.reduceMul, Nat.reduceSub, reduceCtorEq, Nat.zero_add, Nat.add_zero, Nat.mul_one, w64, wu32, wu64, beqT, beqF, bneT, bneF, dT, dF, a_idx, a_idxU, a_hi, a_hiN, a_sl, r_ro0, r_rw0, r_sl0, r_succ, ints_get, toNat_sub1, nat_toNat, Nat.add_sub_cancel, q_tmp, q_then, h4, h11, List.getElem?_cons_zero, List.getElem?_cons_succ, n0, n1, strPost]
      refine ret_gc [] rfl (by simp [gcH]) (by simp) ?_
      unfold rs_parse; rw [q_tmp2, q_then]
      refine ⟨?_, by rw [hg]; rfl⟩
      rw [gc_at (v := .nilslice) (v' := .nilslice) (by simp only [e_upd, e_putS, e_putN, e_t, e_c, Nat.reduceEqDiff, ↓reduceIte, reduceCtorEq, Nat.reduceAdd]) rfl, gc_at (v := .int .i64 6) (v' := .int .i64 6) (by simp only [e_upd, e_putS, e_putN, e_t, e_c, Nat.reduceEqDiff, ↓reduceIte, reduceCtorEq, Nat.reduceAdd]) rfl]
      simp only [parsed, hg]
      try rfl
  · have hpn : pos = n := by omega
    subst hpn
    have hl : letter s pos = .tuple [.bool false] := by
      unfold letter; rw [if_neg (by omega)]
    rw [hl]
    have hg : good s = true := decide_eq_true fun i hi => hall i (by omega)
    have fin : bt pos (fpart (sbit s) pos) = bt pos (sbit s) := bt_congr fun i hi => by simp [fpart, hi]
    rw [fin]
    simp (disch := omega) only [e_skip, e_ops, e_dops, e_seq, e_condI, e_condFb, e_gTF, e_gFT, e_gU, e_unv, e_bTT, e_bFF, e_bTF, e_bFT, e_beq1, e_beq2, Bool.not_true, Bool.not_false, e_block, e_exit, e_ret, e_seqN, e_seqE, e_seqR, e_blockN, e_blockR, e_blockE, e_nil, e_consN, e_consGI, e_nilD, e_consDN, e_consDGI, e_pure, e_eff, e_call, e_pureD, e_effD1, e_effD2, e_effD3, e_callD2, e_callD3, e_thenP, e_thenE, e_thenL, e_putS, e_putN, e_upd, e_t, e_c, e_none, e_some, e_bindS, p_move, p_bin, p_len, p_conv, p_pick, p_indexAddr, p_slice, p_extract, p_not, b_add, b_sub, b_mul, b_eql, b_neq, b_lss, b_leq, b_gtr, b_geq, l_nil, l_slice, l_sliceU, x_load1, ↓reduceIte, Nat.reduceEqDiff, Nat.reduceAdd, Nat.reduceMul, Nat.reduceSub, reduceCtorEq, Nat.zero_add, Nat.add_zero, Nat.mul_one, w64, wu32, wu64, beqT, beqF, bneT, bneF, dT, dF, a_idx, a_idxU, a_hi, a_hiN, a_sl, r_ro0, r_rw0, r_sl0, r_succ, ints_get, toNat_sub1, nat_toNat, Nat.add_sub_cancel, q_tmp, q_then, h4, h11, List.getElem?_cons_zero, List.getElem?_cons_succ, strPost]
    refine ret_gc [0] rfl ?_ (by simp) ?_
    · simp [gcH, Vh.rowAt, rw_, bt_ren, bt_cell]
    · unfold rs_parse; rw [q_tmp2, q_then]
      refine ⟨?_, ?_⟩
      · rw [gc_at (v := .slice 0 0 pos pos) (v' := .slice 0 0 pos pos) (by simp only [e_upd, e_putS, e_putN, e_t, e_c, Nat.reduceEqDiff, ↓reduceIte, reduceCtorEq, Nat.reduceAdd]) rfl, gc_at (v := .int .i64 0) (v' := .int .i64 0) (by simp only [e_upd, e_putS, e_putN, e_t, e_c, Nat.reduceEqDiff, ↓reduceIte, reduceCtorEq, Nat.reduceAdd]) rfl]
        simp only [parsed, hg, hsz, if_true]
      · simp [gcH, Vh.rowAt, rw_, bt_ren, hsz, hg]

theorem parseGood_calls (s : ByteArray) (hn : s.size ≤ 100000) (h : good s = true) : ACalls Try.prog 13 [.str s] [] [] fun v H => v = .tuple [.slice 0 0 s.size s.size, .int .i64 0] ∧ H = [rw_ (bt s.size (sbit s))] :=
  (parseAny_calls s hn).mono fun v H ⟨h1, h2⟩ => by rw [h1, h2, parsed, if_pos h, if_pos h]; exact ⟨rfl, rfl⟩
theorem parseBad_calls (s : ByteArray) (hn : s.size ≤ 100000) (h : good s = false) : ACalls Try.prog 13 [.str s] [] [] fun v H => v = .tuple [.nilslice, .int .i64 6] ∧ H = [] :=
  (parseAny_calls s hn).mono fun v H ⟨h1, h2⟩ => by rw [h1, h2, parsed, h]; exact ⟨rfl, rfl⟩
end Go.Proofs.Ytebijlefkomplab
