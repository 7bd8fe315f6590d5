/- The first number of draws is another one with each seed. -/
set_option linter.unusedSimpArgs false
set_option linter.unusedVariables false
namespace Go.Gf
theorem shift_xor (a b n : Nat) : (a ^^^ b) / 2 ^ n = (a / 2 ^ n) ^^^ (b / 2 ^ n) := by
  simp only [← Nat.shiftRight_eq_div_pow, Nat.shiftRight_xor_distrib]

def nextS (s : Nat) : Nat := (4906513781625342421 * s + 1181783497276652981) % 2 ^ 64
def nextX (s : Nat) : Nat := s ^^^ (s / 2 ^ 32)
def nextY (x : Nat) : Nat := (7809847782465536323 * x) % 2 ^ 64
def nextZ (y : Nat) : Nat := y ^^^ (y / 2 ^ 29)
def draw (s : Nat) : Nat := nextZ (nextY (nextX (nextS s)))

theorem nextS_lt (s : Nat) : nextS s < 2 ^ 64 := Nat.mod_lt _ (by decide)
theorem nextX_lt {s : Nat} (h : s < 2 ^ 64) : nextX s < 2 ^ 64 := Nat.xor_lt_two_pow h (Nat.lt_of_le_of_lt (Nat.div_le_self _ _) h)
theorem nextY_lt (s : Nat) : nextY s < 2 ^ 64 := Nat.mod_lt _ (by decide)
theorem nextZ_lt {s : Nat} (h : s < 2 ^ 64) : nextZ s < 2 ^ 64 := Nat.xor_lt_two_pow h (Nat.lt_of_le_of_lt (Nat.div_le_self _ _) h)

theorem backS {s : Nat} (h : s < 2 ^ 64) : (12628439683255543677 * (nextS s + (2 ^ 64 - 1181783497276652981))) % 2 ^ 64 = s := by
  unfold nextS; omega
theorem backX {s : Nat} (h : s < 2 ^ 64) : nextX s ^^^ (nextX s / 2 ^ 32) = s := by
  unfold nextX
  have h0 : s / 2 ^ 32 / 2 ^ 32 = 0 := by omega
  rw [shift_xor, h0, Nat.xor_zero, Nat.xor_assoc, Nat.xor_self, Nat.xor_zero]
theorem backY {s : Nat} (h : s < 2 ^ 64) : (6127482489802822507 * nextY s) % 2 ^ 64 = s := by
  unfold nextY; omega
theorem backZ {s : Nat} (h : s < 2 ^ 64) : (nextZ s ^^^ (nextZ s / 2 ^ 29)) ^^^ (nextZ s / 2 ^ 29 / 2 ^ 29) = s := by
  unfold nextZ
  have h0 : s / 2 ^ 29 / 2 ^ 29 / 2 ^ 29 = 0 := by omega
  rw [shift_xor, shift_xor, h0, Nat.xor_zero]
  generalize s / 2 ^ 29 / 2 ^ 29 = c
  generalize s / 2 ^ 29 = b
  rw [← Nat.xor_assoc, Nat.xor_assoc s b b, Nat.xor_self, Nat.xor_zero, Nat.xor_assoc, Nat.xor_self, Nat.xor_zero]

theorem draw_inj {a b : Nat} (ha : a < 2 ^ 64) (hb : b < 2 ^ 64) (h : draw a = draw b) : a = b := by
  unfold draw at h
  have h1 : nextY (nextX (nextS a)) = nextY (nextX (nextS b)) := by
    rw [← backZ (nextY_lt (nextX (nextS a))), h, backZ (nextY_lt _)]
  have h2 : nextX (nextS a) = nextX (nextS b) := by
    rw [← backY (nextX_lt (nextS_lt a)), h1, backY (nextX_lt (nextS_lt b))]
  have h3 : nextS a = nextS b := by
    rw [← backX (nextS_lt a), h2, backX (nextS_lt b)]
  rw [← backS ha, h3, backS hb]
end Go.Gf
