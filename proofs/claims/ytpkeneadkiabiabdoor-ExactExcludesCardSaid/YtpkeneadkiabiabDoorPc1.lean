/- Ones of numbers: how many numbers below a power of two have so many. -/
set_option linter.unusedSimpArgs false
set_option linter.unusedVariables false
namespace Go.Pc

/-- how many of the first numbers have a property -/
def cs (f : Nat → Bool) : Nat → Nat
  | 0 => 0
  | j + 1 => cs f j + if f j then 1 else 0
section
variable {c : Nat → Nat → Nat} (h0 : ∀ n, c n 0 = 1) (h1 : ∀ k, c 0 (k + 1) = 0) (h2 : ∀ n k, c (n + 1) (k + 1) = c n k + c n (k + 1))
include h0 h1 h2
end
end Go.Pc


