/-
  Plain mathematics of layer 5: the product by doubling, the low byte's xor, the jitter's two ways of reckoning, and its bounds.
-/
import Derived.Test.YtamdcbleefdphaaHPlain
namespace Go.Proofs.Ytamdcbleefdphaa
namespace Hs

theorem times_odd (o a b : Nat) (h : b % 2 = 1) : ((o + a) % 4294967296 + a * 2 % 4294967296 * (b / 2)) % 4294967296 = (o + a * b) % 4294967296 := by
  have hb : a * b = a + a * 2 * (b / 2) := by
    have : b = 1 + 2 * (b / 2) := by omega
    rw [this, Nat.mul_add, Nat.mul_one, ← Nat.mul_assoc, show (1 + 2 * (b / 2)) / 2 = b / 2 by omega]
  rw [hb, ← Nat.add_assoc, Nat.add_mod, Nat.mod_mod, Nat.mul_mod, Nat.mod_mod, ← Nat.mul_mod, ← Nat.add_mod]
theorem times_even (o a b : Nat) (h : b % 2 = 0) : (o + a * 2 % 4294967296 * (b / 2)) % 4294967296 = (o + a * b) % 4294967296 := by
  have hb : a * b = a * 2 * (b / 2) := by
    have : b = 2 * (b / 2) := by omega
    rw [this, ← Nat.mul_assoc, show 2 * (b / 2) / 2 = b / 2 by omega]
  rw [hb, Nat.add_mod, Nat.mul_mod, Nat.mod_mod, ← Nat.mul_mod, ← Nat.add_mod]

theorem low_xor (h c : Nat) (hc : c < 256) : h / 256 * 256 + ((h % 256) ^^^ c) = h ^^^ c := by
  have h1 : (h ^^^ c) % 256 = (h % 256) ^^^ c := by
    have := Nat.xor_mod_two_pow (a := h) (b := c) (n := 8)
    rw [show (2 : Nat) ^ 8 = 256 from rfl, Nat.mod_eq_of_lt hc] at this
    exact this
  have h2 : (h ^^^ c) / 256 = h / 256 := by
    have := Nat.xor_div_two_pow (a := h) (b := c) (n := 8)
    rw [show (2 : Nat) ^ 8 = 256 from rfl, Nat.div_eq_of_lt hc, Nat.xor_zero] at this
    exact this
  rw [← h1, ← h2, Nat.mul_comm]
  exact Nat.div_add_mod _ _

/-- What Below and Jitter return. -/
def below (x : Nat) (n : Int) : Int := if n < 1 then 0 else (x : Int) % n
theorem below_lo (x : Nat) (n : Int) : 0 ≤ below x n := by
  unfold below
  split
  · omega
  · exact Int.emod_nonneg _ (by omega)
theorem below_hi (x : Nat) (n : Int) (h : 1 ≤ n) : below x n < n := by
  unfold below
  rw [if_neg (by omega)]
  exact Int.emod_lt_of_pos _ (by omega)

theorem mul_le {a b A B : Int} (h0 : 0 ≤ a) (hb : 0 ≤ b) (h1 : a ≤ A) (h2 : b ≤ B) : a * b ≤ A * B :=
  Int.le_trans (Int.mul_le_mul_of_nonneg_left h2 h0) (Int.mul_le_mul_of_nonneg_right h1 (by omega))

theorem parts (b f : Int) : b / 100 * f + b % 100 * f / 100 = b * f / 100 := by
  have h : b * f = b % 100 * f + 100 * (b / 100 * f) := by
    rw [← Int.mul_assoc, ← Int.add_mul, Int.emod_add_mul_ediv]
  rw [h, Int.add_mul_ediv_left _ _ (by omega), Int.add_comm]

theorem jit_lo (b p x : Int) (hb : 0 ≤ b) (hx : 0 ≤ x) : b * (100 - p) / 100 ≤ b * (100 - p + x) / 100 :=
  Int.ediv_le_ediv (by omega) (Int.mul_le_mul_of_nonneg_left (by omega) hb)
theorem jit_hi (b p x : Int) (hb : 0 ≤ b) (hx : x < 2 * p + 1) : b * (100 - p + x) / 100 ≤ b * (100 + p) / 100 :=
  Int.ediv_le_ediv (by omega) (Int.mul_le_mul_of_nonneg_left (by omega) hb)
end Hs
end Go.Proofs.Ytamdcbleefdphaa
