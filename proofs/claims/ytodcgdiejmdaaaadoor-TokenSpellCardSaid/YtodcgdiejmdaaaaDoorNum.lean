/-
  The small number functions of layer 1 (fold, unfold, canonical of wire; zigzag of the reference), each by its contract.
-/
import Derived.Test.YtodcgdiejmdaaaaDoorRows
import Derived.Test.YtodcgdiejmdaaaaDoorPlain
import Derived.WalkKit
import Derived.WalkSpells
import Derived.WalkLawsBesides
namespace Go.Proofs.YtodcgdiejmdaaaaDoor
open Go.RowKit

theorem ret_int {k : IntKind} {a b : Int} (h : a = b) : Ending.returned (.int k a) = .returned (.int k b) := by rw [h]
theorem ret_bool {a b : Bool} (h : a = b) : Ending.returned (.bool a) = .returned (.bool b) := by rw [h]

theorem u64_not (x : Nat) (hx : x < 18446744073709551616) : bits .xor .u64 IntKind.u64.max (x : Int) = ((18446744073709551615 - x : Nat) : Int) := by
  have h2 : (BitVec.ofInt 64 (x : Int)).toNat = x := by
    rw [BitVec.ofInt_natCast, BitVec.toNat_ofNat]; exact Nat.mod_eq_of_lt (by omega)
  have h1 : BitVec.ofInt 64 IntKind.u64.max = BitVec.allOnes 64 := by decide +kernel
  show IntKind.u64.wrap ((BitVec.ofInt 64 IntKind.u64.max ^^^ BitVec.ofInt 64 (x : Int)).toNat : Int) = _
  rw [h1, BitVec.allOnes_xor, BitVec.toNat_not, h2, IntKind.wrap_u64]
  omega

theorem u64_low (u : Nat) (h : u < 18446744073709551616) : bits .and .u64 (u : Int) 1 = ((u % 2 : Nat) : Int) := by
  have := u64_and_nat u 1 h (by omega)
  rw [nat_mask1] at this
  exact this

theorem unfold_odd (u : Nat) (h2 : u < 18446744073709551616) (h : u % 2 = 1) : wrap64 (bits BinOp.xor IntKind.u64 IntKind.u64.max ((u : Int) / 2)) = Wi.unzig u := by
  rw [show ((u : Int) / 2) = ((u / 2 : Nat) : Int) by omega, u64_not _ (by omega)]
  unfold Wi.unzig wrap64
  rw [if_neg (by omega)]
  omega
theorem unfold_even (u : Nat) (h : u % 2 = 0) : (u : Int) / 2 = Wi.unzig u := by
  unfold Wi.unzig
  rw [if_pos h]
  omega

theorem canon_10 (b k : Nat) (h : k = 10) (_h2 : b < 256) : ((b : Int) == 1) = !decide (Wi.badEnd (k - 1) b) := by
  subst h
  unfold Wi.badEnd
  rw [Bool.eq_iff_iff]
  simp
  omega
theorem canon_1 (b k : Nat) (h : k = 1) : true = !decide (Wi.badEnd (k - 1) b) := by
  subst h
  unfold Wi.badEnd
  rw [Bool.eq_iff_iff]
  simp
theorem canon_n (b k : Nat) (_h : k ≠ 1) (h' : k ≠ 10) (hk : 1 ≤ k) : ((k : Int) == 1 || (b : Int) != 0) = !decide (Wi.badEnd (k - 1) b) := by
  unfold Wi.badEnd
  rw [Bool.eq_iff_iff]
  simp
  omega

end Go.Proofs.YtodcgdiejmdaaaaDoor
