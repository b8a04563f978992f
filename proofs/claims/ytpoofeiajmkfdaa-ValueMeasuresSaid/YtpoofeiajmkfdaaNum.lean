/-
  The small number functions of layer 1 (fold, unfold, canonical of wire; zigzag of the reference), each by its contract.
-/
import Derived.Test.YtpoofeiajmkfdaaRows
import Derived.Test.YtpoofeiajmkfdaaPlain
import Derived.WalkKit
import Derived.WalkSpells
import Derived.WalkLawsBesides
namespace Go.Proofs.Ytpoofeiajmkfdaa
open Go.RowKit

theorem ret_int {k : IntKind} {a b : Int} (h : a = b) : Ending.returned (.int k a) = .returned (.int k b) := by rw [h]
theorem ret_bool {a b : Bool} (h : a = b) : Ending.returned (.bool a) = .returned (.bool b) := by rw [h]

theorem u64_not (x : Nat) (hx : x < 18446744073709551616) : bits .xor .u64 IntKind.u64.max (x : Int) = ((18446744073709551615 - x : Nat) : Int) := by
  have h2 : (BitVec.ofInt 64 (x : Int)).toNat = x := by
    rw [BitVec.ofInt_natCast, BitVec.toNat_ofNat]; exact Nat.mod_eq_of_lt (by omega)
  have h1 : BitVec.ofInt 64 IntKind.u64.max = BitVec.allOnes 64 := by decide +kernel
  show IntKind.u64.wrap ((BitVec.ofInt 64 IntKind.u64.max ^^^ BitVec.ofInt 64 (x : Int)).toNat : Int) = _
  rw [h1, BitVec.allOnes_xor, BitVec.toNat_not, h2, IntKind.wrap_u64]
  omega

theorem u64_low (u : Nat) (h : u < 18446744073709551616) : bits .and .u64 (u : Int) 1 = ((u % 2 : Nat) : Int) := by
  have := u64_and_nat u 1 h (by omega)
  rw [nat_mask1] at this
  exact this

set_option maxHeartbeats 400000 in
theorem fold_any (n : Int) (w : World) (h1 : -9223372036854775808 ≤ n) (h2 : n ≤ 9223372036854775807) :
    Calls Try.prog 127 #[.int .i64 n] w fun e w' => e = .returned (.int .u64 (Wi.zig n)) ∧ w = w' := by
  by_cases h : n < 0
  · go_enter Try.func127, Try.ntmps127
    go_wp2
    go_ret
    refine ⟨ret_int ?_, rfl⟩
    have e1 : IntKind.u64.wrap (IntKind.u64.wrap n * 2) = ((18446744073709551616 + 2 * n).toNat : Nat) := by
      rw [IntKind.wrap_u64, IntKind.wrap_u64]; omega
    rw [e1, u64_not _ (by omega)]
    unfold Wi.zig
    rw [if_neg (by omega)]
    omega
  · go_enter Try.func127, Try.ntmps127
    go_wp2
    go_ret
    refine ⟨ret_int ?_, rfl⟩
    unfold Wi.zig
    rw [if_pos (by omega)]
    omega

theorem unfold_odd (u : Nat) (h2 : u < 18446744073709551616) (h : u % 2 = 1) : wrap64 (bits BinOp.xor IntKind.u64 IntKind.u64.max ((u : Int) / 2)) = Wi.unzig u := by
  rw [show ((u : Int) / 2) = ((u / 2 : Nat) : Int) by omega, u64_not _ (by omega)]
  unfold Wi.unzig wrap64
  rw [if_neg (by omega)]
  omega
theorem unfold_even (u : Nat) (h : u % 2 = 0) : (u : Int) / 2 = Wi.unzig u := by
  unfold Wi.unzig
  rw [if_pos h]
  omega

set_option maxHeartbeats 400000 in
theorem unfold_any (u : Nat) (w : World) (h2 : u < 18446744073709551616) :
    Calls Try.prog 157 #[.int .u64 u] w fun e w' => e = .returned (.int .i64 (Wi.unzig u)) ∧ w = w' := by
  have hl := u64_low u h2
  by_cases hpar : u % 2 = 1
  · have hb : (bits BinOp.and IntKind.u64 (↑u) 1 == 1) = true := by rw [hl, hpar]; rfl
    clear hl
    go_enter Try.func157, Try.ntmps157
    go_wp2
    go_ret
    exact ⟨ret_int (unfold_odd u h2 hpar), rfl⟩
  · have hb : (bits BinOp.and IntKind.u64 (↑u) 1 == 1) = false := by
      rw [hl, show u % 2 = 0 by omega]; rfl
    clear hl
    go_enter Try.func157, Try.ntmps157
    go_wp2
    go_ret
    exact ⟨ret_int (unfold_even u (by omega)), rfl⟩

theorem canon_10 (b k : Nat) (h : k = 10) (_h2 : b < 256) : ((b : Int) == 1) = !decide (Wi.badEnd (k - 1) b) := by
  subst h
  unfold Wi.badEnd
  rw [Bool.eq_iff_iff]
  simp
  omega
theorem canon_1 (b k : Nat) (h : k = 1) : true = !decide (Wi.badEnd (k - 1) b) := by
  subst h
  unfold Wi.badEnd
  rw [Bool.eq_iff_iff]
  simp
theorem canon_n (b k : Nat) (_h : k ≠ 1) (h' : k ≠ 10) (hk : 1 ≤ k) : ((k : Int) == 1 || (b : Int) != 0) = !decide (Wi.badEnd (k - 1) b) := by
  unfold Wi.badEnd
  rw [Bool.eq_iff_iff]
  simp
  omega

set_option maxHeartbeats 400000 in
theorem canonical_any (b k : Nat) (w : World) (h2 : b < 256) (hk : 1 ≤ k) (hk' : k ≤ 10) :
    Calls Try.prog 156 #[.int .u8 b, .int .i64 k] w fun e w' => e = .returned (.bool (!decide (Wi.badEnd (k - 1) b))) ∧ w = w' := by
  go_enter Try.func156, Try.ntmps156
  go_wp2
  · go_ret
    rename_i h
    exact ⟨ret_bool (canon_10 b k (by have := eq_of_beq h; omega) h2), rfl⟩
  · go_ret
    rename_i h
    exact ⟨ret_bool (canon_1 b k (by omega)), rfl⟩
  · go_ret
    rename_i h1 h
    exact ⟨ret_bool (canon_n b k (by omega) (by intro e; subst e; simp at h1) hk), rfl⟩

set_option maxHeartbeats 400000 in
theorem zigzag_any (n : Int) (w : World) (h1 : -9223372036854775808 ≤ n) (h2 : n ≤ 9223372036854775807) :
    Calls Try.prog 128 #[.int .i64 n] w fun e w' => e = .returned (.int .u64 (Wi.zig n)) ∧ w = w' := by
  by_cases h : n < 0
  · go_enter Try.func128, Try.ntmps128
    go_wp2
    go_ret
    refine ⟨ret_int ?_, rfl⟩
    unfold Wi.zig
    rw [if_neg (by omega)]
    omega
  · go_enter Try.func128, Try.ntmps128
    go_wp2
    go_ret
    refine ⟨ret_int ?_, rfl⟩
    unfold Wi.zig
    rw [if_pos (by omega)]
    omega
end Go.Proofs.Ytpoofeiajmkfdaa
