/-
  The checksum Crc of layer 4, of the program and of the reference, by its contract.
-/
import Derived.Test.YtamdcbleefdphaaHFnv
import Derived.Test.YtamdcbleefdphaaEq
namespace Go.Proofs.Ytamdcbleefdphaa
open Go.RowKit

theorem low_odd (r : Nat) (h : r < 4294967296) (h1 : r % 2 = 1) : (bits BinOp.and IntKind.u32 (r : Int) 1 == 1) = true := by
  have := u32_and_nat r 1 h (by omega)
  rw [Nat.and_one_is_mod, h1] at this
  rw [show bits BinOp.and IntKind.u32 (r : Int) 1 = 1 from this]; rfl
theorem low_even (r : Nat) (h : r < 4294967296) (h1 : ¬ r % 2 = 1) : (bits BinOp.and IntKind.u32 (r : Int) 1 == 1) = false := by
  have := u32_and_nat r 1 h (by omega)
  rw [Nat.and_one_is_mod, show r % 2 = 0 by omega] at this
  rw [show bits BinOp.and IntKind.u32 (r : Int) 1 = 0 from this]; rfl
theorem shf_odd (r : Nat) (h : r < 4294967296) (h1 : r % 2 = 1) : bits BinOp.xor IntKind.u32 ((r : Int) / 2) 3988292384 = ((Hs.shf r : Nat) : Int) := by
  have := u32_xor_nat (r / 2) 3988292384 (by omega) (by omega)
  rw [show ((r : Int) / 2) = ((r / 2 : Nat) : Int) by omega]
  unfold Hs.shf
  rw [if_pos h1]
  exact this
theorem shf_even (r : Nat) (h1 : ¬ r % 2 = 1) : (r : Int) / 2 = ((Hs.shf r : Nat) : Int) := by
  unfold Hs.shf
  rw [if_neg h1]
  omega
theorem xor_raw (r : Nat) (c : UInt8) (h : r < 4294967296) : bits BinOp.xor IntKind.u32 (r : Int) ((c.toNat : Int) % 4294967296) = ((r ^^^ c.toNat : Nat) : Int) := by
  have hc := c.toNat_lt
  rw [show ((c.toNat : Int) % 4294967296) = (c.toNat : Int) by omega]
  exact u32_xor_nat r c.toNat h (Hs.byte_lt c)
theorem xor_raw' (r : Nat) (c : UInt8) (h : r < 4294967296) : bits BinOp.xor IntKind.u32 (r : Int) (c.toNat : Int) = ((r ^^^ c.toNat : Nat) : Int) := u32_xor_nat r c.toNat h (Hs.byte_lt c)

/-- The relation of the loop over the bits: k of them are out. -/
def BitRel (x : Nat) (vr vi : Value) : Prop := ∃ k : Nat, k ≤ 8 ∧ vi = .int .i64 (k : Int) ∧ vr = .int .u32 (Hs.shfN k x : Nat)

/-- The bytes' checksum as far as round k. -/
def CrcRel (l : List UInt8) (vr vi : Value) : Prop := ∃ k : Nat, k ≤ l.length ∧ vi = .int .i64 (k : Int) ∧ vr = .int .u32 (Hs.crcFrom 4294967295 (l.take k) : Nat)

theorem crc_take (l : List UInt8) (k : Nat) (h : k < l.length) : Hs.cst (Hs.crcFrom 4294967295 (l.take k)) (l.getD k 0) = Hs.crcFrom 4294967295 (l.take (k + 1)) := by
  rw [List.take_succ_eq_append_getElem h, Hs.crcFrom_snoc]
  simp [h]
theorem crc_all (l : List UInt8) (k : Nat) (h : l.length ≤ k) : 4294967295 - Hs.crcFrom 4294967295 (l.take k) = Hs.crc l := by
  rw [List.take_of_length_le h]; rfl
theorem u32_not (x : Nat) (hx : x < 4294967296) : bits .xor .u32 IntKind.u32.max (x : Int) = ((4294967295 - x : Nat) : Int) := by
  have h2 : (BitVec.ofInt 32 (x : Int)).toNat = x := ofInt_u32 x hx
  have h1 : BitVec.ofInt 32 IntKind.u32.max = BitVec.allOnes 32 := by decide +kernel
  show IntKind.u32.wrap ((BitVec.ofInt 32 IntKind.u32.max ^^^ BitVec.ofInt 32 (x : Int)).toNat : Int) = _
  rw [h1, BitVec.allOnes_xor, BitVec.toNat_not, h2, IntKind.wrap_u32]
  omega

theorem Bs.len63 {w : World} {A : Option Addr} {n c : Nat} {l : List UInt8} (h : Bs w (.slice A n c) l) : n ≤ 9223372036854775807 := by
  obtain ⟨A', c', hv, hc1, hc2, _⟩ := h
  injection hv with e1 e2 e3
  unfold maxLen at hc2
  simp at hc1 e2
  omega

theorem cst_def (r : Nat) (c : UInt8) : Hs.cst r c = Hs.shfN 8 (r ^^^ c.toNat) := rfl

end Go.Proofs.Ytamdcbleefdphaa
