/-
  The combination Mix of layer 4, of the program and of the reference, by its contract.
-/
import Derived.Test.YtamdcbleefdphaaHFnv
import Derived.Deep.QuietTactic
import Derived.BigQuiet
namespace Go.Proofs.Ytamdcbleefdphaa
open Go.RowKit

/-- An integer as its 64 bits. -/
def U (n : Int) : Nat := (n % 18446744073709551616).toNat
theorem U_lt (n : Int) : U n < 18446744073709551616 := by unfold U; omega
theorem U_wrap (n : Int) : IntKind.u64.wrap n = ((U n : Nat) : Int) := by unfold U; rw [IntKind.wrap_u64]; omega
theorem U_mod (n : Int) : n % 18446744073709551616 = ((U n : Nat) : Int) := by unfold U; omega

def MixRel (h u : Nat) (vh vu vi : Value) : Prop := ∃ k : Nat, k ≤ 8 ∧ vi = .int .i64 (k : Int) ∧ vu = .int .u64 ((u * 256 ^ k % 18446744073709551616 : Nat) : Int) ∧ vh = .int .u32 (Hs.fnvFrom h ((Hs.be8 u).take k) : Nat)

theorem byteAt_8 (u k : Nat) : ((UInt8.ofNat (Hs.byteAt u k)).toNat : Int) = (Hs.byteAt u k : Int) := by
  rw [Wi.ofNat_toNat (Hs.byteAt_lt u k)]

theorem ret_u32 {a b : Int} (h : a = b) : Ending.returned (.int .u32 a) = .returned (.int .u32 b) := by rw [h]
theorem fnvStep_at (h : Nat) (c : UInt8) (z : Int) (w : World) (hh : h < 4294967296) (hz : z = (c.toNat : Int)) :
    Calls Try.prog 22 #[.int .u32 h, .int .u8 z] w fun e w' => e = .returned (.int .u32 (Hs.stp h c.toNat : Nat)) ∧ w = w' := by
  subst hz
  exact fnvStep_any h c w hh
theorem mix_eq (a b : Int) : Hs.fnvFrom (Hs.fnvFrom 2166136261 (Hs.be8 (U a))) (Hs.be8 (U b)) % 2147483648 = Hs.mix (U a) (U b) := by
  unfold Hs.mix Hs.fnv
  rw [Hs.fnvFrom_append]
theorem low31 (x : Nat) (hx : x < 4294967296) : bits .and .u32 (x : Int) 2147483647 = ((x % 2147483648 : Nat) : Int) := by
  have := u32_and_nat x 2147483647 hx (by omega)
  rw [show (2147483647 : Nat) = 2 ^ 31 - 1 from rfl, Nat.and_two_pow_sub_one_eq_mod] at this
  exact this

set_option maxHeartbeats 400000 in
theorem mixStep_any (h : Nat) (n : Int) (w : World) (hh : h < 4294967296) (_hn1 : -9223372036854775808 ≤ n) (_hn2 : n ≤ 9223372036854775807) :
    Calls Try.prog 20 #[.int .u32 h, .int .i64 n] w fun e w' => e = .returned (.int .u32 (Hs.fnvFrom h (Hs.be8 (U n)) : Nat)) ∧ w = w' := by
  have HW := hid (U_wrap n)
  have HM := hid (U_mod n)
  have hu := U_lt n
  generalize U n = u at *
  go_enter Try.func20, Try.ntmps20
  go_wp2
  go_loop [0, 5, 8] (fun vh vu vi => MixRel h u vh vu vi) (fun _ _ vi => 8 - (intOf vi).toNat)
  case atStart => exact ⟨0, Nat.zero_le _, rfl, by rw [Nat.pow_zero, Nat.mul_one, Nat.mod_eq_of_lt hu]; first | exact congrArg (Value.int IntKind.u64) HW.out | exact congrArg (Value.int IntKind.u64) HM.out, rfl⟩
  case round =>
    obtain ⟨k, hk, rfl, rfl, rfl⟩ := hrel
    have hl := Hs.fnvFrom_lt ((Hs.be8 u).take k) hh
    by_cases hlt : k < 8
    · have HT := hid (Hs.top u k hlt)
      have HU := hid (Hs.up u k)
      have ht := Hs.be8_take u k hlt
      have HS : Hid (Hs.stp (Hs.fnvFrom h ((Hs.be8 u).take k)) (UInt8.ofNat (Hs.byteAt u k)).toNat = Hs.fnvFrom h ((Hs.be8 u).take (k + 1))) := by
        show _ = _
        rw [ht, Hs.fnvFrom_snoc]
      have HB := hid (byteAt_8 u k)
      clear ht
      generalize Hs.fnvFrom h ((Hs.be8 u).take k) = x at *
      have hm : u * 256 ^ k % 18446744073709551616 < 18446744073709551616 := Nat.mod_lt _ (by omega)
      generalize u * 256 ^ k % 18446744073709551616 = m at *
      have HA : Hid ((m : Int) / 72057594037927936 = ((UInt8.ofNat (Hs.byteAt u k)).toNat : Int)) := by
        show _ = _
        rw [HB.out, ← HT.out]
        omega
      have HV : Hid ((m : Int) * 256 % 18446744073709551616 = ((u * 256 ^ (k + 1) % 18446744073709551616 : Nat) : Int)) := by
        show _ = _
        rw [← HU.out]
        omega
      clear HB HT HU HW HM
      generalize UInt8.ofNat (Hs.byteAt u k) = c at *
      go_wp2_with (go_at_call 22; refine (fnvStep_at x c _ _ hl HA.out).mono ?_; rintro e w' ⟨rfl, rfl⟩)
      go_round
      case rel => exact ⟨k + 1, by omega, by go_num, by first | exact congrArg (Value.int IntKind.u64) HV.out | trace_state, by rw [HS.out]⟩
      case measure => simp [intOf]; omega
    · obtain rfl : k = 8 := by omega
      have HE : Hid ((Hs.be8 u).take 8 = Hs.be8 u) := List.take_of_length_le (by rw [Hs.be8_length]; omega)
      generalize hz : u * 256 ^ 8 % 18446744073709551616 = z
      generalize hx : Hs.fnvFrom h ((Hs.be8 u).take 8) = x at *
      have HX := hid hx
      clear hx hz
      go_wp2
      go_ret
      exact ⟨ret_u32 (by rw [← HX.out, HE.out]), rfl⟩

set_option maxHeartbeats 400000 in
theorem mix_any (a b : Int) (w : World) (ha1 : -9223372036854775808 ≤ a) (ha2 : a ≤ 9223372036854775807) (hb1 : -9223372036854775808 ≤ b) (hb2 : b ≤ 9223372036854775807) :
    Calls Try.prog 16 #[.int .i64 a, .int .i64 b] w fun e w' => e = .returned (.int .i64 (Hs.mix (U a) (U b) : Nat)) ∧ w = w' := by
  have c1 := fun W => mixStep_any 2166136261 a W (by decide) ha1 ha2
  have hl := Hs.fnvFrom_lt (h := 2166136261) (Hs.be8 (U a)) (by decide)
  have c2 := fun W => mixStep_any (Hs.fnvFrom 2166136261 (Hs.be8 (U a))) b W hl hb1 hb2
  have hl2 := Hs.fnvFrom_lt (Hs.be8 (U b)) hl
  have HM := hid (mix_eq a b)
  have HML := hid (Hs.mix_lt (U a) (U b))
  generalize Hs.mix (U a) (U b) = m at *
  generalize Hs.fnvFrom (Hs.fnvFrom 2166136261 (Hs.be8 (U a))) (Hs.be8 (U b)) = y at *
  generalize Hs.fnvFrom 2166136261 (Hs.be8 (U a)) = x at *
  have HL := hid (low31 y hl2)
  have C1 := hid c1
  have C2 := hid c2
  clear c1 c2 ha1 ha2 hb1 hb2
  go_enter Try.func16, Try.ntmps16
  go_wp2_with fail
  refine (C1.out _).mono ?_
  rintro e w' ⟨rfl, rfl⟩
  go_wp2_with fail
  refine (C2.out _).mono ?_
  rintro e w' ⟨rfl, rfl⟩
  go_wp2_with fail
  go_ret
  exact ⟨ret_int (by rw [HL.out, HM.out]; exact IntWalk.wrap64_in _ (by have := HML.out; omega)), rfl⟩
end Go.Proofs.Ytamdcbleefdphaa
