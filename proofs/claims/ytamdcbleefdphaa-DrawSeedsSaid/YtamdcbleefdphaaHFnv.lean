/-
  The hash Fnv of layer 4, of the program and of the reference, by its contract; and Bucket.
-/
import Derived.Test.YtamdcbleefdphaaOpn
import Derived.Test.YtamdcbleefdphaaHPlain
namespace Go.Proofs.Ytamdcbleefdphaa
open Go.RowKit

theorem xor_b (h : Nat) (c : UInt8) (hh : h < 4294967296) : ∃ x : Nat, bits .xor .u32 (h : Int) ((c.toNat : Int)) = (x : Int) ∧ x < 4294967296 ∧ x * 16777619 % 4294967296 = Hs.stp h c.toNat :=
  ⟨h ^^^ c.toNat, u32_xor_nat h c.toNat hh (Hs.byte_lt c), Hs.xor_lt hh (Hs.byte_lt c), rfl⟩

theorem mul_b (x s : Nat) (h : x * 16777619 % 4294967296 = s) : IntKind.u32.wrap ((x : Int) * 16777619) = (s : Int) := by
  rw [IntKind.wrap_u32, ← h]
  simp

theorem raw_stp (h : Nat) (c : UInt8) (hh : h < 4294967296) : bits .xor .u32 (h : Int) ((c.toNat : Int) % 4294967296) * 16777619 % 4294967296 = ((Hs.stp h c.toNat : Nat) : Int) := by
  obtain ⟨x, hx, _, hs⟩ := xor_b h c hh
  have hc := c.toNat_lt
  rw [show ((c.toNat : Int) % 4294967296) = (c.toNat : Int) by omega, hx, ← hs]
  simp

set_option maxHeartbeats 400000 in
theorem fnvStep_any (h : Nat) (c : UInt8) (w : World) (hh : h < 4294967296) :
    Calls Try.prog 22 #[.int .u32 h, .int .u8 (c.toNat : Int)] w fun e w' => e = .returned (.int .u32 (Hs.stp h c.toNat : Nat)) ∧ w = w' := by
  have hc := c.toNat_lt
  obtain ⟨x, hx, hxl, hs⟩ := xor_b h c hh
  have hm := mul_b x _ hs
  have HS := hid hs
  clear hs
  generalize Hs.stp h c.toNat = s at *
  generalize c.toNat = k at *
  go_enter Try.func22, Try.ntmps22
  go_wp2
  go_ret
  exact ⟨rfl, rfl⟩

/-- The bytes of a string, as far as round k. -/
def upTo (s : ByteArray) (k : Nat) : List UInt8 := s.data.toList.take k
theorem upTo_snoc (s : ByteArray) (k : Nat) (h : k < s.size) : upTo s (k + 1) = upTo s k ++ [s[k]] := by
  unfold upTo
  rw [List.take_succ_eq_append_getElem (by simpa using h)]; rfl
theorem upTo_all (s : ByteArray) (k : Nat) (h : s.size ≤ k) : upTo s k = s.data.toList := List.take_of_length_le (by simpa using h)
theorem fnv_upTo (s : ByteArray) (k : Nat) (h : k < s.size) : Hs.stp (Hs.fnv (upTo s k)) s[k].toNat = Hs.fnv (upTo s (k + 1)) := by
  rw [upTo_snoc s k h, Hs.fnv_snoc]

/-- The relation of the loop: the hash of the first k bytes. -/
def FnvRel (s : ByteArray) (vh vi : Value) : Prop := ∃ k : Nat, k ≤ s.size ∧ vi = .int .i64 (k : Int) ∧ vh = .int .u32 (Hs.fnv (upTo s k) : Nat)

set_option maxHeartbeats 400000 in
theorem fnv_any (s : ByteArray) (w : World) (hs : s.size ≤ maxLen) :
    Calls Try.prog 19 #[.string s] w fun e w' => e = .returned (.int .i64 (Hs.fnv s.data.toList : Nat)) ∧ w = w' := by
  unfold maxLen at hs
  go_enter Try.func19, Try.ntmps19
  go_wp2
  go_loop [3, 7] (fun vh vi => FnvRel s vh vi) (fun _ vi => s.size - (intOf vi).toNat)
  case atStart => exact ⟨0, Nat.zero_le _, rfl, rfl⟩
  case round =>
    obtain ⟨k, hk, rfl, rfl⟩ := hrel
    have hb := Hs.fnv_lt (upTo s k)
    by_cases hlt : k < s.size
    · have HE := hid (fnv_upTo s k hlt)
      generalize Hs.fnv (upTo s k) = h at *
      go_wp2_with (go_at_call 22; refine (fnvStep_any h s[k] _ hb).mono ?_; rintro e w' ⟨rfl, rfl⟩)
      go_round
      case rel => exact ⟨k + 1, by omega, by go_num, by rw [HE.out]⟩
      case measure => simp [intOf]; omega
    · have HE := hid (upTo_all s k (by omega))
      generalize hh : Hs.fnv (upTo s k) = h at *
      have HH := hid hh
      clear hh
      go_wp2
      go_ret
      exact ⟨ret_int (by rw [← HH.out, HE.out]), rfl⟩

def bucket (s : ByteArray) (n : Int) : Int := if n < 1 then 0 else ((Hs.fnv s.data.toList : Nat) : Int) % n
theorem bucket_lo (s : ByteArray) (n : Int) : 0 ≤ bucket s n := by
  unfold bucket
  split
  · omega
  · exact Int.emod_nonneg _ (by omega)
theorem bucket_hi (s : ByteArray) (n : Int) (h : 1 ≤ n) : bucket s n < n := by
  unfold bucket
  rw [if_neg (by omega)]
  exact Int.emod_lt_of_pos _ (by omega)

end Go.Proofs.Ytamdcbleefdphaa
