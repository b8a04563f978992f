/-
  The checksum Crc of layer 4, of the program and of the reference, by its contract.
-/
import Derived.Test.YthljchcpnbjokaaHFnv
import Derived.Test.YthljchcpnbjokaaEq
namespace Go.Proofs.Ythljchcpnbjokaa
open Go.RowKit

theorem low_odd (r : Nat) (h : r < 4294967296) (h1 : r % 2 = 1) : (bits BinOp.and IntKind.u32 (r : Int) 1 == 1) = true := by
  have := u32_and_nat r 1 h (by omega)
  rw [Nat.and_one_is_mod, h1] at this
  rw [show bits BinOp.and IntKind.u32 (r : Int) 1 = 1 from this]; rfl
theorem low_even (r : Nat) (h : r < 4294967296) (h1 : ¬ r % 2 = 1) : (bits BinOp.and IntKind.u32 (r : Int) 1 == 1) = false := by
  have := u32_and_nat r 1 h (by omega)
  rw [Nat.and_one_is_mod, show r % 2 = 0 by omega] at this
  rw [show bits BinOp.and IntKind.u32 (r : Int) 1 = 0 from this]; rfl
theorem shf_odd (r : Nat) (h : r < 4294967296) (h1 : r % 2 = 1) : bits BinOp.xor IntKind.u32 ((r : Int) / 2) 3988292384 = ((Hs.shf r : Nat) : Int) := by
  have := u32_xor_nat (r / 2) 3988292384 (by omega) (by omega)
  rw [show ((r : Int) / 2) = ((r / 2 : Nat) : Int) by omega]
  unfold Hs.shf
  rw [if_pos h1]
  exact this
theorem shf_even (r : Nat) (h1 : ¬ r % 2 = 1) : (r : Int) / 2 = ((Hs.shf r : Nat) : Int) := by
  unfold Hs.shf
  rw [if_neg h1]
  omega
theorem xor_raw (r : Nat) (c : UInt8) (h : r < 4294967296) : bits BinOp.xor IntKind.u32 (r : Int) ((c.toNat : Int) % 4294967296) = ((r ^^^ c.toNat : Nat) : Int) := by
  have hc := c.toNat_lt
  rw [show ((c.toNat : Int) % 4294967296) = (c.toNat : Int) by omega]
  exact u32_xor_nat r c.toNat h (Hs.byte_lt c)
theorem xor_raw' (r : Nat) (c : UInt8) (h : r < 4294967296) : bits BinOp.xor IntKind.u32 (r : Int) (c.toNat : Int) = ((r ^^^ c.toNat : Nat) : Int) := u32_xor_nat r c.toNat h (Hs.byte_lt c)

/-- The relation of the loop over the bits: k of them are out. -/
def BitRel (x : Nat) (vr vi : Value) : Prop := ∃ k : Nat, k ≤ 8 ∧ vi = .int .i64 (k : Int) ∧ vr = .int .u32 (Hs.shfN k x : Nat)

set_option maxHeartbeats 400000 in
theorem crcStep_any (r : Nat) (c : UInt8) (w : World) (hr : r < 4294967296) :
    Calls Try.prog 19 #[.int .u32 r, .int .u8 (c.toNat : Int)] w fun e w' => e = .returned (.int .u32 (Hs.cst r c : Nat)) ∧ w = w' := by
  have HX := hid (xor_raw r c hr)
  have HX' := hid (xor_raw' r c hr)
  have hxl := Hs.xor_lt hr (Hs.byte_lt c)
  have HE : Hid (Hs.cst r c = Hs.shfN 8 (r ^^^ c.toNat)) := rfl
  generalize Hs.cst r c = fin at HE
  generalize r ^^^ c.toNat = x at *
  have hc := c.toNat_lt
  generalize c.toNat = b at *
  have HC := hid hc
  clear hc
  go_enter Try.func19, Try.ntmps19
  go_wp2
  go_loop [0, 10] (fun vr vi => BitRel x vr vi) (fun _ vi => 8 - (intOf vi).toNat)
  case atStart => exact ⟨0, Nat.zero_le _, rfl, by first | exact congrArg (Value.int IntKind.u32) HX.out | exact congrArg (Value.int IntKind.u32) HX'.out⟩
  case round =>
    obtain ⟨k, hk, rfl, rfl⟩ := hrel
    have hs := Hs.shfN_snoc k x
    have hl := Hs.shfN_lt k hxl
    by_cases hlt : k < 8
    · have HS := hid hs
      clear hs
      generalize Hs.shfN k x = s at *
      by_cases h1 : s % 2 = 1
      · have hb := low_odd s hl h1
        have HO := hid (shf_odd s hl h1)
        clear h1
        go_wp2
        go_round
        case rel => exact ⟨k + 1, by omega, by go_num, by rw [HS.out]; exact congrArg (Value.int IntKind.u32) HO.out⟩
        case measure => simp [intOf]; omega
      · have hb := low_even s hl h1
        have HO := hid (shf_even s h1)
        clear h1
        go_wp2
        go_round
        case rel => exact ⟨k + 1, by omega, by go_num, by rw [HS.out]; exact congrArg (Value.int IntKind.u32) HO.out⟩
        case measure => simp [intOf]; omega
    · obtain rfl : k = 8 := by omega
      clear hs
      generalize Hs.shfN 8 x = s at *
      go_wp2
      go_ret
      exact ⟨by rw [HE.out]; rfl, rfl⟩

/-- The bytes' checksum as far as round k. -/
def CrcRel (l : List UInt8) (vr vi : Value) : Prop := ∃ k : Nat, k ≤ l.length ∧ vi = .int .i64 (k : Int) ∧ vr = .int .u32 (Hs.crcFrom 4294967295 (l.take k) : Nat)

theorem crc_take (l : List UInt8) (k : Nat) (h : k < l.length) : Hs.cst (Hs.crcFrom 4294967295 (l.take k)) (l.getD k 0) = Hs.crcFrom 4294967295 (l.take (k + 1)) := by
  rw [List.take_succ_eq_append_getElem h, Hs.crcFrom_snoc]
  simp [h]
theorem crc_all (l : List UInt8) (k : Nat) (h : l.length ≤ k) : 4294967295 - Hs.crcFrom 4294967295 (l.take k) = Hs.crc l := by
  rw [List.take_of_length_le h]; rfl
theorem u32_not (x : Nat) (hx : x < 4294967296) : bits .xor .u32 IntKind.u32.max (x : Int) = ((4294967295 - x : Nat) : Int) := by
  have h2 : (BitVec.ofInt 32 (x : Int)).toNat = x := ofInt_u32 x hx
  have h1 : BitVec.ofInt 32 IntKind.u32.max = BitVec.allOnes 32 := by decide +kernel
  show IntKind.u32.wrap ((BitVec.ofInt 32 IntKind.u32.max ^^^ BitVec.ofInt 32 (x : Int)).toNat : Int) = _
  rw [h1, BitVec.allOnes_xor, BitVec.toNat_not, h2, IntKind.wrap_u32]
  omega

theorem Bs.len63 {w : World} {A : Option Addr} {n c : Nat} {l : List UInt8} (h : Bs w (.slice A n c) l) : n ≤ 9223372036854775807 := by
  obtain ⟨A', c', hv, hc1, hc2, _⟩ := h
  injection hv with e1 e2 e3
  unfold maxLen at hc2
  simp at hc1 e2
  omega

set_option maxHeartbeats 400000 in
theorem crc_any (v : Value) (l : List UInt8) (w : World) (h : Bs w v l) :
    Calls Try.prog 12 #[v] w fun e w' => e = .returned (.int .i64 (Hs.crc l : Nat)) ∧ w = w' := by
  obtain ⟨A, c, rfl⟩ := h.form
  have h63 := h.len63
  have H := hid h
  clear h
  generalize hn : l.length = n at *
  have HL := hid hn
  clear hn
  go_enter Try.func12, Try.ntmps12
  go_wp2
  go_loop [3, 8] (fun vr vi => CrcRel l vr vi) (fun _ vi => n - (intOf vi).toNat)
  case atStart => exact ⟨0, Nat.zero_le _, rfl, rfl⟩
  case round =>
    obtain ⟨k, hk, rfl, rfl⟩ := hrel
    have hl := Hs.crcFrom_lt (r := 4294967295) (l.take k) (by decide)
    rw [HL.out] at hk
    by_cases hlt : k < n
    · obtain ⟨ad, rfl, hc1⟩ := H.out.at k (by rw [HL.out]; exact hlt)
      have HE := hid (crc_take l k (by rw [HL.out]; exact hlt))
      generalize Hs.crcFrom 4294967295 (l.take k) = r at *
      generalize l.getD k 0 = x at *
      go_wp2_with (go_at_call 19; refine (crcStep_any r x _ hl).mono ?_; rintro e w' ⟨rfl, rfl⟩)
      go_round
      case rel => exact ⟨k + 1, by rw [HL.out]; omega, by go_num, by rw [HE.out]⟩
      case measure => simp [intOf]; omega
    · have HE := hid (crc_all l k (by rw [HL.out]; omega))
      generalize Hs.crcFrom 4294967295 (l.take k) = r at *
      have HN := hid (u32_not r hl)
      go_wp2
      go_ret
      exact ⟨ret_int (by rw [HN.out, HE.out]; exact IntWalk.wrap64_in _ (by have := Hs.crc_lt l; omega)), rfl⟩

theorem cst_def (r : Nat) (c : UInt8) : Hs.cst r c = Hs.shfN 8 (r ^^^ c.toNat) := rfl

set_option maxHeartbeats 400000 in
theorem rcrc_any (v : Value) (l : List UInt8) (w : World) (h : Bs w v l) :
    Calls Try.prog 13 #[v] w fun e w' => e = .returned (.int .i64 (Hs.crc l : Nat)) ∧ w = w' := by
  obtain ⟨A, c, rfl⟩ := h.form
  have h63 := h.len63
  have H := hid h
  clear h
  generalize hn : l.length = n at *
  have HL := hid hn
  clear hn
  go_enter Try.func13, Try.ntmps13
  go_wp2
  go_loop [3, 10] (fun vr vi => CrcRel l vr vi) (fun _ vi => n - (intOf vi).toNat)
  case atStart => exact ⟨0, Nat.zero_le _, rfl, rfl⟩
  case round =>
    obtain ⟨k, hk, rfl, rfl⟩ := hrel
    have hl := Hs.crcFrom_lt (r := 4294967295) (l.take k) (by decide)
    rw [HL.out] at hk
    by_cases hlt : k < n
    · obtain ⟨ad, rfl, hc1⟩ := H.out.at k (by rw [HL.out]; exact hlt)
      have HE := hid (crc_take l k (by rw [HL.out]; exact hlt))
      generalize Hs.crcFrom 4294967295 (l.take k) = r at *
      generalize l.getD k 0 = x at *
      have HX := hid (xor_raw r x hl)
      have HX' := hid (xor_raw' r x hl)
      have hxl := Hs.xor_lt hl (Hs.byte_lt x)
      rw [cst_def] at HE
      generalize r ^^^ x.toNat = y at *
      go_wp2
      go_loop [3, 6] (fun vr vi => BitRel y vr vi) (fun _ vi => 8 - (intOf vi).toNat)
      case atStart => exact ⟨0, Nat.zero_le _, rfl, by first | exact congrArg (Value.int IntKind.u32) HX.out | exact congrArg (Value.int IntKind.u32) HX'.out⟩
      case round =>
        obtain ⟨j, hj, rfl, rfl⟩ := hrel
        have hs := Hs.shfN_snoc j y
        have hsl := Hs.shfN_lt j hxl
        by_cases hjt : j < 8
        · have HS := hid hs
          clear hs
          generalize Hs.shfN j y = s at *
          by_cases h1 : s % 2 = 1
          · have hb : ((s : Int) % 2 == 1) = true := by rw [beq_iff_eq]; omega
            have HO := hid (shf_odd s hsl h1)
            clear h1
            go_wp2
            go_round
            case rel => exact ⟨j + 1, by omega, by go_num, by rw [HS.out]; exact congrArg (Value.int IntKind.u32) HO.out⟩
            case measure => simp [intOf]; omega
          · have hb : ((s : Int) % 2 == 1) = false := by rw [beq_eq_false_iff_ne]; omega
            have HO := hid (shf_even s h1)
            clear h1
            go_wp2
            go_round
            case rel => exact ⟨j + 1, by omega, by go_num, by rw [HS.out]; exact congrArg (Value.int IntKind.u32) HO.out⟩
            case measure => simp [intOf]; omega
        · obtain rfl : j = 8 := by omega
          clear hs
          generalize Hs.shfN 8 y = s at *
          go_wp2
          go_round
          case rel => exact ⟨k + 1, by rw [HL.out]; omega, by go_num, by rw [← HE.out]⟩
          case measure => simp [intOf]; omega
    · have HE := hid (crc_all l k (by rw [HL.out]; omega))
      generalize Hs.crcFrom 4294967295 (l.take k) = r at *
      have HN := hid (u32_not r hl)
      go_wp2
      go_ret
      exact ⟨ret_int (by rw [HN.out, HE.out]; exact IntWalk.wrap64_in _ (by have := Hs.crc_lt l; omega)), rfl⟩
end Go.Proofs.Ythljchcpnbjokaa
