/-
  The reference's times, Fnv, eight, Draw, Below of layer 5, each by its contract.
-/
import Derived.Test.YtamdcbleefdphaaHEight
import Derived.Test.YtamdcbleefdphaaHCrc
import Derived.Test.YtamdcbleefdphaaDPlain
namespace Go.Proofs.Ytamdcbleefdphaa
open Go.RowKit

def TimesRel (T : Nat) (va vb vo : Value) : Prop := ∃ a b o : Nat, a < 4294967296 ∧ b < 4294967296 ∧ o < 4294967296 ∧ va = .int .u64 (a : Int) ∧ vb = .int .u64 (b : Int) ∧ vo = .int .u64 (o : Int) ∧ Hid ((o + a * b) % 4294967296 = T)

theorem ret_u64 {a b : Int} (h : a = b) : Ending.returned (.int .u64 a) = .returned (.int .u64 b) := by rw [h]

set_option maxHeartbeats 400000 in
theorem times_any (a b : Nat) (w : World) (ha : a < 4294967296) (hb : b < 4294967296) :
    Calls Try.prog 21 #[.int .u64 a, .int .u64 b] w fun e w' => e = .returned (.int .u64 (a * b % 4294967296 : Nat)) ∧ w = w' := by
  have HS : TimesRel (a * b % 4294967296) (.int .u64 (a : Int)) (.int .u64 (b : Int)) (.int .u64 0) := ⟨a, b, 0, ha, hb, by omega, rfl, rfl, rfl, by show _ = _; rw [Nat.zero_add]⟩
  generalize a * b % 4294967296 = T at *
  go_enter Try.func21, Try.ntmps21
  go_wp2
  go_loop [0, 1, 5] (fun va vb vo => TimesRel T va vb vo) (fun _ vb _ => (intOf vb).toNat)
  case atStart => exact HS
  case round =>
    clear HS ha hb
    clear a b
    obtain ⟨a, b, o, ha, hb, ho, rfl, rfl, rfl, H⟩ := hrel
    by_cases h0 : 0 < b
    · by_cases h1 : b % 2 = 1
      · have ht : ((b : Int) % 2 == 1) = true := by rw [beq_iff_eq]; omega
        have HE := hid (Hs.times_odd o a b h1)
        clear h1
        go_wp2
        go_round
        case rel => exact ⟨a * 2 % 4294967296, b / 2, (o + a) % 4294967296, by omega, by omega, by omega, by go_num, by go_num, by go_num, HE.out.trans H.out⟩
        case measure => simp [intOf]; omega
      · have ht : ((b : Int) % 2 == 1) = false := by rw [beq_eq_false_iff_ne]; omega
        have HE := hid (Hs.times_even o a b (by omega))
        clear h1
        go_wp2
        go_round
        case rel => exact ⟨a * 2 % 4294967296, b / 2, o, by omega, by omega, by omega, by go_num, by go_num, rfl, HE.out.trans H.out⟩
        case measure => simp [intOf]; omega
    · obtain rfl : b = 0 := by omega
      have HT : Hid (o = T) := by
        show _ = _
        rw [← H.out, Nat.mul_zero, Nat.add_zero, Nat.mod_eq_of_lt ho]
      clear H
      go_wp2
      go_ret
      exact ⟨ret_u64 (by rw [HT.out]), rfl⟩

/-- The bytes of a list, as far as round k. -/
def RFnvRel (l : List UInt8) (vh vi : Value) : Prop := ∃ k : Nat, k ≤ l.length ∧ vi = .int .i64 (k : Int) ∧ vh = .int .u64 (Hs.fnv (l.take k) : Nat)
theorem fnv_take (l : List UInt8) (k : Nat) (h : k < l.length) : (Hs.fnv (l.take k) ^^^ (l.getD k 0).toNat) * 16777619 % 4294967296 = Hs.fnv (l.take (k + 1)) := by
  rw [List.take_succ_eq_append_getElem h, Hs.fnv_snoc, ← (show l.getD k 0 = l[k] by simp [h])]
  rfl
theorem xor8_raw (h : Nat) (c : UInt8) : bits .xor .u8 ((h : Int) % 256) (c.toNat : Int) = (((h % 256) ^^^ c.toNat : Nat) : Int) := by
  have := u8_xor_nat (h % 256) c.toNat (by omega) c.toNat_lt
  rw [show ((h : Int) % 256) = ((h % 256 : Nat) : Int) by omega]
  exact this
theorem raw5 (r : Nat) (x : UInt8) (hr : r < 4294967296) : IntKind.u64.wrap ((r : Int) / 256 * 256 + IntKind.u64.wrap (bits .xor .u8 ((r : Int) % 256) (x.toNat : Int))) = ((r ^^^ x.toNat : Nat) : Int) := by
  have h1 := Hs.low_xor r x.toNat x.toNat_lt
  have h2 := Hs.xor_lt hr (Hs.byte_lt x)
  rw [xor8_raw]
  generalize r % 256 ^^^ x.toNat = z at *
  generalize r ^^^ x.toNat = y at *
  rw [IntKind.wrap_u64, IntKind.wrap_u64]
  omega
theorem times_at (a b : Nat) (z : Int) (w : World) (ha : a < 4294967296) (hb : b < 4294967296) (hz : z = (a : Int)) :
    Calls Try.prog 21 #[.int .u64 z, .int .u64 b] w fun e w' => e = .returned (.int .u64 (a * b % 4294967296 : Nat)) ∧ w = w' := by
  subst hz
  exact times_any a b w ha hb

set_option maxHeartbeats 400000 in
theorem rfnv5_any (v : Value) (l : List UInt8) (w : World) (h : Bs w v l) :
    Calls Try.prog 18 #[v] w fun e w' => e = .returned (.int .i64 (Hs.fnv l : Nat)) ∧ w = w' := by
  obtain ⟨A, c, rfl⟩ := h.form
  have h63 := h.len63
  have H := hid h
  clear h
  generalize hn : l.length = n at *
  have HL := hid hn
  clear hn
  go_enter Try.func18, Try.ntmps18
  go_wp2
  go_loop [3, 4] (fun vh vi => RFnvRel l vh vi) (fun _ vi => n - (intOf vi).toNat)
  case atStart => exact ⟨0, Nat.zero_le _, rfl, rfl⟩
  case round =>
    obtain ⟨k, hk, rfl, rfl⟩ := hrel
    have hl := Hs.fnv_lt (l.take k)
    rw [HL.out] at hk
    by_cases hlt : k < n
    · obtain ⟨ad, rfl, hc1⟩ := H.out.at k (by rw [HL.out]; exact hlt)
      have HE := hid (fnv_take l k (by rw [HL.out]; exact hlt))
      generalize Hs.fnv (l.take k) = r at *
      generalize l.getD k 0 = x at *
      have HX := hid (raw5 r x hl)
      have HXL := hid (Hs.xor_lt hl (Hs.byte_lt x))
      generalize r ^^^ x.toNat = y at *
      go_wp2_with (go_at_call 21; refine (times_at y 16777619 _ _ HXL.out (by omega) HX.out).mono ?_; rintro e w' ⟨rfl, rfl⟩)
      go_round
      case rel => exact ⟨k + 1, by rw [HL.out]; omega, by go_num, by rw [← HE.out]; simp⟩
      case measure => simp [intOf]; omega
    · have HE : Hid (l.take k = l) := List.take_of_length_le (by rw [HL.out]; omega)
      generalize hh : Hs.fnv (l.take k) = r at *
      have HH := hid hh
      clear hh
      go_wp2
      go_ret
      exact ⟨ret_int (by rw [← HH.out, HE.out]), rfl⟩

set_option maxRecDepth 100000 in
set_option maxHeartbeats 400000 in
theorem eight5_any (n : Int) (w : World) (_hn1 : -9223372036854775808 ≤ n) (_hn2 : n ≤ 9223372036854775807) :
    Calls Try.prog 17 #[.int .i64 n] w (NewB w (Hs.be8 (U n))) := by
  have HW := hid (U_wrap n)
  have HM := hid (U_mod n)
  have hu := U_lt n
  generalize U n = u at *
  obtain ⟨i0, hi, hz0, hz1, hz2⟩ := info_parts Try.info5
  have hmade : madeCells #[Value.int .u8 0] 8 = [Value.int .u8 0, .int .u8 0, .int .u8 0, .int .u8 0, .int .u8 0, .int .u8 0, .int .u8 0, .int .u8 0].toArray := by
    apply Array.ext'
    rw [toList_madeCells_one]
    rfl
  have hmk : ∀ W : World, (Instr.makeSlice 32 (.int .i64 8) (.int .i64 8)).run Try.prog W = .ok (.slice (some ⟨W.heap.size, 0, none⟩) 8 8) (W.alloc (.cells (madeCells #[.int .u8 0] 8) 5)) :=
    fun W : World => run_makeN (P := Try.prog) W 32 5 i0 (.int .u8 0) Try.underlying32 hi hz0 hz1 8 8 (by omega) (by rw [hz2]; omega) (by omega)
  have HMADE := hid hmade
  clear hi hz0 hz1 hz2 hmade
  go_enter Try.func17, Try.ntmps17
  go_wp2
  generalize hww : w.alloc (.cells (madeCells #[.int .u8 0] 8) 5) = w1
  have HR : Hid (EightRel w u (.slice (some ⟨w.heap.size, 0, none⟩) 8 8) (.int .u64 u) (.int .i64 7) w1) := by
    refine ⟨0, by omega, rfl, by simp, ?_, ?_⟩
    · rw [← hww, row8_none _ (Hs.be8_length u), HMADE.out]
      exact Own.lit (e := 5) w [.int .u8 0, .int .u8 0, .int .u8 0, .int .u8 0, .int .u8 0, .int .u8 0, .int .u8 0, .int .u8 0] (Nat.le_refl _) (by simp [maxLen])
    · rw [← hww]
      exact (Below.refl _ _).alloc (Nat.le_refl _) _
  clear hww hmk
  generalize hg : w.heap.size = g at *
  have HG := hid hg
  clear hg
  go_loopw [4, 5] (fun vu vi wr => EightRel w u (.slice (some ⟨g, 0, none⟩) 8 8) vu vi wr) (fun _ vi _ => ((intOf vi) + 1).toNat)
  case atStart => rw [HW.out]; exact HR.out
  case round =>
    obtain ⟨j, hj, rfl, rfl, hown, hbw⟩ := hrel
    have hm : u / 256 ^ j < 18446744073709551616 := Nat.lt_of_le_of_lt (Nat.div_le_self _ _) hu
    have HQ := hid (quo8 u j)
    have hrl := row8_len _ _ (Hs.be8_length u) hj
    by_cases hlt : j < 8
    · obtain ⟨hbg, ⟨v, hcell⟩, hfro, hset⟩ := own_put hown (by simp [hrl]) (7 - j) (by omega)
      have hx : ((7 : Int) - (j : Int)).toNat = 7 - j := by omega
      have HB := hid (rem8 u j hlt)
      have HS := hid (hset (by8 (UInt8.ofNat (Hs.byteAt u (7 - j)))))
      have HL := hid (row8_set (Hs.be8 u) j (Hs.be8_length u) hlt)
      have HV : Hid (∀ m : Nat, ((m : Int) % 256 = (Hs.byteAt u (7 - j) : Int)) → Value.int .u8 ((m : Int) % 256) = by8 (UInt8.ofNat (Hs.byteAt u (7 - j)))) := fun m hm => by
        rw [hm]
        exact lit8 (Hs.byteAt_lt u (7 - j))
      generalize u / 256 ^ j = m at *
      clear hown hset
      go_wp2
      go_roundw
      case rel =>
        refine ⟨j + 1, by omega, by go_num, congrArg (Value.int IntKind.u64) HQ.out, ?_, ?_⟩
        · rw [HV.out m HB.out, ← HL.out, be8_at _ _ (by omega)]
          unfold OwnB
          rw [List.map_set]
          exact HS.out.1
        · rw [HV.out m HB.out]
          exact hbw.grown HS.out.2 hbw.size (fun k hk => by obtain rfl : g = k := by simpa using hk
                                                            exact Nat.le_of_eq HG.out)
      case measure => simp [intOf]; omega
    · obtain rfl : j = 8 := by omega
      rw [row8_all] at hown
      generalize u / 256 ^ 8 = m at *
      clear hrl
      have HO := hid hown
      clear hown
      go_wp2
      go_ret
      exact ⟨_, rfl, HO.out, hbw⟩

theorem newB_form {w w' : World} {bs : List UInt8} {e : Ending} (h : NewB w bs e w') : ∃ A n c, e = .returned (.slice A n c) ∧ OwnB w' w.heap.size (.slice A n c) bs ∧ Below w.heap.size w w' := by
  obtain ⟨v, rfl, h1, h2⟩ := h
  obtain ⟨A, c, rfl⟩ := h1.bs.form
  exact ⟨A, _, c, rfl, h1, h2⟩
theorem bs_form {w : World} {v : Value} {bs : List UInt8} (h : Bs w v bs) : ∃ A n c, v = .slice A n c := by
  obtain ⟨A, c, rfl⟩ := h.form
  exact ⟨A, _, c, rfl⟩

set_option maxRecDepth 100000 in
set_option maxHeartbeats 400000 in
theorem rdraw_any (a b : Int) (w : World) (ha1 : -9223372036854775808 ≤ a) (ha2 : a ≤ 9223372036854775807) (hb1 : -9223372036854775808 ≤ b) (hb2 : b ≤ 9223372036854775807) :
    Calls Try.prog 8 #[.int .i64 a, .int .i64 b] w fun e w' => e = .returned (.int .i64 (Hs.mix (U a) (U b) : Nat)) ∧ Below w.heap.size w w' := by
  have C1 := hid (fun W => eight5_any a W ha1 ha2)
  have C2 := hid (fun W => eight5_any b W hb1 hb2)
  have HM := hid (show Hs.fnv (Hs.be8 (U a) ++ Hs.be8 (U b)) % 2147483648 = Hs.mix (U a) (U b) from rfl)
  have hl := Hs.fnv_lt (Hs.be8 (U a) ++ Hs.be8 (U b))
  have h1 := Hs.be8_length (U a)
  have h2 := Hs.be8_length (U b)
  generalize Hs.be8 (U a) = l1 at *
  generalize Hs.be8 (U b) = l2 at *
  have HF := hid (fun v W => rfnv5_any v (l1 ++ l2) W)
  generalize Hs.fnv (l1 ++ l2) = y at *
  generalize Hs.mix (U a) (U b) = m at *
  have L1 := hid h1
  have L2 := hid h2
  clear ha1 ha2 hb1 hb2 h1 h2
  go_enter Try.func8, Try.ntmps8
  go_wp2_with fail
  refine (C1.out _).mono ?_
  intro e w1 hnew1
  obtain ⟨A1, n1, c1, rfl, ho1, hb1⟩ := newB_form hnew1
  have O1 := hid ho1
  clear ho1 hnew1
  go_wp2_with fail
  refine (C2.out _).mono ?_
  intro e w2 hnew2
  obtain ⟨A2, n2, c2, rfl, ho2, hb2⟩ := newB_form hnew2
  have O2 := hid ho2
  have hsz := Nat.le_trans hb1.size hb2.size
  have O1' := hid (OwnB.below O1.out hb2)
  clear ho2 hnew2 O1
  go_wp2_with (at_builtin; refine wpList_appB rfl (.tmp 8) (.tmp 10) rfl w.heap.size (.slice A1 n1 c1) (.slice A2 n2 c2) l1 l2 rfl O1'.out rfl (OwnB.bs O2.out) (by rw [L1.out, L2.out]; omega) hsz ?_; intro v3 w3 ho3 hb3; obtain ⟨A3, n3, c3, rfl⟩ := bs_form (OwnB.bs ho3); have O3 := hid (OwnB.bs ho3); clear ho3)
  have HB : Hid (Below w.heap.size w w3) := (bstep hb1 hb2).trans hb3
  clear hb1 hb2 hb3
  go_wp2_with fail
  refine (HF.out _ _ O3.out).mono ?_
  rintro e w' ⟨rfl, rfl⟩
  go_wp2_with fail
  go_ret
  exact ⟨ret_int (by rw [← HM.out]; omega), HB.out⟩

set_option maxHeartbeats 400000 in
theorem rbelow_any (a b n : Int) (w : World) (ha1 : -9223372036854775808 ≤ a) (ha2 : a ≤ 9223372036854775807) (hb1 : -9223372036854775808 ≤ b) (hb2 : b ≤ 9223372036854775807) (hn1 : -9223372036854775808 ≤ n) (hn2 : n ≤ 9223372036854775807) :
    Calls Try.prog 10 #[.int .i64 a, .int .i64 b, .int .i64 n] w fun e w' => e = .returned (.int .i64 (Hs.below (Hs.mix (U a) (U b)) n)) ∧ Below w.heap.size w w' := by
  by_cases h : n < 1
  · have hb : Hs.below (Hs.mix (U a) (U b)) n = 0 := by unfold Hs.below; rw [if_pos h]
    rw [hb]
    go_enter Try.func10, Try.ntmps10
    go_wp2
    go_ret
    exact ⟨rfl, Below.refl _ _⟩
  · have hb : Hs.below (Hs.mix (U a) (U b)) n = ((Hs.mix (U a) (U b) : Nat) : Int) % n := by unfold Hs.below; rw [if_neg h]
    rw [hb]
    have C := hid (fun W => rdraw_any a b W ha1 ha2 hb1 hb2)
    have hl := Hs.mix_lt (U a) (U b)
    generalize Hs.mix (U a) (U b) = f at *
    clear hb ha1 ha2 hb1 hb2
    have h1 : 1 ≤ n := by omega
    clear h
    go_enter Try.func10, Try.ntmps10
    go_wp2_with fail
    refine (C.out _).mono ?_
    rintro e w' ⟨rfl, hb⟩
    go_wp2_with fail
    go_ret
    exact ⟨rfl, hb⟩
end Go.Proofs.Ytamdcbleefdphaa
