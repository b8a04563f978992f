/-
  The reference's eight bytes of a number, and its Mix, by contract.
-/
import Derived.Test.YthljchcpnbjokaaHMix
import Derived.Test.YthljchcpnbjokaaConv
namespace Go.Proofs.Ythljchcpnbjokaa
open Go.RowKit

/-- A slice of the call's own can be written. -/
theorem own_put {w : World} {base g n c : Nat} {xs : List Value} (h : Own w base 5 (.slice (some ⟨g, 0, none⟩) n c) xs) (hn : xs.length = n) (k : Nat) (hk : k < n) :
    base ≤ g ∧ (∃ u, w.cell? ⟨g, k, none⟩ = some u) ∧ w.frozen? ⟨g, k, none⟩ = false ∧
      ∀ x, Own (w.setCell ⟨g, k, none⟩ x) base 5 (.slice (some ⟨g, 0, none⟩) n c) (xs.set k x) ∧ w.grownBy (w.setCell ⟨g, k, none⟩ x) (some g) := by
  subst hn
  have hown : w.ownsRow base 5 1 (.slice (some ⟨g, 0, none⟩) xs.length c) xs.length xs := h
  have hb : base ≤ g := (World.ownsRow.lt hown g rfl).1
  refine ⟨hb, ⟨xs[k], ?_⟩, hown.frozenAt k, fun x => ?_⟩
  · rw [hown.cellAt k (by omega), List.getElem?_eq_getElem hk]
  · have := hown.stored k x
    refine ⟨?_, this.2⟩
    unfold Own
    rw [List.length_set]
    exact this.1

/-- The row when j of its bytes are written, the last ones first. -/
def row8 (l : List UInt8) (j : Nat) : List UInt8 := List.replicate (8 - j) 0 ++ l.drop (8 - j)
theorem row8_len (l : List UInt8) (j : Nat) (hl : l.length = 8) (_hj : j ≤ 8) : (row8 l j).length = 8 := by simp [row8, hl]
theorem row8_set (l : List UInt8) (j : Nat) (hl : l.length = 8) (hj : j < 8) : (row8 l j).set (7 - j) (l.getD (7 - j) 0) = row8 l (j + 1) := by
  obtain ⟨a, b, c, d, e, f, g, h, rfl⟩ : ∃ a b c d e f g h, l = [a, b, c, d, e, f, g, h] := by
    match l, hl with
    | [a, b, c, d, e, f, g, h], _ => exact ⟨a, b, c, d, e, f, g, h, rfl⟩
  have : j = 0 ∨ j = 1 ∨ j = 2 ∨ j = 3 ∨ j = 4 ∨ j = 5 ∨ j = 6 ∨ j = 7 := by omega
  rcases this with rfl | rfl | rfl | rfl | rfl | rfl | rfl | rfl <;> rfl
theorem row8_all (l : List UInt8) : row8 l 8 = l := rfl
theorem row8_none (l : List UInt8) (h : l.length = 8) : row8 l 0 = [0, 0, 0, 0, 0, 0, 0, 0] := by
  unfold row8
  rw [List.drop_of_length_le (by omega)]
  rfl
theorem be8_at (u k : Nat) (hk : k < 8) : (Hs.be8 u).getD k 0 = UInt8.ofNat (Hs.byteAt u k) := by
  unfold Hs.be8
  simp [hk]

def EightRel (w : World) (u : Nat) (vb vu vi : Value) (wr : World) : Prop :=
  ∃ j : Nat, j ≤ 8 ∧ vi = .int .i64 (7 - (j : Int)) ∧ vu = .int .u64 ((u / 256 ^ j : Nat) : Int) ∧ OwnB wr w.heap.size vb (row8 (Hs.be8 u) j) ∧ Below w.heap.size w wr

theorem quo8 (u j : Nat) : ((u / 256 ^ j : Nat) : Int) / 256 = ((u / 256 ^ (j + 1) : Nat) : Int) := by
  rw [Nat.pow_succ, ← Nat.div_div_eq_div_mul]
  omega
theorem rem8 (u j : Nat) (hj : j < 8) : ((u / 256 ^ j : Nat) : Int) % 256 = (Hs.byteAt u (7 - j) : Int) := by
  unfold Hs.byteAt
  rw [show 7 - (7 - j) = j by omega]
  omega

set_option maxRecDepth 100000 in
set_option maxHeartbeats 400000 in
theorem eight_any (n : Int) (w : World) (_hn1 : -9223372036854775808 ≤ n) (_hn2 : n ≤ 9223372036854775807) :
    Calls Try.prog 21 #[.int .i64 n] w fun e w' => e = .returned (strOf (Hs.be8 (U n))) ∧ Below w.heap.size w w' := by
  have HW := hid (U_wrap n)
  have HM := hid (U_mod n)
  have hu := U_lt n
  generalize U n = u at *
  obtain ⟨i0, hi, hz0, hz1, hz2⟩ := info_parts Try.info5
  have hmade : madeCells #[Value.int .u8 0] 8 = [Value.int .u8 0, .int .u8 0, .int .u8 0, .int .u8 0, .int .u8 0, .int .u8 0, .int .u8 0, .int .u8 0].toArray := by
    apply Array.ext'
    rw [toList_madeCells_one]
    rfl
  have hmk : ∀ W : World, (Instr.makeSlice 25 (.int .i64 8) (.int .i64 8)).run Try.prog W = .ok (.slice (some ⟨W.heap.size, 0, none⟩) 8 8) (W.alloc (.cells (madeCells #[.int .u8 0] 8) 5)) :=
    fun W : World => run_makeN (P := Try.prog) W 25 5 i0 (.int .u8 0) Try.underlying25 hi hz0 hz1 8 8 (by omega) (by rw [hz2]; omega) (by omega)
  have HMADE := hid hmade
  clear hi hz0 hz1 hz2 hmade
  go_enter Try.func21, Try.ntmps21
  go_wp2
  generalize hww : w.alloc (.cells (madeCells #[.int .u8 0] 8) 5) = w1
  have HR : Hid (EightRel w u (.slice (some ⟨w.heap.size, 0, none⟩) 8 8) (.int .u64 u) (.int .i64 7) w1) := by
    refine ⟨0, by omega, rfl, by simp, ?_, ?_⟩
    · rw [← hww, row8_none _ (Hs.be8_length u), HMADE.out]
      exact Own.lit (e := 5) w [.int .u8 0, .int .u8 0, .int .u8 0, .int .u8 0, .int .u8 0, .int .u8 0, .int .u8 0, .int .u8 0] (Nat.le_refl _) (by simp [maxLen])
    · rw [← hww]
      exact (Below.refl _ _).alloc (Nat.le_refl _) _
  clear hww hmk
  generalize hg : w.heap.size = g at *
  have HG := hid hg
  clear hg
  go_loopw [3, 5] (fun vu vi wr => EightRel w u (.slice (some ⟨g, 0, none⟩) 8 8) vu vi wr) (fun _ vi _ => ((intOf vi) + 1).toNat)
  case atStart => rw [HW.out]; exact HR.out
  case round =>
    obtain ⟨j, hj, rfl, rfl, hown, hbw⟩ := hrel
    have hm : u / 256 ^ j < 18446744073709551616 := Nat.lt_of_le_of_lt (Nat.div_le_self _ _) hu
    have HQ := hid (quo8 u j)
    have hrl := row8_len _ _ (Hs.be8_length u) hj
    by_cases hlt : j < 8
    · obtain ⟨hbg, ⟨v, hcell⟩, hfro, hset⟩ := own_put hown (by simp [hrl]) (7 - j) (by omega)
      have hx : ((7 : Int) - (j : Int)).toNat = 7 - j := by omega
      have HB := hid (rem8 u j hlt)
      have HS := hid (hset (by8 (UInt8.ofNat (Hs.byteAt u (7 - j)))))
      have HL := hid (row8_set (Hs.be8 u) j (Hs.be8_length u) hlt)
      have HV : Hid (∀ m : Nat, ((m : Int) % 256 = (Hs.byteAt u (7 - j) : Int)) → Value.int .u8 ((m : Int) % 256) = by8 (UInt8.ofNat (Hs.byteAt u (7 - j)))) := fun m hm => by
        rw [hm]
        exact lit8 (Hs.byteAt_lt u (7 - j))
      generalize u / 256 ^ j = m at *
      clear hown hset
      go_wp2
      go_roundw
      case rel =>
        refine ⟨j + 1, by omega, by go_num, congrArg (Value.int IntKind.u64) HQ.out, ?_, ?_⟩
        · rw [HV.out m HB.out, ← HL.out, be8_at _ _ (by omega)]
          unfold OwnB
          rw [List.map_set]
          exact HS.out.1
        · rw [HV.out m HB.out]
          exact hbw.grown HS.out.2 hbw.size (fun k hk => by obtain rfl : g = k := by simpa using hk
                                                            exact Nat.le_of_eq HG.out)
      case measure => simp [intOf]; omega
    · obtain rfl : j = 8 := by omega
      rw [row8_all] at hown
      have hconv := hown.bs.conv
      generalize u / 256 ^ 8 = m at *
      clear hown hrl
      generalize hst : strOf (Hs.be8 u) = st at hconv
      have HST := hid hst
      clear hst
      go_wp2
      go_ret
      exact ⟨by rw [HST.out]; rfl, hbw⟩

set_option maxRecDepth 100000 in
set_option maxHeartbeats 400000 in
theorem rmix_any (a b : Int) (w : World) (ha1 : -9223372036854775808 ≤ a) (ha2 : a ≤ 9223372036854775807) (hb1 : -9223372036854775808 ≤ b) (hb2 : b ≤ 9223372036854775807) :
    Calls Try.prog 15 #[.int .i64 a, .int .i64 b] w fun e w' => e = .returned (.int .i64 (Hs.mix (U a) (U b) : Nat)) ∧ Below w.heap.size w w' := by
  have C1 := hid (fun W => eight_any a W ha1 ha2)
  have C2 := hid (fun W => eight_any b W hb1 hb2)
  have hs : (⟨(Hs.be8 (U a)).toArray⟩ ++ ⟨(Hs.be8 (U b)).toArray⟩ : ByteArray).data.toList = Hs.be8 (U a) ++ Hs.be8 (U b) := by simp
  have HF := hid (fun W => rfnv_any (⟨(Hs.be8 (U a)).toArray⟩ ++ ⟨(Hs.be8 (U b)).toArray⟩) W (by
    have h := congrArg List.length hs
    simp [Hs.be8_length] at h
    simp [maxLen, ByteArray.size, Hs.be8_length]))
  rw [hs] at HF
  have HM := hid (show Hs.fnv (Hs.be8 (U a) ++ Hs.be8 (U b)) % 2147483648 = Hs.mix (U a) (U b) from rfl)
  have hl := Hs.fnv_lt (Hs.be8 (U a) ++ Hs.be8 (U b))
  unfold strOf at C1 C2
  have h1 : (⟨(Hs.be8 (U a)).toArray⟩ : ByteArray).size ≤ 8 := by simp [ByteArray.size, Hs.be8_length]
  have h2 : (⟨(Hs.be8 (U b)).toArray⟩ : ByteArray).size ≤ 8 := by simp [ByteArray.size, Hs.be8_length]
  generalize Hs.fnv (Hs.be8 (U a) ++ Hs.be8 (U b)) = y at *
  generalize Hs.mix (U a) (U b) = m at *
  generalize (⟨(Hs.be8 (U a)).toArray⟩ : ByteArray) = s1 at *
  generalize (⟨(Hs.be8 (U b)).toArray⟩ : ByteArray) = s2 at *
  clear ha1 ha2 hb1 hb2 hs
  go_enter Try.func15, Try.ntmps15
  go_wp2_with fail
  refine (C1.out _).mono ?_
  rintro e w1 ⟨rfl, hb1⟩
  go_wp2_with fail
  refine (C2.out _).mono ?_
  rintro e w2 ⟨rfl, hb2⟩
  go_wp2_with fail
  refine (HF.out _).mono ?_
  rintro e w' ⟨rfl, rfl⟩
  go_wp2_with fail
  go_ret
  exact ⟨ret_int (by rw [← HM.out]; omega), bstep hb1 hb2⟩
end Go.Proofs.Ythljchcpnbjokaa
