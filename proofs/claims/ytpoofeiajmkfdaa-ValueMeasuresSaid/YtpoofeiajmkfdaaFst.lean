/-
  The function 'first' of wire: the integer whose encoding the bytes begin with.
-/
import Derived.Test.YtpoofeiajmkfdaaRd2
namespace Go.Proofs.Ytpoofeiajmkfdaa
open Go.RowKit

def FirstPost (l : List UInt8) (w : World) (en : Ending) (w' : World) : Prop :=
  en = .returned (.tuple #[.int .i64 (Wi.pInt l).1, .int .i64 ((Wi.pInt l).2.1 : Int), .int .i64 (Wi.pInt l).2.2]) ∧ w = w'

def FirstRel (l : List UInt8) (k m : Nat) : Prop := (∀ x ∈ l.take k, 128 ≤ x.toNat) ∧ (k ≤ 9 → m = Wi.val (l.take k)) ∧ m < 18446744073709551616

/-- One group more: 'u |= uint64(c&127) << (7*i)'. -/
theorem mix_ok (l : List UInt8) (k m : Nat) (hr : FirstRel l k m) (hk : k ≤ 9) (hkl : k < l.length) :
    ∃ mix : Nat, bits BinOp.or IntKind.u64 (m : Int) (IntKind.u64.wrap (IntKind.u64.wrap (bits BinOp.and IntKind.u8 ((l.getD k 0).toNat : Int) 127) * 2 ^ (7 * k))) = (mix : Int) ∧
      mix < 18446744073709551616 ∧ (k ≤ 8 ∨ (l.getD k 0).toNat ≤ 1 → mix = Wi.val (l.take (k + 1))) := by
  obtain ⟨_, h2, hm⟩ := hr
  have hmv := h2 hk
  have hx : (l.getD k 0).toNat < 256 := (l.getD k 0).toNat_lt
  have hv : Wi.val (l.take k) < 128 ^ k := by
    have := Wi.val_lt (l.take k)
    rwa [List.length_take_of_le (by omega)] at this
  have hsn : Wi.val (l.take (k + 1)) = Wi.val (l.take k) + (l.getD k 0).toNat % 128 * 128 ^ k := by
    rw [List.take_succ_eq_append_getElem hkl, Wi.val_snoc, List.length_take_of_le (by omega)]
    simp [hkl]
  generalize (l.getD k 0).toNat = c at *
  have ha : bits BinOp.and IntKind.u8 (c : Int) 127 = ((c % 128 : Nat) : Int) := by
    have := u8_and_nat c 127 hx (by omega)
    rw [nat_mask7] at this
    exact this
  have hp : ((2 : Int) ^ (7 * k)) = ((128 ^ k : Nat) : Int) := by
    rw [Int.pow_mul]
    simp
  have hin : IntKind.u64.wrap ((c % 128 : Nat) : Int) = ((c % 128 : Nat) : Int) := IntWalk.u64_in _ (by omega)
  rw [ha, hin, hp, ← Int.natCast_mul]
  have hw : IntKind.u64.wrap ((c % 128 * 128 ^ k : Nat) : Int) = ((c % 128 * 128 ^ k % 18446744073709551616 : Nat) : Int) := by
    rw [IntKind.wrap_u64, Int.natCast_emod]
    rfl
  rw [hw]
  refine ⟨m ||| c % 128 * 128 ^ k % 18446744073709551616, u64_or_nat _ _ hm (Nat.mod_lt _ (by omega)), ?_, fun hs => ?_⟩
  · have := Nat.or_lt_two_pow (n := 64) (x := m) (y := c % 128 * 128 ^ k % 18446744073709551616) (by omega) (by omega)
    omega
  · have hlt : c % 128 * 128 ^ k < 18446744073709551616 := by
      by_cases h9 : k = 9
      · subst h9
        have : c ≤ 1 := by omega
        have : c % 128 * 128 ^ 9 ≤ 1 * 128 ^ 9 := Nat.mul_le_mul_right _ (by omega)
        omega
      · have h8 : (128 : Nat) ^ k ≤ 128 ^ 8 := Nat.pow_le_pow_right (by omega) (by omega)
        have : c % 128 * 128 ^ k ≤ 127 * 128 ^ 8 := Nat.mul_le_mul (by omega) h8
        omega
    rw [Nat.mod_eq_of_lt hlt, hsn, ← hmv, Nat.or_comm, nat_join (7 * k) _ _ (by rw [Nat.pow_mul]; exact Nat.mul_mod_left _ _) (by rw [Nat.pow_mul]; rw [hmv]; exact hv), Nat.add_comm]

theorem FirstRel.next {l : List UInt8} {k m mix : Nat} (hr : FirstRel l k m) (hkl : k < l.length) (h128 : 128 ≤ (l.getD k 0).toNat) (hm : mix < 18446744073709551616) (he : k ≤ 8 → mix = Wi.val (l.take (k + 1))) : FirstRel l (k + 1) mix := by
  refine ⟨fun x hx => ?_, fun h => he (by omega), hm⟩
  rw [List.take_succ_eq_append_getElem hkl] at hx
  rcases List.mem_append.1 hx with hx | hx
  · exact hr.1 x hx
  · obtain rfl := List.mem_singleton.1 hx
    simpa [hkl] using h128

theorem pInt_no {l : List UInt8} {k : Nat} (hall : ∀ x ∈ l.take k, 128 ≤ x.toNat) (hk : k = 10 ∨ k = l.length) : Wi.pInt l = (0, 0, if 10 ≤ l.length then 3 else 4) := by
  unfold Wi.pInt
  rw [Wi.term_no 10 l (fun x hx => hall x (by
    rcases hk with rfl | rfl
    · exact hx
    · rw [List.take_length]; exact List.mem_of_mem_take hx))]

theorem pInt_at {l : List UInt8} {k : Nat} (hall : ∀ x ∈ l.take k, 128 ≤ x.toNat) (hk : k ≤ 9) (hkl : k < l.length) (hb : (l.getD k 0).toNat < 128) :
    Wi.pInt l = if Wi.badEnd k (l.getD k 0).toNat then (0, 0, 3) else (Wi.unzig (Wi.val (l.take (k + 1))), k + 1, 0) := by
  unfold Wi.pInt
  rw [Wi.term_at 10 l k hall hkl (by omega) hb]

theorem canonical_at (b k : Nat) (w : World) (h2 : b < 256) (hk : k ≤ 9) :
    Calls Try.prog 156 #[.int .u8 b, .int .i64 ((k : Int) + 1)] w fun e w' => e = .returned (.bool (!decide (Wi.badEnd k b))) ∧ w = w' :=
  canonical_any b (k + 1) w h2 (by omega) (by omega)

set_option maxRecDepth 100000 in
set_option maxHeartbeats 400000 in
theorem first_any (v : Value) (l : List UInt8) (w : World) (h : Bs w v l) :
    Calls Try.prog 148 #[v] w (FirstPost l w) := by
  obtain ⟨A, c, rfl⟩ := h.form
  have H := hid h
  clear h
  generalize hn : l.length = n
  have HL := hid hn
  clear hn
  go_enter Try.func148, Try.ntmps148
  go_wp2
  go_loop [5, 10] (fun v5 v10 => ∃ k m : Nat, k ≤ n ∧ k ≤ 10 ∧ v10 = .int .i64 k ∧ v5 = .int .u64 m ∧ Hid (FirstRel l k m)) (fun _ v10 => n - (intOf v10).toNat)
  case atStart => exact ⟨0, 0, by omega, by omega, rfl, rfl, ⟨by simp, fun _ => rfl, by omega⟩⟩
  case round =>
    obtain ⟨k, m, hk, hk10, rfl, rfl, hrel⟩ := hrel
    by_cases hlt : k < n
    · obtain ⟨ad, rfl, hc⟩ := H.out.at k (by rw [HL.out]; exact hlt)
      by_cases hb : k = 10
      · have HP : Hid (Wi.pInt l = (0, 0, 3)) := by
          show _ = _
          rw [pInt_no hrel.out.1 (.inl hb), if_pos (by rw [HL.out]; omega)]
        have hbb : ((k : Int) == 10) = true := by rw [hb]; rfl
        have hn10 : (10 : Int) ≤ (n : Int) := by omega
        generalize l.getD k 0 = x at hc
        clear hb
        go_wp2
        go_ret3
        exact ⟨by rw [HP.out]; rfl, rfl⟩
      · have hk9 : k ≤ 9 := by omega
        obtain ⟨mix, hmix, hmlt, hmv⟩ := mix_ok l k m hrel.out hk9 (by rw [HL.out]; exact hlt)
        have HMV := hid hmv
        have HML := hid hmlt
        clear hmv hmlt
        generalize hx : l.getD k 0 = x at hc hmix
        have HX := hid hx
        clear hx
        have hx256 : x.toNat < 256 := x.toNat_lt
        by_cases h128 : x.toNat < 128
        · have HP := hid (pInt_at hrel.out.1 hk9 (by rw [HL.out]; exact hlt) (by rw [HX.out]; exact h128))
          by_cases hbad : Wi.badEnd k x.toNat
          · have HBB := hid hbad
            clear hbad
            go_wp2_with (go_at_call 156; refine (canonical_at x.toNat k _ hx256 hk9).mono ?_; rintro en w' ⟨rfl, rfl⟩; rw [decide_eq_true HBB.out])
            go_ret3
            exact ⟨by rw [HP.out, HX.out, if_pos HBB.out]; rfl, rfl⟩
          · have HBB := hid hbad
            clear hbad
            go_wp2_with (first
              | (go_at_call 156; refine (canonical_at x.toNat k _ hx256 hk9).mono ?_; rintro en w' ⟨rfl, rfl⟩; rw [decide_eq_false HBB.out])
              | (go_at_call 157; refine (unfold_any mix _ HML.out).mono ?_; rintro en w' ⟨rfl, rfl⟩))
            go_ret3
            exact ⟨by rw [HP.out, HX.out, if_neg HBB.out, ← HMV.out (by rw [HX.out]; have := HBB.out; unfold Wi.badEnd at this; omega)]; rfl, rfl⟩
        · go_wp2
          go_round
          case rel => exact ⟨k + 1, mix, by omega, by omega, by go_num, rfl, hrel.out.next (by rw [HL.out]; exact hlt) (by rw [HX.out]; omega) HML.out (fun h => HMV.out (.inl h))⟩
          case measure => simp [intOf]; omega
    · by_cases h10 : 10 ≤ n
      · have HP : Hid (Wi.pInt l = (0, 0, 3)) := by
          show _ = _
          rw [pInt_no hrel.out.1 (.inr (by rw [HL.out]; omega)), if_pos (by rw [HL.out]; omega)]
        go_wp2
        go_ret3
        exact ⟨by rw [HP.out]; rfl, rfl⟩
      · have HP : Hid (Wi.pInt l = (0, 0, 4)) := by
          show _ = _
          rw [pInt_no hrel.out.1 (.inr (by rw [HL.out]; omega)), if_neg (by rw [HL.out]; omega)]
        go_wp2
        go_ret3
        exact ⟨by rw [HP.out]; rfl, rfl⟩
end Go.Proofs.Ytpoofeiajmkfdaa
