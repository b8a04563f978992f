/-
  The reference's Reader: count and Int.
-/
import Derived.Test.YtimphdnnnhgcgaaRr1
namespace Go.Proofs.Ytimphdnnnhgcgaa
open Go.RowKit

def CountPost (l : List UInt8) (w : World) (en : Ending) (w' : World) : Prop :=
  en = .returned (.tuple #[.int .i64 ((Wi.pInt l).2.1 : Int), .int .i64 (Wi.pInt l).2.2]) ∧ w = w'

theorem badEnd_cases {j x : Nat} (hj : j ≤ 9) : (Wi.badEnd j x ∧ ((1 ≤ j ∧ x ≤ 0) ∨ (9 ≤ j ∧ 2 ≤ x))) ∨ (¬ Wi.badEnd j x ∧ ((j ≤ 0) ∨ (1 ≤ j ∧ j ≤ 8 ∧ 1 ≤ x) ∨ (9 ≤ j ∧ 1 ≤ x ∧ x ≤ 1))) := by
  unfold Wi.badEnd
  omega

set_option maxRecDepth 100000 in
set_option maxHeartbeats 1000000 in
theorem count_any (g : Nat) (l : List UInt8) (e : Int) (w : World) (h : RR w g l e) :
    Calls Try.prog 41 #[.pointer (some ⟨g, 0, none⟩)] w (CountPost l w) := by
  have H := hid h
  obtain ⟨v, hg, hb, hn⟩ := h
  obtain ⟨A, c, rfl⟩ := hb.form
  have hc1 := cellAt hg 1
  simp at hc1
  have HB := hid hb
  clear hg hb hn
  generalize hln : l.length = n at hc1
  have HL := hid hln
  rw [hln] at HB
  clear hln
  go_enter Try.func41, Try.ntmps41
  go_wp2
  go_loop [4] (fun v4 => ∃ j : Nat, j ≤ 10 ∧ j ≤ n ∧ v4 = .int .i64 ((j : Int) + 1) ∧ Hid (∀ x ∈ l.take j, 128 ≤ x.toNat)) (fun v4 => 11 - (intOf v4).toNat)
  case atStart => exact ⟨0, by omega, by omega, rfl, by intro x hx; simp at hx⟩
  case round =>
    obtain ⟨j, hj, hjn, rfl, hall⟩ := hrel
    by_cases hj9 : j ≤ 9
    · by_cases hlt : j < n
      · obtain ⟨ad, rfl, hcell⟩ := HB.out.at j (by rw [HL.out]; exact hlt)
        have hP := hid (fun hb => pInt_at hall.out hj9 (by rw [HL.out]; exact hlt) hb)
        generalize hx : l.getD j 0 = x at hcell hP
        have HX := hid hx
        clear hx
        have hx256 : x.toNat < 256 := x.toNat_lt
        by_cases h128 : x.toNat < 128
        · have HP := hid (hP.out h128)
          clear hP
          rcases badEnd_cases (x := x.toNat) hj9 with ⟨hbad, hcs⟩ | ⟨hbad, hcs⟩
          · have HBB := hid hbad
            clear hbad
            rcases hcs with ⟨q1, q2⟩ | ⟨q1, q2⟩
            all_goals
              go_wp2
              go_ret2
              exact ⟨by rw [HP.out, if_pos HBB.out]; rfl, rfl⟩
          · have HBB := hid hbad
            clear hbad
            rcases hcs with q1 | ⟨q1, q2, q3⟩ | ⟨q1, q2, q3⟩
            · go_wp2
              go_ret2
              exact ⟨by rw [HP.out, if_neg HBB.out]; rfl, rfl⟩
            · go_wp2
              go_ret2
              exact ⟨by rw [HP.out, if_neg HBB.out]; rfl, rfl⟩
            · have hx0 : ((x.toNat : Int) == 0) = false := by rw [beq_eq_false_iff_ne]; omega
              go_wp2
              go_ret2
              obtain rfl : j = 9 := by omega
              exact ⟨by rw [HP.out, if_neg HBB.out]; rfl, rfl⟩
        · clear hP
          go_wp2
          go_round
          case rel =>
            refine ⟨j + 1, by omega, by omega, by go_num, ?_⟩
            intro y hy
            rw [List.take_succ_eq_append_getElem (by rw [HL.out]; exact hlt)] at hy
            rcases List.mem_append.1 hy with hy | hy
            · exact hall.out y hy
            · obtain rfl := List.mem_singleton.1 hy
              have := HX.out
              rw [List.getD_eq_getElem?_getD, List.getElem?_eq_getElem (by rw [HL.out]; exact hlt)] at this
              simp at this
              rw [this]
              omega
          case measure => simp [intOf]; omega
      · have HP : Hid (Wi.pInt l = (0, 0, 4)) := by
          show _ = _
          rw [pInt_no hall.out (.inr (by rw [HL.out]; omega)), if_neg (by rw [HL.out]; omega)]
        go_wp2
        go_ret2
        exact ⟨by rw [HP.out]; rfl, rfl⟩
    · have HP : Hid (Wi.pInt l = (0, 0, 3)) := by
        show _ = _
        rw [pInt_no hall.out (.inl (by omega)), if_pos (by rw [HL.out]; omega)]
      go_wp2
      go_ret2
      exact ⟨by rw [HP.out]; rfl, rfl⟩
end Go.Proofs.Ytimphdnnnhgcgaa
