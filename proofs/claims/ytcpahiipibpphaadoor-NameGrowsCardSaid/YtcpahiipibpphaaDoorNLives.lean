/-
  The function 'lives' of layer 6's statements: the chapter's examples; it returns true, and leaves what was there.
-/
import Derived.Test.YtcpahiipibpphaaDoorNRight
namespace Go.Proofs.YtcpahiipibpphaaDoor
open Go.RowKit

theorem run_12 : Nm.runS 12 = [114, 49, 50] := by
  rw [Nm.runS_hi (by omega), Nm.itoa_pos (by omega), show (12 : Int).toNat = 12 from rfl, Nm.dec_big (by omega), Nm.dec_small (by omega)]; rfl
theorem run_3 : Nm.runS 3 = [114, 51] := by
  rw [Nm.runS_hi (by omega), Nm.itoa_pos (by omega), show (3 : Int).toNat = 3 from rfl, Nm.dec_small (by omega)]; rfl
theorem lv_num (W : World) (hG : Good W) : Calls Tryd.prog 10 #[.string ⟨#[114, 49, 50]⟩] W fun e w' => e = .returned (.tuple #[.int .i64 12, .bool true]) ∧ Below W.heap.size W w' :=
  (number_any ⟨#[114, 49, 50]⟩ W hG (by decide)).mono fun _ _ ⟨he, hb⟩ => ⟨by rw [he]; exact congrArg Ending.returned (numPair_hit (by omega) (by omega) run_12), hb⟩
theorem lv_spl1 (W : World) : Calls Tryd.prog 15 #[.string ⟨#[111, 114, 100, 101, 114, 45, 55, 47, 114, 50]⟩] W fun e w' => e = .returned (.tuple #[.string ⟨#[111, 114, 100, 101, 114, 45, 55]⟩, .string ⟨#[114, 50]⟩, .bool true]) ∧ Below W.heap.size W w' :=
  (split_any ⟨#[111, 114, 100, 101, 114, 45, 55, 47, 114, 50]⟩ W (by decide)).mono fun _ _ ⟨he, hb⟩ => ⟨by rw [he]; rfl, hb⟩
theorem lv_spl2 (W : World) : Calls Tryd.prog 15 #[.string ⟨#[97, 47, 98, 47, 99]⟩] W fun e w' => e = .returned (.tuple #[.string ⟨#[]⟩, .string ⟨#[]⟩, .bool false]) ∧ Below W.heap.size W w' :=
  (split_any ⟨#[97, 47, 98, 47, 99]⟩ W (by decide)).mono fun _ _ ⟨he, hb⟩ => ⟨by rw [he]; rfl, hb⟩
theorem lv_r1 (W : World) : Calls Tryd.prog 7 #[.string ⟨#[95, 97, 49]⟩] W fun e w' => e = .returned (.bool true) ∧ Below W.heap.size W w' :=
  (right_any ⟨#[95, 97, 49]⟩ W (by decide)).mono fun _ _ ⟨he, hb⟩ => ⟨by rw [he]; rfl, hb⟩
theorem lv_r2 (W : World) : Calls Tryd.prog 7 #[.string ⟨#[49, 97]⟩] W fun e w' => e = .returned (.bool false) ∧ Below W.heap.size W w' :=
  (right_any ⟨#[49, 97]⟩ W (by decide)).mono fun _ _ ⟨he, hb⟩ => ⟨by rw [he]; rfl, hb⟩
theorem lv_r3 (W : World) : Calls Tryd.prog 7 #[.string ⟨#[]⟩] W fun e w' => e = .returned (.bool false) ∧ Below W.heap.size W w' :=
  (right_any ⟨#[]⟩ W (by decide)).mono fun _ _ ⟨he, hb⟩ => ⟨by rw [he]; rfl, hb⟩
theorem lv_run3 (W : World) (hG : Good W) : Calls Tryd.prog 12 #[.int .i64 3] W fun e w' => e = .returned (.string ⟨#[114, 51]⟩) ∧ Below W.heap.size W w' :=
  (run_any 3 W hG (by omega) (by omega)).mono fun _ _ ⟨he, hb⟩ => ⟨by rw [he, run_3]; rfl, hb⟩
theorem lv_run0 (W : World) (hG : Good W) : Calls Tryd.prog 12 #[.int .i64 0] W fun e w' => e = .returned (.string ⟨#[]⟩) ∧ Below W.heap.size W w' :=
  (run_any 0 W hG (by omega) (by omega)).mono fun _ _ ⟨he, hb⟩ => ⟨by rw [he, Nm.runS_lo (by omega)]; rfl, hb⟩
theorem lv_key (W : World) : Calls Tryd.prog 14 #[.string ⟨#[97]⟩, .string ⟨#[114, 49]⟩] W fun e w' => e = .returned (.string ⟨#[97, 47, 114, 49]⟩) ∧ W = w' :=
  (key_any ⟨#[97]⟩ ⟨#[114, 49]⟩ W (by decide) (by decide)).mono fun _ _ ⟨he, hb⟩ => ⟨by rw [he]; rfl, hb⟩

set_option maxRecDepth 100000 in
set_option maxHeartbeats 2000000 in
theorem lives_any (w : World) (hG : Good w) : Calls Tryd.prog 9 #[] w fun e w' => e = .returned (.bool true) ∧ Below w.heap.size w w' := by
  have HG := hid hG
  clear hG
  go_enter Tryd.func9, Tryd.ntmps9
  go_wp2_with fail
  refine (lv_num _ HG.out).mono ?_
  rintro en w1 ⟨rfl, hb⟩
  have HB := hid hb
  clear hb
  go_wp2_with fail
  refine (lv_spl1 _).mono ?_
  rintro en w2 ⟨rfl, hb⟩
  have HB := hid (bstep HB.out hb)
  clear hb
  go_wp2_with fail
  refine (lv_spl2 _).mono ?_
  rintro en w3 ⟨rfl, hb⟩
  have HB := hid (bstep HB.out hb)
  clear hb
  go_wp2_with fail
  refine (lv_r1 _).mono ?_
  rintro en w4 ⟨rfl, hb⟩
  have HB := hid (bstep HB.out hb)
  clear hb
  go_wp2_with fail
  refine (lv_r2 _).mono ?_
  rintro en w5 ⟨rfl, hb⟩
  have HB := hid (bstep HB.out hb)
  clear hb
  go_wp2_with fail
  refine (lv_r3 _).mono ?_
  rintro en w6 ⟨rfl, hb⟩
  have HB := hid (bstep HB.out hb)
  clear hb
  go_wp2_with fail
  refine (lv_run3 _ (HG.out.below HB.out)).mono ?_
  rintro en w7 ⟨rfl, hb⟩
  have HB := hid (bstep HB.out hb)
  clear hb
  go_wp2_with fail
  refine (lv_run0 _ (HG.out.below HB.out)).mono ?_
  rintro en w8 ⟨rfl, hb⟩
  have HB := hid (bstep HB.out hb)
  clear hb
  go_wp2_with fail
  refine (lv_key _).mono ?_
  rintro en w9 ⟨rfl, rfl⟩
  go_wp2_with fail
  go_ret
  exact ⟨rfl, HB.out⟩
end Go.Proofs.YtcpahiipibpphaaDoor
