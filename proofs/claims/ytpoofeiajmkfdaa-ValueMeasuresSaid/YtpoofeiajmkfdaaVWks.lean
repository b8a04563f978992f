/-
  The function 'works' of the statements: the chapter's examples; it returns true, and leaves what was there.
-/
import Derived.Test.YtpoofeiajmkfdaaVWk0
import Derived.Test.YtpoofeiajmkfdaaRd4
import Derived.Deep.RegionHeld3
namespace Go.Proofs.Ytpoofeiajmkfdaa
open Go.RowKit

theorem RdN_lit {w : World} {S : Nat → Prop} {e : TypeId} (xs : List Value) (size n : Nat) (hs : S w.heap.size) (hl : xs.length = n * size) (hm : n ≤ 1099511627776) : RdN (w.alloc (.cells xs.toArray e)) S size (.slice (some ⟨w.heap.size, 0, none⟩) n n) n xs := by
  refine ⟨_, n, rfl, Nat.le_refl _, by unfold maxLen; omega, hl, .inr ⟨w.heap.size, 0, rfl, hs, fun j u hj => ?_⟩⟩
  rw [Nat.zero_add]
  rw [cell_of_row _ w.heap.size j xs.toArray e (0, 0) (heap_alloc_new w _)]
  simpa using hj

theorem two_vals {w : World} {S : Nat → Prop} {a b : V} {x y : List Value} (ha : VC w S a x) (hb : VC w S b y) : VsC w S [a, b] (x ++ y) := by
  rw [VsC_cons]
  exact ⟨x, y, rfl, ha, VsC.one hb⟩

set_option maxRecDepth 100000 in
set_option maxHeartbeats 1000000 in
theorem vWorks_any (w : World) : Calls Try.prog 12 #[] w fun e w' => e = .returned (.bool true) ∧ Below w.heap.size w w' := by
  go_enter Try.func12, Try.ntmps12
  go_wp2_with fail
  have HB0 := hid (below_box (w := w) (.cells #[.string ⟨#[98]⟩, .string ⟨#[97]⟩] 9))
  have HK0 := hid (RdN_lit (w := w) (S := fun _ => True) (e := 9) [.string ⟨#[98]⟩, .string ⟨#[97]⟩] 1 2 trivial rfl (by omega))
  refine (vInt_any 1 _ (by omega)).mono ?_
  rintro e w1 ⟨a1, rfl, hva1, hb1⟩
  obtain ⟨cs1, rfl, hc1⟩ := hva1
  obtain ⟨k1, n1, s1, A1, m1, c1, B1, q1, d1, rfl⟩ := hc1.form
  have HB1 := hid (bstep HB0.out hb1)
  have HK1 := hid (HK0.out.below hb1 (by omega))
  have HC1 := hid (hc1.more (S' := fun _ => True) (fun _ _ _ => trivial))
  clear hb1 hc1 HK0 HB0
  go_wp2_with fail
  refine (vInt_any 2 _ (by omega)).mono ?_
  rintro e w2 ⟨a2, rfl, hva2, hb2⟩
  obtain ⟨cs2, rfl, hc2⟩ := hva2
  obtain ⟨k2, n2, s2, A2, m2, c2, B2, q2, d2, rfl⟩ := hc2.form
  have HB2 := hid (bstep HB1.out hb2)
  have HK2 := hid (HK1.out.below hb2 (by omega))
  have HC2 := hid (two_vals (HC1.out.below hb2) (hc2.more (S' := fun _ => True) (fun _ _ _ => trivial)))
  clear hb2 hc2 HK1 HB1 HC1
  go_wp2_with fail
  have HI := hid (RdN_lit (w := w2) (S := fun _ => True) (e := 26) [.int .i64 k1, .int .i64 n1, .string s1, .slice A1 m1 c1, .slice B1 q1 d1, .int .i64 k2, .int .i64 n2, .string s2, .slice A2 m2 c2, .slice B2 q2 d2] 5 2 trivial rfl (by omega))
  have hm := map_any [⟨#[98]⟩, ⟨#[97]⟩] [intV 1, intV 2] _ _ _ _ (fun _ => True) (by simp) (by simp) (by intro x hx; simp at hx; rcases hx with rfl | rfl <;> decide) (HK2.out.below (below_box _) (by omega)) HI.out (HC2.out.below (below_box _))
  rw [map_ex1] at hm
  have HM := hid hm
  clear hm HI HK2 HC2
  refine HM.out.mono ?_
  rintro e w3 ⟨a3, rfl, hva3, hb3⟩
  obtain ⟨cs3, rfl, hc3⟩ := hva3
  obtain ⟨k3, n3, s3, A3, m3, c3, B3, q3, d3, rfl⟩ := hc3.form
  have HB3 := hid (bstep HB2.out (bstep (below_box _) hb3))
  have HC3 := hid (hc3.more (S' := fun _ => True) (fun _ _ _ => trivial))
  clear hb3 hc3 HM HB2
  go_wp2_with fail
  have HX3 := hid (Bx.refl (w := w3) (cs := #[.int .i64 k3, .int .i64 n3, .string s3, .slice A3 m3 c3, .slice B3 q3 d3]))
  have hb4 := below_box (w := w3.alloc (.cells #[.int .i64 k3, .int .i64 n3, .string s3, .slice A3 m3 c3, .slice B3 q3 d3] 26)) (.cells #[.string ⟨#[97]⟩, .string ⟨#[97]⟩] 9)
  have HX4 := hid (HX3.out.step hb4)
  have hk4 := (RdN_lit (w := w3.alloc (.cells #[.int .i64 k3, .int .i64 n3, .string s3, .slice A3 m3 c3, .slice B3 q3 d3] 26)) (S := fun _ => True) (e := 9) [.string ⟨#[97]⟩, .string ⟨#[97]⟩] 1 2 trivial rfl (by omega))
  rw [show (w3.alloc (.cells #[.int .i64 k3, .int .i64 n3, .string s3, .slice A3 m3 c3, .slice B3 q3 d3] 26)).heap.size = w3.heap.size + 1 by simp] at hk4
  have HK4 := hid hk4
  clear HX3 hb4 hk4
  refine (vInt_any 1 _ (by omega)).mono ?_
  rintro e w5 ⟨a5, rfl, hva5, hb5⟩
  obtain ⟨cs5, rfl, hc5⟩ := hva5
  obtain ⟨k5, n5, s5, A5, m5, c5, B5, q5, d5, rfl⟩ := hc5.form
  have HX5 := hid (HX4.out.step hb5)
  have HK5 := hid (HK4.out.below hb5 (by omega))
  have HC5 := hid (hc5.more (S' := fun _ => True) (fun _ _ _ => trivial))
  clear hb5 hc5 HK4 HX4
  go_wp2_with fail
  refine (vInt_any 2 _ (by omega)).mono ?_
  rintro e w6 ⟨a6, rfl, hva6, hb6⟩
  obtain ⟨cs6, rfl, hc6⟩ := hva6
  obtain ⟨k6, n6, s6, A6, m6, c6, B6, q6, d6, rfl⟩ := hc6.form
  have HX6 := hid (HX5.out.step hb6)
  have HK6 := hid (HK5.out.below hb6 (by omega))
  have HC6 := hid (two_vals (HC5.out.below hb6) (hc6.more (S' := fun _ => True) (fun _ _ _ => trivial)))
  clear hb6 hc6 HK5 HX5 HC5
  go_wp2_with fail
  have HI := hid (RdN_lit (w := w6) (S := fun _ => True) (e := 26) [.int .i64 k5, .int .i64 n5, .string s5, .slice A5 m5 c5, .slice B5 q5 d5, .int .i64 k6, .int .i64 n6, .string s6, .slice A6 m6 c6, .slice B6 q6 d6] 5 2 trivial rfl (by omega))
  have hm := map_any [⟨#[97]⟩, ⟨#[97]⟩] [intV 1, intV 2] _ _ _ _ (fun _ => True) (by simp) (by simp) (by intro x hx; simp at hx; subst hx; decide) (HK6.out.below (below_box _) (by omega)) HI.out (HC6.out.below (below_box _))
  rw [map_ex2] at hm
  have HM := hid hm
  clear hm HI HK6 HC6
  refine HM.out.mono ?_
  rintro e w7 ⟨a7, rfl, hva7, hb7⟩
  obtain ⟨cs7, rfl, hc7⟩ := hva7
  obtain ⟨k7, n7, s7, A7, m7, c7, B7, q7, d7, rfl⟩ := hc7.form
  have HX7 := hid (HX6.out.step (bstep (below_box _) hb7))
  have HX8 := hid (HX7.out.step (below_box (.cells #[.int .i64 k7, .int .i64 n7, .string s7, .slice A7 m7 c7, .slice B7 q7 d7] 26)))
  have HC8 := hid (HC3.out.below HX8.out.below)
  clear hb7 hc7 HM HX6 HX7
  have hg := get_any mEx ⟨#[97]⟩ _ _ _ (by decide) ⟨_, rfl, HC8.out⟩
  rw [get_ex] at hg
  have HG := hid hg
  clear hg
  obtain ⟨p0, p1, p2, p3, p4⟩ := HX8.out.cells
  go_wp2_with fail
  refine HG.out.mono ?_
  rintro e w9 ⟨a9, rfl, hva9, hb9⟩
  obtain ⟨cs9, rfl, hc9⟩ := hva9
  obtain ⟨k9, n9, s9, A9, m9, c9, B9, q9, d9, rfl⟩ := hc9.form
  have HB9 := hid (bstep (bstep HB3.out HX8.out.below) hb9)
  have HC9 := hid (hc9.more (S' := fun _ => True) (fun _ _ _ => trivial))
  clear hb9 hc9 HG HX8 HC8 HC3 HB3 p0 p1 p2 p3 p4
  go_wp2_with fail
  have HX9 := hid (Bx.refl (w := w9) (cs := #[.int .i64 k9, .int .i64 n9, .string s9, .slice A9 m9 c9, .slice B9 q9 d9]))
  refine (vInt_any 5 _ (by omega)).mono ?_
  rintro e w10 ⟨a10, rfl, hva10, hb10⟩
  obtain ⟨cs10, rfl, hc10⟩ := hva10
  obtain ⟨k10, n10, s10, A10, m10, c10, B10, q10, d10, rfl⟩ := hc10.form
  have HX10 := hid (HX9.out.step hb10)
  have HC10 := hid (hc10.more (S' := fun _ => True) (fun _ _ _ => trivial))
  clear hb10 hc10 HX9
  go_wp2_with fail
  refine (vText_any ⟨#[120]⟩ _ (by decide)).mono ?_
  rintro e w11 ⟨a11, rfl, hva11, hb11⟩
  obtain ⟨cs11, rfl, hc11⟩ := hva11
  obtain ⟨k11, n11, s11, A11, m11, c11, B11, q11, d11, rfl⟩ := hc11.form
  have HX11 := hid (HX10.out.step hb11)
  have HC11 := hid (two_vals (HC10.out.below hb11) (hc11.more (S' := fun _ => True) (fun _ _ _ => trivial)))
  clear hb11 hc11 HX10 HC10
  go_wp2_with fail
  have HI := hid (RdN_lit (w := w11) (S := fun _ => True) (e := 26) [.int .i64 k10, .int .i64 n10, .string s10, .slice A10 m10 c10, .slice B10 q10 d10, .int .i64 k11, .int .i64 n11, .string s11, .slice A11 m11 c11, .slice B11 q11 d11] 5 2 trivial rfl (by omega))
  refine (vList_any [intV 5, textV ⟨#[120]⟩] _ _ _ (fun _ => True) (by decide) HI.out (HC11.out.below (below_box _))).mono ?_
  rintro e w12 ⟨a12, rfl, hva12, hb12⟩
  have HX12 := hid (HX11.out.step (bstep (below_box _) hb12))
  have hva12' := hid hva12
  clear hb12 hva12 HX11 HC11 HI
  go_wp2_with fail
  have he := Encode_any (listV [intV 5, textV ⟨#[120]⟩]) [] (.slice none 0 0) a12 w12 _ (Bs.nil _) hva12'.out (by decide +kernel)
  rw [enc_ex] at he
  refine he.mono ?_
  intro e w13 hnew
  obtain ⟨A13, c13, rfl, hown13, hb13⟩ := hnew.form
  have HX13 := hid (HX12.out.step hb13)
  have HO13 := hid hown13
  clear hnew hown13 hb13 HX12 he hva12'
  go_wp2_with fail
  have hf : ∀ W, Below w13.heap.size w13 W → (W.cell? ⟨w9.heap.size, 0, none⟩ = some (.int .i64 k9) ∧ W.cell? ⟨w9.heap.size, 1, none⟩ = some (.int .i64 n9) ∧ W.cell? ⟨w9.heap.size, 2, none⟩ = some (.string s9) ∧ W.cell? ⟨w9.heap.size, 3, none⟩ = some (.slice A9 m9 c9) ∧ W.cell? ⟨w9.heap.size, 4, none⟩ = some (.slice B9 q9 d9)) ∧ (convert 50 9 (.slice A13 7 c13)).run Try.prog W = .ok (.string ⟨#[8, 4, 4, 10, 6, 2, 120]⟩) W := fun W hW => by
    have hx := HX13.out.step hW
    obtain ⟨p0, p1, p2, p3, p4⟩ := hx.cells
    exact ⟨⟨p0, p1, p2, p3, p4⟩, (HO13.out.bs.below hW).conv⟩
  have HF := hid hf
  have HI2 := hid (fun W => vInt_any 2 W (by omega))
  have HI9 := hid (fun W => vInt_any 9 W (by omega))
  have HT0 := hid (fun W => vText_any ⟨#[]⟩ W (by decide))
  have HBW := hid (bstep HB9.out HX13.out.below)
  have HC13 := hid (HC9.out.below HX13.out.below)
  have HS0 := hid (hf w13.drew (Below.refl _ _).drew)
  clear hf HO13 HX13 HB9 HC9
  go_region_held3 (fun W => (W.cell? ⟨w9.heap.size, 0, none⟩ = some (.int .i64 k9) ∧ W.cell? ⟨w9.heap.size, 1, none⟩ = some (.int .i64 n9) ∧ W.cell? ⟨w9.heap.size, 2, none⟩ = some (.string s9) ∧ W.cell? ⟨w9.heap.size, 3, none⟩ = some (.slice A9 m9 c9) ∧ W.cell? ⟨w9.heap.size, 4, none⟩ = some (.slice B9 q9 d9)) ∧ (convert 50 9 (.slice A13 7 c13)).run Try.prog W = .ok (.string ⟨#[8, 4, 4, 10, 6, 2, 120]⟩) W)
    (first | exact HS0.out | exact HS1.out | exact HS2.out | exact HS3.out | exact HS4.out | exact HS5.out)
    (first
      | (go_at_call 22; (with_reducible refine (HI2.out _).mono ?_); rintro e wa ⟨a2, rfl, hva2, hba⟩; have HBa : Hid (Below w13.heap.size w13 wa) := Below.trans (Below.refl _ _).drew hba; have HA2 := hid hva2; have HS1 := hid (HF.out _ HBa.out); clear hva2 hba)
      | (go_at_call 32; refine (callb (V.same_self (intV 2)) (same_any _ (intV 2) (intV 2) _ _ _ (fun _ => True) _ (Nat.le_refl _) ⟨_, rfl, HC13.out.below HBa.out⟩ HA2.out)).mono ?_; rintro e wb ⟨rfl, hbb⟩; have HBb := hid (bstep HBa.out hbb); have HS2 := hid (HF.out _ HBb.out); clear hbb)
      | (go_at_call 22; (with_reducible refine (HI9.out _).mono ?_); rintro e wc ⟨a9, rfl, hva9, hbc⟩; have HBc := hid (bstep HBb.out hbc); have HA9 := hid hva9; have HS3 := hid (HF.out _ HBc.out); clear hva9 hbc)
      | (go_at_call 18; refine (HT0.out _).mono ?_; rintro e wd ⟨a0, rfl, hva0, hbd⟩; have HBd := hid (bstep HBc.out hbd); have HA0 := hid hva0; have HA9' := hid (HA9.out.below hbd); have HS4 := hid (HF.out _ HBd.out); clear hva0 hbd)
      | (go_at_call 37; refine (calli ord_ex (order_any (intV 9) (textV ⟨#[]⟩) _ _ _ _ _ HA9'.out HA0.out)).mono ?_; rintro e wf ⟨rfl, hbf⟩; have HBf := hid (bstep HBd.out hbf); have HS5 := hid (HF.out _ HBf.out); clear hbf))
  go_wp2_with fail
  go_ret
  exact ⟨rfl, bstep HBW.out HBf.out⟩
end Go.Proofs.Ytpoofeiajmkfdaa
