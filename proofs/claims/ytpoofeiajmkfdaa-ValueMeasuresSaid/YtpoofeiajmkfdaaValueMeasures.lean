/-
  WHAT IS PROVED: the statement ValueMeasures of layer 2 (Rows.ValueMeasuresSaid): for every input, of any size, the Go function workflowlaw02.ValueMeasures returns true, and each argument reads afterwards as it read before. CONDITIONS: none beyond the row's own.
-/
import Derived.Test.YtpoofeiajmkfdaaRows
import Derived.Test.YtpoofeiajmkfdaaVSpoil2
import Derived.Deep.RegionHeld3
import Derived.ProofKit
import Derived.OpenShut
import Derived.ShutString
import Derived.ChangeOld
namespace Go.Proofs.Ytpoofeiajmkfdaa.valueMeasures
open Go.ChangeShapes Go.WideShapes Go.ChangeAt Go.RowKit
open Go.ChangeMaps (open_string shut_string)
set_option linter.unusedVariables false

theorem few2000 {v : V} {a : Value} {w : World} {S : Nat → Prop} (h : VA w S a v) : Calls Try.prog 11 #[a, .int .i64 2000] w fun e w' => e = .returned (.bool (decide (V.size v ≤ 2000))) ∧ Below w.heap.size w w' :=
  Few_any v a 2000 w S (by omega) h

theorem cells5 {w W : World} {g : Nat} {a0 a1 a2 a3 a4 : Value} (h : W.heap[g]? = some (.cells #[a0, a1, a2, a3, a4] 26 (0, 0))) : W.cell? ⟨g, 0, none⟩ = some a0 ∧ W.cell? ⟨g, 1, none⟩ = some a1 ∧ W.cell? ⟨g, 2, none⟩ = some a2 ∧ W.cell? ⟨g, 3, none⟩ = some a3 ∧ W.cell? ⟨g, 4, none⟩ = some a4 := by
  have := fun i => cell_of_row W g i _ 26 (0, 0) h
  exact ⟨this 0, this 1, this 2, this 3, this 4⟩

set_option maxRecDepth 100000 in
set_option maxHeartbeats 4000000 in
theorem walk (w : World) (v0 : Value) (x0 : V) (h0 : VA w (fun _ => True) v0 x0) (v1 : Value) (x1 : V) (h1 : VA w (fun _ => True) v1 x1) :
    Calls Try.prog 4 #[v0, v1] w fun e w' => e = .returned (.bool true) ∧ Below w.heap.size w w' := by
  have F0 := hid (fun W (hW : Below w.heap.size w W) => few2000 (h0.below hW))
  have F1 := hid (fun W (hW : Below w.heap.size w W) => few2000 (h1.below hW))
  by_cases hs0 : V.size x0 ≤ 2000
  · have RC := hid (fun W (hW : Below w.heap.size w W) => rcopy_any _ x0 v0 W _ (Nat.le_refl _) (by omega) (h0.below hW))
    have CU := hid (fun W (hW : Below w.heap.size w W) => copyU_any _ x0 v0 W _ (Nat.le_refl _) (by omega) (h0.below hW))
    have SC := hid (fun W (T : Nat → Prop) c (hW : Below w.heap.size w W) (hc : VA W T c x0) => callb (V.same_self x0) (rsame_any _ x0 x0 c v0 W T _ (Nat.le_refl _) hc (h0.below hW)))
    have SP := hid (fun W (T : Nat → Prop) c (hc : VA W T c x0) hT => spoil_any _ x0 c W T (Nat.le_refl _) hc hT)
    have SW := hid (fun W (T : Nat → Prop) c (hW : Below w.heap.size w W) (hc : VA W T c x0) => callb (V.same_self x0) (rsame_any _ x0 x0 v0 c W _ T (Nat.le_refl _) (h0.below hW) hc))
    have PW := hid (fun W (T : Nat → Prop) c (hW : Below w.heap.size w W) (hc : VA W T c x0) => callb (V.same_self x0) (same_any _ x0 x0 v0 c W _ T (Nat.le_refl _) (h0.below hW) hc))
    have PR := hid (fun W (hW : Below w.heap.size w W) => right_any x0 v0 W _ (h0.below hW))
    have RR := hid (fun W (hW : Below w.heap.size w W) => rright_any x0 v0 W _ (by omega) (h0.below hW))
    have PS := hid (fun W (hW : Below w.heap.size w W) => same_any _ x0 x1 v0 v1 W _ _ (Nat.le_refl _) (h0.below hW) (h1.below hW))
    have RS := hid (fun W (hW : Below w.heap.size w W) => rsame_any _ x0 x1 v0 v1 W _ _ (Nat.le_refl _) (h0.below hW) (h1.below hW))
    have PD := hid (fun W (hW : Below w.heap.size w W) => depth_any _ x0 v0 W _ (Nat.le_refl _) (by omega) (h0.below hW))
    have RD := hid (fun W (hW : Below w.heap.size w W) => rdepth_any _ x0 v0 W _ (Nat.le_refl _) (by omega) (h0.below hW))
    have PZ := hid (fun W (hW : Below w.heap.size w W) => size_any _ x0 v0 W _ (Nat.le_refl _) (by omega) (h0.below hW))
    have RZ := hid (fun W (hW : Below w.heap.size w W) => rsize_any _ x0 v0 W _ (Nat.le_refl _) (by omega) (h0.below hW))
    have hd0 : decide (V.size x0 ≤ 2000) = true := by simpa using hs0
    rw [hd0] at F0
    generalize V.right x0 = rr at PR RR
    generalize V.same x0 x1 = ss at PS RS
    generalize ((V.depth x0 : Nat) : Int) = dd at PD RD
    generalize hzz : ((V.size x0 : Nat) : Int) = zz at PZ RZ
    clear hzz hd0 hs0
    generalize decide (V.size x1 ≤ 2000) = f1 at F1
    obtain ⟨k, n, s, l, ks⟩ := x0
    obtain ⟨A, c, A', c', ics, rfl, _, _, _, _, _⟩ := h0.open_
    obtain ⟨k', n', s', l', ks'⟩ := x1
    obtain ⟨B, d, B', d', ics', rfl, _, _, _, _, _⟩ := h1.open_
    clear h0 h1
    cases f1
    · go_enter Try.func4, Try.ntmps4
      go_wp2_with fail
      refine (F0.out _ (bstep (below_box _) (below_box _))).mono ?_
      rintro e w1 ⟨rfl, hb1⟩
      have HB1 := hid (Bx2.refl.step hb1)
      clear hb1
      obtain ⟨⟨p0, p1, p2, p3, p4⟩, ⟨r0, r1, r2, r3, r4⟩⟩ := HB1.out.cells
      go_wp2_with fail
      refine (F1.out _ HB1.out.below).mono ?_
      rintro e w2 ⟨rfl, hb2⟩
      have HB2 := hid (HB1.out.step hb2)
      clear hb2 p0 p1 p2 p3 p4 r0 r1 r2 r3 r4
      go_wp2_with fail
      refine (vWorks_any _).mono ?_
      rintro e w3 ⟨rfl, hb3⟩
      go_wp2_with fail
      go_ret
      exact ⟨rfl, bstep HB2.out.below hb3⟩
    · go_enter Try.func4, Try.ntmps4
      go_wp2_with fail
      refine (F0.out _ (bstep (below_box _) (below_box _))).mono ?_
      rintro e w1 ⟨rfl, hb1⟩
      have HB1 := hid (Bx2.refl.step hb1)
      clear hb1
      obtain ⟨⟨p0, p1, p2, p3, p4⟩, ⟨r0, r1, r2, r3, r4⟩⟩ := HB1.out.cells
      go_wp2_with fail
      refine (F1.out _ HB1.out.below).mono ?_
      rintro e w2 ⟨rfl, hb2⟩
      have HB2 := hid (HB1.out.step hb2)
      clear hb2 p0 p1 p2 p3 p4 r0 r1 r2 r3 r4
      obtain ⟨⟨p0, p1, p2, p3, p4⟩, ⟨r0, r1, r2, r3, r4⟩⟩ := HB2.out.cells
      go_wp2_with fail
      refine (RC.out _ HB2.out.below).mono ?_
      rintro e w3 ⟨a3, rfl, hva3, hb3⟩
      obtain ⟨cs3, rfl, hc3⟩ := hva3
      obtain ⟨k3, n3, s3, A3, m3, c3, B3, q3, d3, rfl⟩ := hc3.form
      have HB4 := hid ((HB2.out.step hb3).step (below_box (.cells #[.int .i64 k3, .int .i64 n3, .string s3, .slice A3 m3 c3, .slice B3 q3 d3] 26)))
      have HC3 := hid (hc3.more (S' := fun b => b < w3.heap.size) (fun b _ hb => hb))
      have hg5 : Hid ((w3.alloc (.cells #[.int .i64 k3, .int .i64 n3, .string s3, .slice A3 m3 c3, .slice B3 q3 d3] 26)).heap[w3.heap.size]? = some (.cells #[.int .i64 k3, .int .i64 n3, .string s3, .slice A3 m3 c3, .slice B3 q3 d3] 26 (0, 0))) := heap_alloc_new w3 _
      clear hb3 hc3 p0 p1 p2 p3 p4 r0 r1 r2 r3 r4
      obtain ⟨⟨p0, p1, p2, p3, p4⟩, ⟨r0, r1, r2, r3, r4⟩⟩ := HB4.out.cells
      go_wp2_with fail
      refine (CU.out _ HB4.out.below).mono ?_
      rintro e w5 ⟨a5, rfl, hva5, hb5⟩
      obtain ⟨cs5, rfl, hc5⟩ := hva5
      obtain ⟨k5, n5, s5, A5, m5, c5, B5, q5, d5, rfl⟩ := hc5.form
      have HBW5 := hid (bstep hb5 (below_box (.cells #[.int .i64 k5, .int .i64 n5, .string s5, .slice A5 m5 c5, .slice B5 q5 d5] 26)))
      have HB6 := hid (HB4.out.step HBW5.out)
      have HC5 := hid ((hc5.more (S' := fun b => (w3.heap.size + 1 ≤ b ∧ b < w5.heap.size) ∧ Unf w5 b) (fun b h hb => ⟨⟨by have := h.1; simpa using this, hb⟩, h.2⟩)).below (below_box (.cells #[.int .i64 k5, .int .i64 n5, .string s5, .slice A5 m5 c5, .slice B5 q5 d5] 26)))
      clear hb5 hc5 p0 p1 p2 p3 p4 r0 r1 r2 r3 r4
      obtain ⟨⟨p0, p1, p2, p3, p4⟩, ⟨r0, r1, r2, r3, r4⟩⟩ := HB6.out.cells
      go_wp2_with fail
      refine (SC.out _ _ _ HB6.out.below ⟨_, rfl, HC5.out⟩).mono ?_
      rintro e w7 ⟨rfl, hb7⟩
      have HBW7 := hid (bstep HBW5.out hb7)
      have HB7 := hid (HB6.out.step hb7)
      have HC7 := hid (HC5.out.below hb7)
      have hz5 : w5.heap.size < w7.heap.size := by have := hb7.size; simp at this; omega
      have hbx6 := cells5 (w := w) ((hb7.block _ (by simp)).trans (heap_alloc_new w5 (.cells #[.int .i64 k5, .int .i64 n5, .string s5, .slice A5 m5 c5, .slice B5 q5 d5] 26)))
      obtain ⟨g0, g1, g2, g3, g4⟩ := hbx6
      have HU7 : Hid (∀ b, ((w3.heap.size + 1 ≤ b ∧ b < w5.heap.size) ∧ Unf w5 b) → b < w7.heap.size ∧ Unf w7 b) := fun b hb => ⟨by omega, (hb.2.below (bstep (below_box _) hb7) hb.1.2)⟩
      clear hb7 p0 p1 p2 p3 p4 r0 r1 r2 r3 r4
      go_wp2_with fail
      refine (SP.out _ _ _ ⟨_, rfl, HC7.out⟩ HU7.out).mono ?_
      rintro e w8 ⟨⟨u8, rfl⟩, hspo⟩
      have hz3 : w3.heap.size + 1 ≤ w7.heap.size := by have := HBW7.out.size; simp at this; omega
      have HBS := hid (hspo.below (B := w3.heap.size + 1) (fun b _ hb => hb.1.1) hz3)
      clear hspo g0 g1 g2 g3 g4
      have HBW8 : Hid (Below (w3.heap.size + 1) (w3.alloc (.cells #[.int .i64 k3, .int .i64 n3, .string s3, .slice A3 m3 c3, .slice B3 q3 d3] 26)) w8) := (by have := HBW7.out; simpa using this : Below (w3.heap.size + 1) _ w7).trans HBS.out
      have HB8 := hid (HB4.out.step (by simpa using HBW8.out))
      have HC8 := hid (VC.keep (S' := fun _ => True) (fun _ _ _ => trivial) (fun p u hp hc => (HBW8.out.cell (by omega)).trans ((World.cell?_alloc_lt w3 _ p hp).trans hc)) _ _ HC3.out)
      have hg8 : Hid (w8.heap[w3.heap.size]? = some (.cells #[.int .i64 k3, .int .i64 n3, .string s3, .slice A3 m3 c3, .slice B3 q3 d3] 26 (0, 0))) := (HBW8.out.block _ (by omega)).trans hg5.out
      have hz8 : w3.heap.size < w8.heap.size := (Array.getElem?_eq_some_iff.1 hg8.out).1
      go_wp2_with fail
      have hf : ∀ W, Below w8.heap.size w8 W → _ := fun W hW => And.intro (HB8.out.step hW).cells (cells5 (w := w) ((hW.block _ hz8).trans hg8.out))
      have HF := hid hf
      have HB : Hid (Below w8.heap.size w8 w8.drew) := (Below.refl _ _).drew
      have HS := hid (hf _ HB.out)
      clear hf
      have SW8 := hid (fun W (hW : Below w8.heap.size w8 W) => SW.out W _ (.agg #[.int .i64 k3, .int .i64 n3, .string s3, .slice A3 m3 c3, .slice B3 q3 d3]) (bstep HB8.out.below hW) ⟨_, rfl, HC8.out.below hW⟩)
      have PW8 := hid (fun W (hW : Below w8.heap.size w8 W) => PW.out W _ (.agg #[.int .i64 k3, .int .i64 n3, .string s3, .slice A3 m3 c3, .slice B3 q3 d3]) (bstep HB8.out.below hW) ⟨_, rfl, HC8.out.below hW⟩)
      go_region_held3 (fun W => ((W.cell? ⟨w.heap.size, 0, none⟩ = some (.int .i64 k) ∧ W.cell? ⟨w.heap.size, 1, none⟩ = some (.int .i64 n) ∧ W.cell? ⟨w.heap.size, 2, none⟩ = some (.string s) ∧ W.cell? ⟨w.heap.size, 3, none⟩ = some (.slice A l.length c) ∧ W.cell? ⟨w.heap.size, 4, none⟩ = some (.slice A' ks.length c')) ∧ (W.cell? ⟨w.heap.size + 1, 0, none⟩ = some (.int .i64 k') ∧ W.cell? ⟨w.heap.size + 1, 1, none⟩ = some (.int .i64 n') ∧ W.cell? ⟨w.heap.size + 1, 2, none⟩ = some (.string s') ∧ W.cell? ⟨w.heap.size + 1, 3, none⟩ = some (.slice B l'.length d) ∧ W.cell? ⟨w.heap.size + 1, 4, none⟩ = some (.slice B' ks'.length d'))) ∧
          (W.cell? ⟨w3.heap.size, 0, none⟩ = some (.int .i64 k3) ∧ W.cell? ⟨w3.heap.size, 1, none⟩ = some (.int .i64 n3) ∧ W.cell? ⟨w3.heap.size, 2, none⟩ = some (.string s3) ∧ W.cell? ⟨w3.heap.size, 3, none⟩ = some (.slice A3 m3 c3) ∧ W.cell? ⟨w3.heap.size, 4, none⟩ = some (.slice B3 q3 d3)))
        (exact HS.out)
        (first
          | (go_at_call 15; (with_reducible refine (SW8.out _ HB.out).mono ?_); rintro e wx ⟨rfl, hbx⟩; have HB := hid (bstep HB.out hbx); have HS := hid (HF.out _ HB.out); clear hbx)
          | (go_at_call 30; (with_reducible refine (PR.out _ (bstep HB8.out.below HB.out)).mono ?_); rintro e wx ⟨rfl, hbx⟩; have HB := hid (bstep HB.out hbx); have HS := hid (HF.out _ HB.out); clear hbx)
          | (go_at_call 31; (with_reducible refine (RR.out _ (bstep HB8.out.below HB.out)).mono ?_); rintro e wx ⟨rfl, hbx⟩; have HB := hid (bstep HB.out hbx); have HS := hid (HF.out _ HB.out); clear hbx)
          | (go_at_call 32; (with_reducible refine (PS.out _ (bstep HB8.out.below HB.out)).mono ?_); rintro e wx ⟨rfl, hbx⟩; have HB := hid (bstep HB.out hbx); have HS := hid (HF.out _ HB.out); clear hbx)
          | (go_at_call 15; (with_reducible refine (RS.out _ (bstep HB8.out.below HB.out)).mono ?_); rintro e wx ⟨rfl, hbx⟩; have HB := hid (bstep HB.out hbx); have HS := hid (HF.out _ HB.out); clear hbx)
          | (go_at_call 32; (with_reducible refine (PW8.out _ HB.out).mono ?_); rintro e wx ⟨rfl, hbx⟩; have HB := hid (bstep HB.out hbx); have HS := hid (HF.out _ HB.out); clear hbx)
          | (go_at_call 33; (with_reducible refine (PD.out _ (bstep HB8.out.below HB.out)).mono ?_); rintro e wx ⟨rfl, hbx⟩; have HB := hid (bstep HB.out hbx); have HS := hid (HF.out _ HB.out); clear hbx)
          | (go_at_call 34; (with_reducible refine (RD.out _ (bstep HB8.out.below HB.out)).mono ?_); rintro e wx ⟨rfl, hbx⟩; have HB := hid (bstep HB.out hbx); have HS := hid (HF.out _ HB.out); clear hbx)
          | (go_at_call 35; (with_reducible refine (PZ.out _ (bstep HB8.out.below HB.out)).mono ?_); rintro e wx ⟨rfl, hbx⟩; have HB := hid (bstep HB.out hbx); have HS := hid (HF.out _ HB.out); clear hbx)
          | (go_at_call 36; (with_reducible refine (RZ.out _ (bstep HB8.out.below HB.out)).mono ?_); rintro e wx ⟨rfl, hbx⟩; have HB := hid (bstep HB.out hbx); have HS := hid (HF.out _ HB.out); clear hbx)
          | (go_at_call 12; refine (vWorks_any _).mono ?_; rintro e wx ⟨rfl, hbx⟩; have HB := hid (bstep HB.out hbx); have HS := hid (HF.out _ HB.out); clear hbx))
      go_wp2_with fail
      go_ret
      exact ⟨rfl, bstep HB8.out.below HB.out⟩
  · have hd0 : decide (V.size x0 ≤ 2000) = false := by simpa using hs0
    rw [hd0] at F0
    obtain ⟨k, n, s, l, ks⟩ := x0
    obtain ⟨A, c, A', c', ics, rfl, _, _, _, _, _⟩ := h0.open_
    obtain ⟨k', n', s', l', ks'⟩ := x1
    obtain ⟨B, d, B', d', ics', rfl, _, _, _, _, _⟩ := h1.open_
    clear h0 h1 hs0 hd0
    go_enter Try.func4, Try.ntmps4
    go_wp2_with fail
    refine (F0.out _ (bstep (below_box _) (below_box _))).mono ?_
    rintro e w1 ⟨rfl, hb1⟩
    have HB1 := hid (Bx2.refl.step hb1)
    clear hb1
    go_wp2_with fail
    refine (vWorks_any _).mono ?_
    rintro e w2 ⟨rfl, hb2⟩
    go_wp2_with fail
    go_ret
    exact ⟨rfl, bstep HB1.out.below hb2⟩


theorem own : ownKnob Try.prog.godebug = none := by kernel_rfl
theorem laidOut : laidOutB Try.prog = true := by kernel_rfl

set_option maxRecDepth 100000 in
theorem lifted (os : Os) (started : os.Started) (H : Type) (enc : TypeId × Value → H) :
    ReturnsInHanded {} Try.checked os 4 .any (Rows.valueMeasuresSpec.pre6 enc Try.prog Try.f4 Rows.valueMeasuresRow.domain false) (Rows.valueMeasuresSpec.post enc Try.prog Try.f4 false true false false) := by
  refine returnsInHanded_of_change_sized (C := Try.checked) own started (by kernel_rfl) Try.func4
    (ChangeSpec.witness6 (enc := enc) (C := Try.checked) false ⟨#[], #[.agg #[.int .i64 0, .int .i64 0, .string ByteArray.empty, .slice none 0 0, .slice none 0 0], .agg #[.int .i64 0, .int .i64 0, .string ByteArray.empty, .slice none 0 0, .slice none 0 0]], []⟩ 8 (by kernel_rfl) (by kernel_rfl) (by kernel_rfl) (by kernel_rfl)) ?_
  intro W base args ds gs before hval0 hW hcnd hsz _
  have hval : ∀ (j : Nat) t v, Try.f4.params[j]? = some t → args[j]? = some v → Value.okWide Try.prog W .any base t v := hval0
  have hW' := hW
  obtain ⟨p, q, hA0, hV, rfl, hfz, hnd⟩ := hW
  have hA : DataW.TrodAll enc Try.prog W 0 (fun _ => true) true Try.f4.params.toList args.toList ds p := hA0
  rw [Try.params4] at hA hval hsz
  obtain ⟨v0, vs0, d0, ds0, p0, q0, hargs, rfl, rfl, h0, r0⟩ := trodAll_cons hA
  obtain ⟨v1, vs1, d1, ds1, p1, q1, rfl, rfl, rfl, h1, r1⟩ := trodAll_cons r0
  obtain ⟨rfl, rfl, rfl⟩ := trodAll_nil r1
  obtain rfl : args = #[v0, v1] := by cases args; simp_all
  obtain ⟨rfl, rfl⟩ := trodVars_none hV
  have k0 := h0
  have lt0 : ∀ x ∈ p0, x.block < W.heap.size := by obtain ⟨m, hm⟩ := k0; exact DataW.trod_lt m _ _ _ hm
  have z0 : ∀ n ∈ d0.weights Try.prog 26, n ≤ reachBytes := fun n hn => by have := List.all_eq_true.1 hsz n (DataW.weights_mem_each (j := 0) (t := 26) (d := d0) rfl rfl n hn); simpa using this
  obtain ⟨l0, b0⟩ := open_value (hval 0 26 v0 rfl rfl) h0 z0
  have k1 := h1
  have lt1 : ∀ x ∈ p1, x.block < W.heap.size := by obtain ⟨m, hm⟩ := k1; exact DataW.trod_lt m _ _ _ hm
  have z1 : ∀ n ∈ d1.weights Try.prog 26, n ≤ reachBytes := fun n hn => by have := List.all_eq_true.1 hsz n (DataW.weights_mem_each (j := 1) (t := 26) (d := d1) rfl rfl n hn); simpa using this
  obtain ⟨l1, b1⟩ := open_value (hval 1 26 v1 rfl rfl) h1 z1
  clear hA0 hval0
  refine (walk W v0 l0 b0 v1 l1 b1).mono fun e W' ⟨he, bel⟩ => ?_
  subst he
  exact ⟨_, rfl, _, _, _, [], _, [], hW', trodAll_mk1 (shut_bool Try.underlying4 _), (trodAll_cons_mk (Below.trod laidOut (by kernel_rfl) (of_decide_eq_true (by kernel_rfl)) k0 bel lt0) (trodAll_cons_mk (Below.trod laidOut (by kernel_rfl) (of_decide_eq_true (by kernel_rfl)) k1 bel lt1) trodAll_mk0)), rfl, bel.frame _, fun h => by cases h⟩

theorem over : Rows.valueMeasuresRow.holds Try.pinned (OpenSpec.ofChange Rows.valueMeasuresSpec) :=
  OpenClaim.holds_of_wide 4 Try.f4 rfl rfl rfl rfl rfl rfl rfl ⟨rfl, rfl, rfl, rfl, rfl⟩ rfl rfl rfl rfl rfl (by kernel_rfl) Try.func4 (by kernel_rfl)
    (of_decide_eq_true (by kernel_rfl)) (by unfold Func.isWrapper; first | (rw [if_pos (by decide +kernel)]; kernel_rfl) | (rw [if_neg (by decide +kernel)]; exact ⟨rfl, rfl⟩))
    (fun os started H enc _ => lifted os started H enc)

/-- THE STATEMENT. -/
theorem proved : Rows.ValueMeasuresSaid := over
#print axioms proved
end Go.Proofs.Ytpoofeiajmkfdaa.valueMeasures
