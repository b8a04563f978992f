/-
  WHAT IS PROVED: the statement ValueOrders of layer 2 (Rows.ValueOrdersSaid): for every input, of any size, the Go function workflowlaw02.ValueOrders returns true, and each argument reads afterwards as it read before. CONDITIONS: none beyond the row's own.
-/
import Derived.Test.YtpoofeiajmkfdaaRows
import Derived.Test.YtpoofeiajmkfdaaVLaw
import Derived.ProofKit
import Derived.OpenShut
import Derived.ShutString
import Derived.ChangeOld
namespace Go.Proofs.Ytpoofeiajmkfdaa.valueOrders
open Go.ChangeShapes Go.WideShapes Go.ChangeAt Go.RowKit
open Go.ChangeMaps (open_string shut_string)
set_option linter.unusedVariables false

theorem few300 {v : V} {a : Value} {w : World} {S : Nat → Prop} (h : VA w S a v) : Calls Try.prog 11 #[a, .int .i64 300] w fun e w' => e = .returned (.bool (decide (V.size v ≤ 300))) ∧ Below w.heap.size w w' :=
  Few_any v a 300 w S (by omega) h

set_option maxRecDepth 100000 in
set_option maxHeartbeats 2000000 in
theorem walk (w : World) (v0 : Value) (x0 : V) (h0 : VA w (fun _ => True) v0 x0) (v1 : Value) (x1 : V) (h1 : VA w (fun _ => True) v1 x1) :
    Calls Try.prog 5 #[v0, v1] w fun e w' => e = .returned (.bool true) ∧ Below w.heap.size w w' := by
  have F0 := hid (fun W (hW : Below w.heap.size w W) => few300 (h0.below hW))
  have F1 := hid (fun W (hW : Below w.heap.size w W) => few300 (h1.below hW))
  have OP := hid (fun W (hW : Below w.heap.size w W) => order_any x0 x1 v0 v1 W _ _ (h0.below hW) (h1.below hW))
  have OR := hid (fun W (hW : Below w.heap.size w W) => rorder_any x0 x1 v0 v1 W _ _ (h0.below hW) (h1.below hW))
  generalize hod : ord x0 x1 = od at OP OR
  clear hod
  generalize decide (V.size x0 ≤ 300) = f0 at F0
  generalize decide (V.size x1 ≤ 300) = f1 at F1
  obtain ⟨k, n, s, l, ks⟩ := x0
  obtain ⟨A, c, A', c', ics, rfl, _, _, _, _, _⟩ := h0.open_
  obtain ⟨k', n', s', l', ks'⟩ := x1
  obtain ⟨B, d, B', d', ics', rfl, _, _, _, _, _⟩ := h1.open_
  clear h0 h1
  cases f0
  · go_enter Try.func5, Try.ntmps5
    go_wp2_with fail
    refine (F0.out _ (bstep (below_box _) (below_box _))).mono ?_
    rintro e w1 ⟨rfl, hb1⟩
    have HB1 := hid (Bx2.refl.step hb1)
    clear hb1
    go_wp2_with fail
    refine (vWorks_any _).mono ?_
    rintro e w2 ⟨rfl, hb2⟩
    go_wp2_with fail
    go_ret
    exact ⟨rfl, bstep HB1.out.below hb2⟩
  · cases f1
    · go_enter Try.func5, Try.ntmps5
      go_wp2_with fail
      refine (F0.out _ (bstep (below_box _) (below_box _))).mono ?_
      rintro e w1 ⟨rfl, hb1⟩
      have HB1 := hid (Bx2.refl.step hb1)
      clear hb1
      obtain ⟨⟨p0, p1, p2, p3, p4⟩, ⟨r0, r1, r2, r3, r4⟩⟩ := HB1.out.cells
      go_wp2_with fail
      refine (F1.out _ HB1.out.below).mono ?_
      rintro e w2 ⟨rfl, hb2⟩
      have HB2 := hid (HB1.out.step hb2)
      clear hb2 p0 p1 p2 p3 p4 r0 r1 r2 r3 r4
      go_wp2_with fail
      refine (vWorks_any _).mono ?_
      rintro e w3 ⟨rfl, hb3⟩
      go_wp2_with fail
      go_ret
      exact ⟨rfl, bstep HB2.out.below hb3⟩
    · go_enter Try.func5, Try.ntmps5
      go_wp2_with fail
      refine (F0.out _ (bstep (below_box _) (below_box _))).mono ?_
      rintro e w1 ⟨rfl, hb1⟩
      have HB1 := hid (Bx2.refl.step hb1)
      clear hb1
      obtain ⟨⟨p0, p1, p2, p3, p4⟩, ⟨r0, r1, r2, r3, r4⟩⟩ := HB1.out.cells
      go_wp2_with fail
      refine (F1.out _ HB1.out.below).mono ?_
      rintro e w2 ⟨rfl, hb2⟩
      have HB2 := hid (HB1.out.step hb2)
      clear hb2 p0 p1 p2 p3 p4 r0 r1 r2 r3 r4
      go_wp2_with fail
      have hf : ∀ W, Below w2.heap.size w2 W → _ := fun W hW => (HB2.out.step hW).cells
      have HF := hid hf
      have hx := hid (hf _ (Below.refl _ _).drew)
      clear hf
      go_region_held3 (fun W => (W.cell? ⟨w.heap.size, 0, none⟩ = some (.int .i64 k) ∧ W.cell? ⟨w.heap.size, 1, none⟩ = some (.int .i64 n) ∧ W.cell? ⟨w.heap.size, 2, none⟩ = some (.string s) ∧ W.cell? ⟨w.heap.size, 3, none⟩ = some (.slice A l.length c) ∧ W.cell? ⟨w.heap.size, 4, none⟩ = some (.slice A' ks.length c')) ∧ (W.cell? ⟨w.heap.size + 1, 0, none⟩ = some (.int .i64 k') ∧ W.cell? ⟨w.heap.size + 1, 1, none⟩ = some (.int .i64 n') ∧ W.cell? ⟨w.heap.size + 1, 2, none⟩ = some (.string s') ∧ W.cell? ⟨w.heap.size + 1, 3, none⟩ = some (.slice B l'.length d) ∧ W.cell? ⟨w.heap.size + 1, 4, none⟩ = some (.slice B' ks'.length d')))
        (first | exact hx.out | exact HS1.out | exact HS2.out | exact HS3.out)
        (first
          | (go_at_call 37; refine (OP.out _ (bstep HB2.out.below (Below.refl _ _).drew)).mono ?_; rintro e wa ⟨rfl, hba⟩; have HBa : Hid (Below w2.heap.size w2 wa) := Below.trans (Below.refl _ _).drew hba; have HS1 := hid (HF.out _ HBa.out); clear hba)
          | (go_at_call 38; refine (OR.out _ (bstep HB2.out.below HBa.out)).mono ?_; rintro e wb ⟨rfl, hbb⟩; have HBb := hid (bstep HBa.out hbb); have HS2 := hid (HF.out _ HBb.out); clear hbb)
          | (go_at_call 12; refine (vWorks_any _).mono ?_; rintro e wc ⟨rfl, hbc⟩; have HBc := hid (bstep HBb.out hbc); have HS3 := hid (HF.out _ HBc.out); clear hbc))
      go_wp2_with fail
      go_ret
      exact ⟨rfl, bstep HB2.out.below HBc.out⟩


theorem own : ownKnob Try.prog.godebug = none := by kernel_rfl
theorem laidOut : laidOutB Try.prog = true := by kernel_rfl

set_option maxRecDepth 100000 in
theorem lifted (os : Os) (started : os.Started) (H : Type) (enc : TypeId × Value → H) :
    ReturnsInHanded {} Try.checked os 5 .any (Rows.valueOrdersSpec.pre6 enc Try.prog Try.f5 Rows.valueOrdersRow.domain false) (Rows.valueOrdersSpec.post enc Try.prog Try.f5 false true false false) := by
  refine returnsInHanded_of_change_sized (C := Try.checked) own started (by kernel_rfl) Try.func5
    (ChangeSpec.witness6 (enc := enc) (C := Try.checked) false ⟨#[], #[.agg #[.int .i64 0, .int .i64 0, .string ByteArray.empty, .slice none 0 0, .slice none 0 0], .agg #[.int .i64 0, .int .i64 0, .string ByteArray.empty, .slice none 0 0, .slice none 0 0]], []⟩ 8 (by kernel_rfl) (by kernel_rfl) (by kernel_rfl) (by kernel_rfl)) ?_
  intro W base args ds gs before hval0 hW hcnd hsz _
  have hval : ∀ (j : Nat) t v, Try.f5.params[j]? = some t → args[j]? = some v → Value.okWide Try.prog W .any base t v := hval0
  have hW' := hW
  obtain ⟨p, q, hA0, hV, rfl, hfz, hnd⟩ := hW
  have hA : DataW.TrodAll enc Try.prog W 0 (fun _ => true) true Try.f5.params.toList args.toList ds p := hA0
  rw [Try.params5] at hA hval hsz
  obtain ⟨v0, vs0, d0, ds0, p0, q0, hargs, rfl, rfl, h0, r0⟩ := trodAll_cons hA
  obtain ⟨v1, vs1, d1, ds1, p1, q1, rfl, rfl, rfl, h1, r1⟩ := trodAll_cons r0
  obtain ⟨rfl, rfl, rfl⟩ := trodAll_nil r1
  obtain rfl : args = #[v0, v1] := by cases args; simp_all
  obtain ⟨rfl, rfl⟩ := trodVars_none hV
  have k0 := h0
  have lt0 : ∀ x ∈ p0, x.block < W.heap.size := by obtain ⟨m, hm⟩ := k0; exact DataW.trod_lt m _ _ _ hm
  have z0 : ∀ n ∈ d0.weights Try.prog 26, n ≤ reachBytes := fun n hn => by have := List.all_eq_true.1 hsz n (DataW.weights_mem_each (j := 0) (t := 26) (d := d0) rfl rfl n hn); simpa using this
  obtain ⟨l0, b0⟩ := open_value (hval 0 26 v0 rfl rfl) h0 z0
  have k1 := h1
  have lt1 : ∀ x ∈ p1, x.block < W.heap.size := by obtain ⟨m, hm⟩ := k1; exact DataW.trod_lt m _ _ _ hm
  have z1 : ∀ n ∈ d1.weights Try.prog 26, n ≤ reachBytes := fun n hn => by have := List.all_eq_true.1 hsz n (DataW.weights_mem_each (j := 1) (t := 26) (d := d1) rfl rfl n hn); simpa using this
  obtain ⟨l1, b1⟩ := open_value (hval 1 26 v1 rfl rfl) h1 z1
  clear hA0 hval0
  refine (walk W v0 l0 b0 v1 l1 b1).mono fun e W' ⟨he, bel⟩ => ?_
  subst he
  exact ⟨_, rfl, _, _, _, [], _, [], hW', trodAll_mk1 (shut_bool Try.underlying4 _), (trodAll_cons_mk (Below.trod laidOut (by kernel_rfl) (of_decide_eq_true (by kernel_rfl)) k0 bel lt0) (trodAll_cons_mk (Below.trod laidOut (by kernel_rfl) (of_decide_eq_true (by kernel_rfl)) k1 bel lt1) trodAll_mk0)), rfl, bel.frame _, fun h => by cases h⟩

theorem over : Rows.valueOrdersRow.holds Try.pinned (OpenSpec.ofChange Rows.valueOrdersSpec) :=
  OpenClaim.holds_of_wide 5 Try.f5 rfl rfl rfl rfl rfl rfl rfl ⟨rfl, rfl, rfl, rfl, rfl⟩ rfl rfl rfl rfl rfl (by kernel_rfl) Try.func5 (by kernel_rfl)
    (of_decide_eq_true (by kernel_rfl)) (by unfold Func.isWrapper; first | (rw [if_pos (by decide +kernel)]; kernel_rfl) | (rw [if_neg (by decide +kernel)]; exact ⟨rfl, rfl⟩))
    (fun os started H enc _ => lifted os started H enc)

/-- THE STATEMENT. -/
theorem proved : Rows.ValueOrdersSaid := over
#print axioms proved
end Go.Proofs.Ytpoofeiajmkfdaa.valueOrders
