/-
  WHAT IS PROVED: the statement ValueEncodes of layer 2 where what it reads is of bulk at most 1048576 (Rows.ValueEncodesUptoSaid): for every such input the Go function workflowlaw02.ValueEncodes returns true, and each argument reads afterwards as it read before. CONDITIONS: the row's own bound on the bulk, and none beyond it.
-/
import Derived.Test.YtpoofeiajmkfdaaRows
import Derived.Test.YtpoofeiajmkfdaaVBulk
import Derived.Test.YtpoofeiajmkfdaaLaw
import Derived.Deep.RegionHeld3
import Derived.Deep.RegionWith
import Derived.ProofKit
import Derived.OpenShut
import Derived.ShutString
import Derived.ChangeOld
import Derived.Deep.CondSized
namespace Go.Proofs.Ytpoofeiajmkfdaa.valueEncodes
open Go.ChangeShapes Go.WideShapes Go.ChangeAt Go.RowKit
open Go.ChangeMaps (open_string shut_string)
set_option linter.unusedVariables false

theorem few300 {v : V} {a : Value} {w : World} {S : Nat → Prop} (h : VA w S a v) : Calls Try.prog 11 #[a, .int .i64 300] w fun e w' => e = .returned (.bool (decide (V.size v ≤ 300))) ∧ Below w.heap.size w w' :=
  Few_any v a 300 w S (by omega) h

set_option maxRecDepth 100000 in
set_option maxHeartbeats 2000000 in
theorem walk (w : World) (v0 : Value) (bs : List UInt8) (h0 : Bs w v0 bs) (v1 : Value) (x1 : V) (h1 : VA w (fun _ => True) v1 x1) (hm : V.mass x1 ≤ 1048576) :
    Calls Try.prog 8 #[v0, v1] w fun e w' => e = .returned (.bool true) ∧ Below w.heap.size w w' := by
  have hel : (V.enc x1).length ≤ 31457280 := by
    obtain ⟨cs, _, hc⟩ := h1
    have := enc_mass x1 cs hc
    omega
  have F1 := hid (fun W (hW : Below w.heap.size w W) => few300 (h1.below hW))
  by_cases hbl : 100 < bs.length
  · obtain ⟨k, n, s, l, ks⟩ := x1
    obtain ⟨A, c, A', c', ics, rfl, _, _, _, _, _⟩ := h1.open_
    obtain ⟨A0, c0, rfl⟩ := h0.form
    clear h0 h1 F1
    go_enter Try.func8, Try.ntmps8
    go_wp2_with fail
    refine (vWorks_any _).mono ?_
    rintro e w2 ⟨rfl, hb2⟩
    go_wp2_with fail
    go_ret
    exact ⟨rfl, bstep (below_box _) hb2⟩
  · have EP := hid (fun W (hW : Below w.heap.size w W) => Encode_any x1 bs v0 v1 W _ (h0.below hW) (h1.below hW) (by omega))
    have ER := hid (fun W (hW : Below w.heap.size w W) => rEncode_any x1 bs v0 v1 W _ (h0.below hW) (h1.below hW) (by omega))
    generalize bs ++ encV x1 = full at EP ER
    generalize decide (V.size x1 ≤ 300) = f1 at F1
    obtain ⟨k, n, s, l, ks⟩ := x1
    obtain ⟨A, c, A', c', ics, rfl, _, _, _, _, _⟩ := h1.open_
    obtain ⟨A0, c0, rfl⟩ := h0.form
    clear h0 h1
    cases f1
    · go_enter Try.func8, Try.ntmps8
      go_wp2_with fail
      refine (F1.out _ (below_box _)).mono ?_
      rintro e w1 ⟨rfl, hb1⟩
      go_wp2_with fail
      refine (vWorks_any _).mono ?_
      rintro e w2 ⟨rfl, hb2⟩
      go_wp2_with fail
      go_ret
      exact ⟨rfl, bstep (bstep (below_box _) hb1) hb2⟩
    · go_enter Try.func8, Try.ntmps8
      go_wp2_with fail
      refine (F1.out _ (below_box _)).mono ?_
      rintro e w1 ⟨rfl, hb1⟩
      have HB1 := hid (Bx.refl.step hb1)
      clear hb1
      go_wp2_with fail
      have hf : ∀ W, Below w1.heap.size w1 W → _ := fun W hW => (HB1.out.step hW).cells
      have HF := hid hf
      obtain ⟨p0, p1, p2, p3, p4⟩ := hf _ (Below.refl _ _).drew
      clear hf
      go_region_with (first
          | (go_at_call 46; (with_reducible refine (EP.out _ (bstep HB1.out.below (Below.refl _ _).drew)).mono ?_); intro e wa hnew; obtain ⟨Aa, na, ca, rfl, howna, hba⟩ := hnew.form'; have HBa : Hid (Below w1.heap.size w1 wa) := Below.trans (Below.refl _ _).drew hba; obtain ⟨q0, q1, q2, q3, q4⟩ := HF.out _ HBa.out; have hcva : (convert 50 9 (.slice Aa na ca)).run Try.prog wa = .ok (.string ⟨full.toArray⟩) wa := howna.bs.conv; have HOa := hid howna; clear hba hnew howna)
          | (go_at_call 47; (with_reducible refine (ER.out _ (bstep HB1.out.below HBa.out)).mono ?_); intro e wb hnew; obtain ⟨Ab, nb, cb, rfl, hownb, hbb⟩ := hnew.form'; have HBb := hid (bstep HBa.out hbb); obtain ⟨r0, r1, r2, r3, r4⟩ := HF.out _ HBb.out; have hcvb : (convert 50 9 (.slice Ab nb cb)).run Try.prog wb = .ok (.string ⟨full.toArray⟩) wb := hownb.bs.conv; have hcva : (convert 50 9 (.slice Aa na ca)).run Try.prog wb = .ok (.string ⟨full.toArray⟩) wb := (HOa.out.below hbb).bs.conv; clear hbb hnew hownb)
          | (go_at_call 12; refine (vWorks_any _).mono ?_; rintro e wc ⟨rfl, hbc⟩; have HBc := hid (bstep HBb.out hbc); clear hbc))
      all_goals
        go_wp2_with fail
        go_ret
        exact ⟨rfl, bstep HB1.out.below HBc.out⟩


theorem own : ownKnob Try.prog.godebug = none := by kernel_rfl
theorem laidOut : laidOutB Try.prog = true := by kernel_rfl

set_option maxRecDepth 100000 in
theorem contract (H : Type) (enc : TypeId × Value → H) (W : World) (base : Nat) (args : Array Value) (ds gs : List (DataW H)) (before : List MemPlace)
    (hval0 : ∀ (j : Nat) t v, Try.f8.params[j]? = some t → args[j]? = some v → Value.okWide Try.prog W .any base t v)
    (hW : DataW.Whole enc Try.prog Try.f8.params.toList Rows.valueEncodesSpec.vars false W args.toList ds gs before) (hk : Rows.uptoSmall H (ds ++ gs) = true)
    (hsz : (DataW.weightsEach Try.prog (Try.f8.params.toList ++ (Rows.OpenSpec.upto Rows.valueEncodesSpec).bare.plain.varTypes Try.prog) (ds ++ gs)).all (· ≤ reachBytes) = true) :
    Calls Try.prog 8 args W fun e W' => ∃ v, e = .returned v ∧ Rows.valueEncodesSpec.post enc Try.prog Try.f8 false true false false W args v W' := by
  have hval : ∀ (j : Nat) t v, Try.f8.params[j]? = some t → args[j]? = some v → Value.okWide Try.prog W .any base t v := hval0
  have hW' := hW
  obtain ⟨p, q, hA0, hV, rfl, hfz, hnd⟩ := hW
  have hA : DataW.TrodAll enc Try.prog W 0 (fun _ => true) true Try.f8.params.toList args.toList ds p := hA0
  rw [Try.params8] at hA hval hsz
  obtain ⟨v0, vs0, d0, ds0, p0, q0, hargs, rfl, rfl, h0, r0⟩ := trodAll_cons hA
  obtain ⟨v1, vs1, d1, ds1, p1, q1, rfl, rfl, rfl, h1, r1⟩ := trodAll_cons r0
  obtain ⟨rfl, rfl, rfl⟩ := trodAll_nil r1
  obtain rfl : args = #[v0, v1] := by cases args; simp_all
  obtain ⟨rfl, rfl⟩ := trodVars_none hV
  have hkb := of_decide_eq_true hk
  simp only [List.append_nil, Rows.uptoBulkAll] at hkb
  have k0 := h0
  have lt0 : ∀ x ∈ p0, x.block < W.heap.size := by obtain ⟨m, hm⟩ := k0; exact DataW.trod_lt m _ _ _ hm
  obtain ⟨l0, b0⟩ := open_bytes (hval 0 50 v0 rfl rfl) h0
  have k1 := h1
  have lt1 : ∀ x ∈ p1, x.block < W.heap.size := by obtain ⟨m, hm⟩ := k1; exact DataW.trod_lt m _ _ _ hm
  have z1 : ∀ n ∈ d1.weights Try.prog 26, n ≤ reachBytes := fun n hn => by have := List.all_eq_true.1 hsz n (DataW.weights_mem_each (j := 1) (t := 26) (d := d1) rfl rfl n hn); simpa using this
  obtain ⟨l1, b1, m1⟩ := open_valueM (hval 1 26 v1 rfl rfl) h1 z1
  clear hA0 hval0
  refine (walk W v0 l0 b0 v1 l1 b1 (by omega)).mono fun e W' ⟨he, bel⟩ => ?_
  subst he
  exact ⟨_, rfl, _, _, _, [], _, [], hW', trodAll_mk1 (shut_bool Try.underlying4 _), (trodAll_cons_mk (Below.trod laidOut (by kernel_rfl) (of_decide_eq_true (by kernel_rfl)) k0 bel lt0) (trodAll_cons_mk (Below.trod laidOut (by kernel_rfl) (of_decide_eq_true (by kernel_rfl)) k1 bel lt1) trodAll_mk0)), rfl, bel.frame _, fun h => by cases h⟩

set_option maxRecDepth 100000 in
theorem lifted (os : Os) (started : os.Started) (H : Type) (enc : TypeId × Value → H) (F : Stop.Interp) :
    ReturnsInHanded {} Try.checked os 8 .any ((Rows.OpenSpec.upto Rows.valueEncodesSpec).pre6 enc Try.prog Try.f8 Rows.valueEncodesUptoRow.domain false) (((Rows.OpenSpec.upto Rows.valueEncodesSpec).at F).post enc Try.prog Try.f8 false true false false) := by
  refine returnsInHanded_of_cond_sized (C := Try.checked) (s := Rows.OpenSpec.upto Rows.valueEncodesSpec) (k := Rows.uptoSmall) rfl own started (by kernel_rfl) Try.func8
    (OpenSpec.witness (enc := enc) (C := Try.checked) (s := Rows.OpenSpec.upto Rows.valueEncodesSpec) (k := Rows.uptoSmall) rfl false ⟨#[], #[.slice none 0 0, .agg #[.int .i64 0, .int .i64 0, .string ByteArray.empty, .slice none 0 0, .slice none 0 0]], []⟩ 8 (by kernel_rfl) (by kernel_rfl) (by kernel_rfl)
      (x := ([.nil, .agg [.lit (.int .i64 0), .lit (.int .i64 0), .lit (.string []), .nil, .nil]], [], [])) (by kernel_rfl) rfl (by kernel_rfl)) ?_
  intro W base args ds gs before hval hW _ hk hsz _
  exact contract H enc W base args ds gs before hval hW hk hsz

/-- THE STATEMENT. -/
theorem proved : Rows.ValueEncodesUptoSaid :=
  OpenClaim.holds_of_cond 8 Try.f8 rfl rfl rfl rfl rfl rfl rfl ⟨rfl, rfl, rfl, rfl, rfl⟩ rfl rfl rfl rfl rfl (by kernel_rfl) Try.func8 (by kernel_rfl)
    (of_decide_eq_true (by kernel_rfl)) (by unfold Func.isWrapper; first | (rw [if_pos (by decide +kernel)]; kernel_rfl) | (rw [if_neg (by decide +kernel)]; exact ⟨rfl, rfl⟩))
    (fun os started H enc _ F => lifted os started H enc F)
#print axioms proved
end Go.Proofs.Ytpoofeiajmkfdaa.valueEncodes
