/-
  WHAT IS PROVED: the statement WirePrefix of layer 1 (Rows.WirePrefixSaid): for every input, of any size, the Go function workflowlaw01.WirePrefix returns true, and each argument reads afterwards as it read before. CONDITIONS: none beyond the row's own.
-/
import Derived.Test.YtimphdnnnhgcgaaRows
import Derived.Test.YtimphdnnnhgcgaaBack
import Derived.ProofKit
import Derived.OpenShut
import Derived.ShutString
import Derived.ChangeOld
namespace Go.Proofs.Ytimphdnnnhgcgaa.wirePrefix
open Go.ChangeShapes Go.WideShapes Go.ChangeAt Go.RowKit
open Go.ChangeMaps (open_string shut_string)
set_option linter.unusedVariables false

set_option maxRecDepth 100000 in
set_option maxHeartbeats 1000000 in
theorem walk (w : World) (m : Int) (hm : (Lit.int .i64 m).wf = true) (n : Int) (hn : (Lit.int .i64 n).wf = true) :
    Calls Try.prog 7 #[.int .i64 m, .int .i64 n] w fun e w' => e = .returned (.bool true) ∧ Below w.heap.size w w' := by
  have hm1 := int_lo hm
  have hm2 := int_hi hm
  have hn1 := int_lo hn
  have hn2 := int_hi hn
  clear hm hn
  have Cm := hid (fun W => putInt_nil m W hm1 hm2)
  have Cn := hid (fun W => putInt_nil n W hn1 hn2)
  have HP := hid (fun h => enc_prefix hm1 hm2 hn1 hn2 h)
  have HQ := hid (fun h => enc_prefix hn1 hn2 hm1 hm2 h)
  have hEm := Wi.enc_len m hm1 hm2
  have hEn := Wi.enc_len n hn1 hn2
  clear hm1 hm2 hn1 hn2
  by_cases hmn : m = n
  · subst hmn
    generalize Wi.enc m = E at Cm Cn HP HQ hEm hEn
    have hcmp : ¬ ((E.length : Int) < E.length) := by omega
    go_enter Try.func7, Try.ntmps7
    go_wp2_with fail
    refine (Cm.out _).mono ?_
    intro en w1 hnew
    obtain ⟨A1, c1, rfl, hown1, hb1⟩ := hnew.form
    go_wp2_with fail
    refine (Cn.out _).mono ?_
    intro en w2 hnew2
    obtain ⟨A2, c2, rfl, hown2, hb2⟩ := hnew2.form
    have hB2 := bstep hb1 hb2
    have hr1 := (hown1.below hb2).bs
    obtain ⟨A3, hcut, hr3⟩ := hown2.bs.upto E.length (Nat.le_refl _)
    rw [List.take_length] at hr3
    clear hnew hnew2 hown1 hown2 hb1 hb2
    go_wp2_with fail
    refine (equal_yes hr1 hr3 rfl).mono ?_
    rintro en w3 ⟨rfl, hb3⟩
    have hB3 := bstep hB2 hb3
    clear hB2 hb3 hr1 hr3
    go_wp2_with fail
    refine (works_any _).mono ?_
    rintro en w4 ⟨rfl, hb4⟩
    go_wp2_with fail
    go_ret
    exact ⟨rfl, bstep hB3 hb4⟩
  · have HNE := hid hmn
    have hmn' : ((m : Int) == n) = false := by simpa using hmn
    clear hmn
    generalize Wi.enc m = E at Cm Cn HP HQ hEm hEn
    generalize Wi.enc n = F at Cm Cn HP HQ hEm hEn
    by_cases hlen : F.length < E.length
    · go_enter Try.func7, Try.ntmps7
      go_wp2_with fail
      refine (Cm.out _).mono ?_
      intro en w1 hnew
      obtain ⟨A1, c1, rfl, hown1, hb1⟩ := hnew.form
      go_wp2_with fail
      refine (Cn.out _).mono ?_
      intro en w2 hnew2
      obtain ⟨A2, c2, rfl, hown2, hb2⟩ := hnew2.form
      have hB2 := bstep hb1 hb2
      have hr1 := (hown1.below hb2).bs
      have hr2 := hown2.bs
      obtain ⟨A3, hcut, hr3⟩ := hr1.upto F.length (by omega)
      clear hnew hnew2 hown1 hown2 hb1 hb2
      go_wp2_with fail
      refine (equal_no hr2 hr3 (fun h => HNE.out (HQ.out h).symm)).mono ?_
      rintro en w3 ⟨rfl, hb3⟩
      have hB3 := bstep hB2 hb3
      clear hB2 hb3 hr1 hr2 hr3
      go_wp2_with fail
      refine (works_any _).mono ?_
      rintro en w4 ⟨rfl, hb4⟩
      go_wp2_with fail
      go_ret
      exact ⟨rfl, bstep hB3 hb4⟩
    · go_enter Try.func7, Try.ntmps7
      go_wp2_with fail
      refine (Cm.out _).mono ?_
      intro en w1 hnew
      obtain ⟨A1, c1, rfl, hown1, hb1⟩ := hnew.form
      go_wp2_with fail
      refine (Cn.out _).mono ?_
      intro en w2 hnew2
      obtain ⟨A2, c2, rfl, hown2, hb2⟩ := hnew2.form
      have hB2 := bstep hb1 hb2
      have hr1 := (hown1.below hb2).bs
      have hr2 := hown2.bs
      obtain ⟨A3, hcut, hr3⟩ := hr2.upto E.length (by omega)
      clear hnew hnew2 hown1 hown2 hb1 hb2
      go_wp2_with fail
      refine (equal_no hr1 hr3 (fun h => HNE.out (HP.out h))).mono ?_
      rintro en w3 ⟨rfl, hb3⟩
      have hB3 := bstep hB2 hb3
      clear hB2 hb3 hr1 hr2 hr3
      go_wp2_with fail
      refine (works_any _).mono ?_
      rintro en w4 ⟨rfl, hb4⟩
      go_wp2_with fail
      go_ret
      exact ⟨rfl, bstep hB3 hb4⟩


theorem own : ownKnob Try.prog.godebug = none := by kernel_rfl
theorem laidOut : laidOutB Try.prog = true := by kernel_rfl

set_option maxRecDepth 100000 in
theorem lifted (os : Os) (started : os.Started) (H : Type) (enc : TypeId × Value → H) :
    ReturnsInHanded {} Try.checked os 7 .any (Rows.wirePrefixSpec.pre6 enc Try.prog Try.f7 Rows.wirePrefixRow.domain false) (Rows.wirePrefixSpec.post enc Try.prog Try.f7 false true false false) := by
  refine returnsInHanded_of_change (C := Try.checked) own started (by kernel_rfl) Try.func7
    (ChangeSpec.witness6 (enc := enc) (C := Try.checked) false ⟨#[], #[.int .i64 0, .int .i64 0], []⟩ 8 (by kernel_rfl) (by kernel_rfl) (by kernel_rfl) (by kernel_rfl)) ?_
  intro W base args ds gs before hval0 hW hcnd _
  have hval : ∀ (j : Nat) t v, Try.f7.params[j]? = some t → args[j]? = some v → Value.okWide Try.prog W .any base t v := hval0
  have hW' := hW
  obtain ⟨p, q, hA0, hV, rfl, hfz, hnd⟩ := hW
  have hA : DataW.TrodAll enc Try.prog W 0 (fun _ => true) true Try.f7.params.toList args.toList ds p := hA0
  rw [Try.params7] at hA hval
  obtain ⟨v0, vs0, d0, ds0, p0, q0, hargs, rfl, rfl, h0, r0⟩ := trodAll_cons hA
  obtain ⟨v1, vs1, d1, ds1, p1, q1, rfl, rfl, rfl, h1, r1⟩ := trodAll_cons r0
  obtain ⟨rfl, rfl, rfl⟩ := trodAll_nil r1
  obtain rfl : args = #[v0, v1] := by cases args; simp_all
  obtain ⟨rfl, rfl⟩ := trodVars_none hV
  obtain ⟨a0, rfl, rfl, rfl, w0⟩ := open_int Try.underlying3 (hval 0 3 v0 rfl rfl) h0
  obtain ⟨a1, rfl, rfl, rfl, w1⟩ := open_int Try.underlying3 (hval 1 3 v1 rfl rfl) h1
  clear hA0 hval0
  refine (walk W a0 w0 a1 w1).mono fun e W' ⟨he, bel⟩ => ?_
  subst he
  exact ⟨_, rfl, _, _, _, [], _, [], hW', trodAll_mk1 (shut_bool Try.underlying4 _), (trodAll_cons_mk (shut_int Try.underlying3 w0) (trodAll_cons_mk (shut_int Try.underlying3 w1) trodAll_mk0)), rfl, bel.frame _, fun h => by cases h⟩

theorem over : Rows.wirePrefixRow.holds Try.pinned (OpenSpec.ofChange Rows.wirePrefixSpec) :=
  OpenClaim.holds_of_wide 7 Try.f7 rfl rfl rfl rfl rfl rfl rfl ⟨rfl, rfl, rfl, rfl, rfl⟩ rfl rfl rfl rfl rfl (by kernel_rfl) Try.func7 (by kernel_rfl)
    (of_decide_eq_true (by kernel_rfl)) (by unfold Func.isWrapper; first | (rw [if_pos (by decide +kernel)]; kernel_rfl) | (rw [if_neg (by decide +kernel)]; exact ⟨rfl, rfl⟩))
    (fun os started H enc _ => lifted os started H enc)

/-- THE STATEMENT. -/
theorem proved : Rows.WirePrefixSaid := over
#print axioms proved
end Go.Proofs.Ytimphdnnnhgcgaa.wirePrefix
