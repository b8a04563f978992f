/-
  WHAT IS PROVED: the statement WirePuts of layer 1 (Rows.WirePutsSaid): for every input, of any size, the Go function workflowlaw01.WirePuts returns true, and each argument reads afterwards as it read before. CONDITIONS: none beyond the row's own.
-/
import Derived.Test.YtimphdnnnhgcgaaRows
import Derived.Test.YtimphdnnnhgcgaaLaw
import Derived.ProofKit
import Derived.OpenShut
import Derived.ShutString
import Derived.ChangeOld
namespace Go.Proofs.Ytimphdnnnhgcgaa.wirePuts
open Go.ChangeShapes Go.WideShapes Go.ChangeAt Go.RowKit
open Go.ChangeMaps (open_string shut_string)
set_option linter.unusedVariables false

set_option maxRecDepth 100000 in
set_option maxHeartbeats 1000000 in
theorem walk (w : World) (v0 : Value) (bs : List UInt8) (h0 : Bs w v0 bs) (n : Int) (hn : (Lit.int .i64 n).wf = true) (s : ByteArray) (hs : s.size ≤ maxLen) (b : Bool) :
    Calls Try.prog 3 #[v0, .int .i64 n, .string s, .bool b] w fun e w' => e = .returned (.bool true) ∧ Below w.heap.size w w' := by
  have hn1 := int_lo hn
  have hn2 := int_hi hn
  obtain ⟨A, c, rfl⟩ := h0.form
  clear hn hs
  by_cases hbl : 100 < bs.length
  · go_enter Try.func3, Try.ntmps3
    go_wp2_with (go_at_call 10; refine (works_any _).mono ?_; rintro en w1 ⟨rfl, hb1⟩)
    go_ret
    exact ⟨rfl, hb1⟩
  · by_cases hsl : 300 < s.size
    · go_enter Try.func3, Try.ntmps3
      go_wp2_with (go_at_call 10; refine (works_any _).mono ?_; rintro en w1 ⟨rfl, hb1⟩)
      go_ret
      exact ⟨rfl, hb1⟩
    · go_enter Try.func3, Try.ntmps3
      go_wp2_with fail
      refine (putInt_any _ bs n _ h0 (by omega) hn1 hn2).mono ?_
      rintro en w1 ⟨v1, rfl, hown1, hb1⟩
      go_wp2_with fail
      refine (rputInt_any _ bs n _ (h0.below hb1) (by omega) hn1 hn2).mono ?_
      rintro en w2 ⟨v2, rfl, hown2, hb2⟩
      go_wp2_with fail
      refine (equal_yes (hown1.below hb2).bs hown2.bs rfl).mono ?_
      rintro en w3 ⟨rfl, hb3⟩
      have hB3 := bstep (bstep hb1 hb2) hb3
      clear hb1 hb2 hb3 hown1 hown2
      go_wp2_with fail
      refine (putText_any _ bs s _ (h0.below hB3) (by omega) (by omega)).mono ?_
      rintro en w4 ⟨v4, rfl, hown4, hb4⟩
      have hB4 := bstep hB3 hb4
      go_wp2_with fail
      refine (rputText_any _ bs s _ (h0.below hB4) (by omega) (by omega)).mono ?_
      rintro en w5 ⟨v5, rfl, hown5, hb5⟩
      go_wp2_with fail
      refine (equal_yes (hown4.below hb5).bs hown5.bs rfl).mono ?_
      rintro en w6 ⟨rfl, hb6⟩
      have hB6 := bstep (bstep hB4 hb5) hb6
      clear hB3 hb4 hB4 hb5 hb6 hown4 hown5
      go_wp2_with fail
      refine (putBool_any _ bs b _ (h0.below hB6) (by omega)).mono ?_
      rintro en w7 ⟨v7, rfl, hown7, hb7⟩
      have hB7 := bstep hB6 hb7
      go_wp2_with fail
      refine (rputBool_any _ bs b _ (h0.below hB7) (by omega)).mono ?_
      rintro en w8 ⟨v8, rfl, hown8, hb8⟩
      go_wp2_with fail
      refine (equal_yes (hown7.below hb8).bs hown8.bs rfl).mono ?_
      rintro en w9 ⟨rfl, hb9⟩
      have hB9 := bstep (bstep hB7 hb8) hb9
      clear hB6 hb7 hB7 hb8 hb9 hown7 hown8
      go_wp2_with fail
      refine (works_any _).mono ?_
      rintro en w10 ⟨rfl, hb10⟩
      go_wp2_with fail
      go_ret
      exact ⟨rfl, bstep hB9 hb10⟩


theorem own : ownKnob Try.prog.godebug = none := by kernel_rfl
theorem laidOut : laidOutB Try.prog = true := by kernel_rfl

set_option maxRecDepth 100000 in
theorem lifted (os : Os) (started : os.Started) (H : Type) (enc : TypeId × Value → H) :
    ReturnsInHanded {} Try.checked os 3 .any (Rows.wirePutsSpec.pre6 enc Try.prog Try.f3 Rows.wirePutsRow.domain false) (Rows.wirePutsSpec.post enc Try.prog Try.f3 false true false false) := by
  refine returnsInHanded_of_change (C := Try.checked) own started (by kernel_rfl) Try.func3
    (ChangeSpec.witness6 (enc := enc) (C := Try.checked) false ⟨#[], #[.slice none 0 0, .int .i64 0, .string ByteArray.empty, .bool false], []⟩ 8 (by kernel_rfl) (by kernel_rfl) (by kernel_rfl) (by kernel_rfl)) ?_
  intro W base args ds gs before hval0 hW hcnd _
  have hval : ∀ (j : Nat) t v, Try.f3.params[j]? = some t → args[j]? = some v → Value.okWide Try.prog W .any base t v := hval0
  have hW' := hW
  obtain ⟨p, q, hA0, hV, rfl, hfz, hnd⟩ := hW
  have hA : DataW.TrodAll enc Try.prog W 0 (fun _ => true) true Try.f3.params.toList args.toList ds p := hA0
  rw [Try.params3] at hA hval
  obtain ⟨v0, vs0, d0, ds0, p0, q0, hargs, rfl, rfl, h0, r0⟩ := trodAll_cons hA
  obtain ⟨v1, vs1, d1, ds1, p1, q1, rfl, rfl, rfl, h1, r1⟩ := trodAll_cons r0
  obtain ⟨v2, vs2, d2, ds2, p2, q2, rfl, rfl, rfl, h2, r2⟩ := trodAll_cons r1
  obtain ⟨v3, vs3, d3, ds3, p3, q3, rfl, rfl, rfl, h3, r3⟩ := trodAll_cons r2
  obtain ⟨rfl, rfl, rfl⟩ := trodAll_nil r3
  obtain rfl : args = #[v0, v1, v2, v3] := by cases args; simp_all
  obtain ⟨rfl, rfl⟩ := trodVars_none hV
  have k0 := h0
  have lt0 : ∀ x ∈ p0, x.block < W.heap.size := by obtain ⟨m, hm⟩ := k0; exact DataW.trod_lt m _ _ _ hm
  obtain ⟨l0, b0⟩ := open_bytes (hval 0 22 v0 rfl rfl) h0
  obtain ⟨a1, rfl, rfl, rfl, w1⟩ := open_int Try.underlying3 (hval 1 3 v1 rfl rfl) h1
  obtain ⟨a2, rfl, rfl, rfl, w2⟩ := open_string Try.underlying9 (hval 2 9 v2 rfl rfl) h2
  obtain ⟨a3, rfl, rfl, rfl⟩ := open_bool Try.underlying4 (hval 3 4 v3 rfl rfl) h3
  clear hA0 hval0
  refine (walk W v0 l0 b0 a1 w1 a2 w2 a3).mono fun e W' ⟨he, bel⟩ => ?_
  subst he
  exact ⟨_, rfl, _, _, _, [], _, [], hW', trodAll_mk1 (shut_bool Try.underlying4 _), (trodAll_cons_mk (Below.trod laidOut (by kernel_rfl) (of_decide_eq_true (by kernel_rfl)) k0 bel lt0) (trodAll_cons_mk (shut_int Try.underlying3 w1) (trodAll_cons_mk (shut_string Try.underlying9 w2) (trodAll_cons_mk (shut_bool Try.underlying4 _) trodAll_mk0)))), rfl, bel.frame _, fun h => by cases h⟩

theorem over : Rows.wirePutsRow.holds Try.pinned (OpenSpec.ofChange Rows.wirePutsSpec) :=
  OpenClaim.holds_of_wide 3 Try.f3 rfl rfl rfl rfl rfl rfl rfl ⟨rfl, rfl, rfl, rfl, rfl⟩ rfl rfl rfl rfl rfl (by kernel_rfl) Try.func3 (by kernel_rfl)
    (of_decide_eq_true (by kernel_rfl)) (by unfold Func.isWrapper; first | (rw [if_pos (by decide +kernel)]; kernel_rfl) | (rw [if_neg (by decide +kernel)]; exact ⟨rfl, rfl⟩))
    (fun os started H enc _ => lifted os started H enc)

/-- THE STATEMENT. -/
theorem proved : Rows.WirePutsSaid := over
#print axioms proved
end Go.Proofs.Ytimphdnnnhgcgaa.wirePuts
