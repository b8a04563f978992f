/-
  WHAT IS PROVED: the statement WireRange of layer 1 (Rows.WireRangeSaid): for every input, of any size, the Go function workflowlaw01.WireRange returns true, and each argument reads afterwards as it read before. CONDITIONS: none beyond the row's own.
-/
import Derived.Test.YtimphdnnnhgcgaaRows
import Derived.Test.YtimphdnnnhgcgaaBack
import Derived.ProofKit
import Derived.OpenShut
import Derived.ShutString
import Derived.ChangeOld
namespace Go.Proofs.Ytimphdnnnhgcgaa.wireRange
open Go.ChangeShapes Go.WideShapes Go.ChangeAt Go.RowKit
open Go.ChangeMaps (open_string shut_string)
set_option linter.unusedVariables false

set_option maxRecDepth 100000 in
set_option maxHeartbeats 1000000 in
theorem walk (w : World) (n : Int) (hn : (Lit.int .i64 n).wf = true) (lo : Int) (_hl : (Lit.int .i64 lo).wf = true) (hi : Int) (_hh : (Lit.int .i64 hi).wf = true) :
    Calls Try.prog 8 #[.int .i64 n, .int .i64 lo, .int .i64 hi] w fun e w' => e = .returned (.bool true) ∧ Below w.heap.size w w' := by
  have hn1 := int_lo hn
  have hn2 := int_hi hn
  clear hn _hl _hh
  have Cn := hid (fun W => rputInt_any _ [] n W (Bs.nil W) (by simp) hn1 hn2)
  have hEn := Wi.enc_len n hn1 hn2
  by_cases hin : lo ≤ n ∧ n ≤ hi
  · obtain ⟨hin1, hin2⟩ := hin
    have HI := hid (rInt_enc n [] lo hi hn1 hn2 hin1 hin2)
    rw [List.append_nil] at HI
    rw [List.nil_append] at Cn
    generalize Wi.enc n = E at Cn hEn HI
    clear hn1 hn2
    go_enter Try.func8, Try.ntmps8
    go_wp2_with fail
    refine (Cn.out _).mono ?_
    rintro en w1 ⟨v1, rfl, hown1, hb1⟩
    go_wp2_with fail
    refine (open_any _ E _ hown1.bs (by omega)).mono ?_
    rintro en w2 ⟨g, rfl, hr2, hb2, hg⟩
    have hB2 := bstep hb1 hb2
    have hs1 := hb1.size
    have hs2 := hB2.size
    have hg' : w.heap.size ≤ g := by omega
    clear hown1 hb1 hb2 hg
    go_wp2_with fail
    refine (int_any g E 0 lo hi _ hr2).mono ?_
    intro en w3 ht
    obtain ⟨rfl, hr3, hch3⟩ := ht.at HI.out
    have hB3 := hB2.trans (hch3.below hg' hs2)
    clear ht hr2 hB2 hch3
    go_wp2_with fail
    refine (err_any g [] 0 _ hr3).mono ?_
    rintro en w' ⟨rfl, rfl⟩
    clear hr3
    go_wp2_with fail
    refine (works_any _).mono ?_
    rintro en w4 ⟨rfl, hb4⟩
    go_wp2_with fail
    go_ret
    exact ⟨rfl, bstep hB3 hb4⟩
  · have HI := hid (rInt_enc_out n [] lo hi hn1 hn2 (by omega))
    rw [List.append_nil] at HI
    rw [List.nil_append] at Cn
    generalize Wi.enc n = E at Cn hEn HI
    clear hn1 hn2
    have hcs : n < lo ∨ (lo ≤ n ∧ hi < n) := by omega
    clear hin
    rcases hcs with hin | ⟨hin1, hin2⟩
    all_goals
      go_enter Try.func8, Try.ntmps8
      go_wp2_with fail
      refine (Cn.out _).mono ?_
      rintro en w1 ⟨v1, rfl, hown1, hb1⟩
      go_wp2_with fail
      refine (open_any _ E _ hown1.bs (by omega)).mono ?_
      rintro en w2 ⟨g, rfl, hr2, hb2, hg⟩
      have hB2 := bstep hb1 hb2
      have hs1 := hb1.size
      have hs2 := hB2.size
      have hg' : w.heap.size ≤ g := by omega
      clear hown1 hb1 hb2 hg
      go_wp2_with fail
      refine (int_any g E 0 lo hi _ hr2).mono ?_
      intro en w3 ht
      obtain ⟨rfl, hr3, hch3⟩ := ht.at HI.out
      have hB3 := hB2.trans (hch3.below hg' hs2)
      clear ht hr2 hB2 hch3
      go_wp2_with fail
      refine (err_any g [] 14 _ hr3).mono ?_
      rintro en w' ⟨rfl, rfl⟩
      go_wp2_with fail
      refine (left_any g [] 14 _ hr3).mono ?_
      rintro en w' ⟨rfl, rfl⟩
      clear hr3
      go_wp2_with fail
      refine (works_any _).mono ?_
      rintro en w4 ⟨rfl, hb4⟩
      go_wp2_with fail
      go_ret
      exact ⟨rfl, bstep hB3 hb4⟩


theorem own : ownKnob Try.prog.godebug = none := by kernel_rfl
theorem laidOut : laidOutB Try.prog = true := by kernel_rfl

set_option maxRecDepth 100000 in
theorem lifted (os : Os) (started : os.Started) (H : Type) (enc : TypeId × Value → H) :
    ReturnsInHanded {} Try.checked os 8 .any (Rows.wireRangeSpec.pre6 enc Try.prog Try.f8 Rows.wireRangeRow.domain false) (Rows.wireRangeSpec.post enc Try.prog Try.f8 false true false false) := by
  refine returnsInHanded_of_change (C := Try.checked) own started (by kernel_rfl) Try.func8
    (ChangeSpec.witness6 (enc := enc) (C := Try.checked) false ⟨#[], #[.int .i64 0, .int .i64 0, .int .i64 0], []⟩ 8 (by kernel_rfl) (by kernel_rfl) (by kernel_rfl) (by kernel_rfl)) ?_
  intro W base args ds gs before hval0 hW hcnd _
  have hval : ∀ (j : Nat) t v, Try.f8.params[j]? = some t → args[j]? = some v → Value.okWide Try.prog W .any base t v := hval0
  have hW' := hW
  obtain ⟨p, q, hA0, hV, rfl, hfz, hnd⟩ := hW
  have hA : DataW.TrodAll enc Try.prog W 0 (fun _ => true) true Try.f8.params.toList args.toList ds p := hA0
  rw [Try.params8] at hA hval
  obtain ⟨v0, vs0, d0, ds0, p0, q0, hargs, rfl, rfl, h0, r0⟩ := trodAll_cons hA
  obtain ⟨v1, vs1, d1, ds1, p1, q1, rfl, rfl, rfl, h1, r1⟩ := trodAll_cons r0
  obtain ⟨v2, vs2, d2, ds2, p2, q2, rfl, rfl, rfl, h2, r2⟩ := trodAll_cons r1
  obtain ⟨rfl, rfl, rfl⟩ := trodAll_nil r2
  obtain rfl : args = #[v0, v1, v2] := by cases args; simp_all
  obtain ⟨rfl, rfl⟩ := trodVars_none hV
  obtain ⟨a0, rfl, rfl, rfl, w0⟩ := open_int Try.underlying3 (hval 0 3 v0 rfl rfl) h0
  obtain ⟨a1, rfl, rfl, rfl, w1⟩ := open_int Try.underlying3 (hval 1 3 v1 rfl rfl) h1
  obtain ⟨a2, rfl, rfl, rfl, w2⟩ := open_int Try.underlying3 (hval 2 3 v2 rfl rfl) h2
  clear hA0 hval0
  refine (walk W a0 w0 a1 w1 a2 w2).mono fun e W' ⟨he, bel⟩ => ?_
  subst he
  exact ⟨_, rfl, _, _, _, [], _, [], hW', trodAll_mk1 (shut_bool Try.underlying4 _), (trodAll_cons_mk (shut_int Try.underlying3 w0) (trodAll_cons_mk (shut_int Try.underlying3 w1) (trodAll_cons_mk (shut_int Try.underlying3 w2) trodAll_mk0))), rfl, bel.frame _, fun h => by cases h⟩

theorem over : Rows.wireRangeRow.holds Try.pinned (OpenSpec.ofChange Rows.wireRangeSpec) :=
  OpenClaim.holds_of_wide 8 Try.f8 rfl rfl rfl rfl rfl rfl rfl ⟨rfl, rfl, rfl, rfl, rfl⟩ rfl rfl rfl rfl rfl (by kernel_rfl) Try.func8 (by kernel_rfl)
    (of_decide_eq_true (by kernel_rfl)) (by unfold Func.isWrapper; first | (rw [if_pos (by decide +kernel)]; kernel_rfl) | (rw [if_neg (by decide +kernel)]; exact ⟨rfl, rfl⟩))
    (fun os started H enc _ => lifted os started H enc)

/-- THE STATEMENT. -/
theorem proved : Rows.WireRangeSaid := over
#print axioms proved
end Go.Proofs.Ytimphdnnnhgcgaa.wireRange
