/-
  WHAT IS PROVED: the statement WireReads of layer 1 (Rows.WireReadsSaid): for every input, of any size, the Go function workflowlaw01.WireReads returns true, and each argument reads afterwards as it read before. CONDITIONS: none beyond the row's own.
-/
import Derived.Test.YtimphdnnnhgcgaaRows
import Derived.Test.YtimphdnnnhgcgaaReads
import Derived.ProofKit
import Derived.OpenShut
import Derived.ShutString
import Derived.ChangeOld
namespace Go.Proofs.Ytimphdnnnhgcgaa.wireReads
open Go.ChangeShapes Go.WideShapes Go.ChangeAt Go.RowKit
open Go.ChangeMaps (open_string shut_string)
set_option linter.unusedVariables false

set_option maxRecDepth 100000 in
set_option maxHeartbeats 2000000 in
theorem walk (w : World) (v0 : Value) (l : List UInt8) (h0 : Bs w v0 l) (v1 : Value) (n : Nat) (h1 : Rs w v1 n) :
    Calls Try.prog 4 #[v0, v1] w fun e w' => e = .returned (.bool true) ∧ Below w.heap.size w w' := by
  obtain ⟨A, c, rfl⟩ := h0.form
  have H1 := hid h1
  obtain ⟨A1, c1, rfl, hn1, hc1, _⟩ := h1
  have hnm : n ≤ 9223372036854775807 := by unfold maxLen at hc1; omega
  clear hn1 hc1
  by_cases hl : 300 < l.length
  · go_enter Try.func4, Try.ntmps4
    go_wp2_with (go_at_call 10; refine (works_any _).mono ?_; rintro en w1 ⟨rfl, hb1⟩)
    go_ret
    exact ⟨rfl, hb1⟩
  · by_cases hrl : 40 < n
    · go_enter Try.func4, Try.ntmps4
      go_wp2_with (go_at_call 10; refine (works_any _).mono ?_; rintro en w1 ⟨rfl, hb1⟩)
      go_ret
      exact ⟨rfl, hb1⟩
    · have hl' : l.length ≤ 300 := by omega
      have hn' : n ≤ 40 := by omega
      clear hl hrl hnm
      go_enter Try.func4, Try.ntmps4
      go_wp2_with fail
      refine (open_any _ l _ h0 (by omega)).mono ?_
      rintro en w1 ⟨g1, rfl, hr1, hb1, hg1⟩
      go_wp2_with fail
      refine (ropen_any _ l _ (h0.below hb1) (by omega)).mono ?_
      rintro en w2 ⟨g2, rfl, hr2, hb2, hg2⟩
      have hB2 := bstep hb1 hb2
      have hg2' : w.heap.size ≤ g2 := Nat.le_trans hb1.size hg2
      have HB : Hid (∃ l' e', Both w.heap.size g1 g2 w w2 l' e') := ⟨l, 0, hB2, hr1.below hb2, hr2⟩
      clear hr1 hr2 hb1 hb2 hB2 hg2
      go_wp2_with fail
      go_loopw [26] (fun v26 wr => ∃ k : Nat, k ≤ n ∧ v26 = .int .i64 (k : Int) ∧ Hid (∃ l' e', Both w.heap.size g1 g2 w wr l' e')) (fun v26 _ => n - (intOf v26).toNat)
      case atStart => exact ⟨0, Nat.zero_le _, rfl, HB.out⟩
      case round =>
        obtain ⟨k, hk, rfl, hboth⟩ := hrel
        have HBO := hid hboth.out
        obtain ⟨l', e', hbo⟩ := hboth.out
        by_cases hlt : k < n
        · have h1' := H1.out.below (hbo.below)
          obtain ⟨A2, c2, hv, _, _, heach⟩ := h1'
          injection hv with z1 z2 z3
          subst z1 z3
          obtain ⟨b, o, kk, lo, hi, hA, q0, q1, q2⟩ := heach k hlt
          subst hA
          clear z2 heach
          have hBa := bstep hbo.below (below_alloc wr (.cells #[.int .i64 kk, .int .i64 lo, .int .i64 hi] 35))
          have hwa := hbo.wr.below (below_alloc wr (.cells #[.int .i64 kk, .int .i64 lo, .int .i64 hi] 35))
          have hra := hbo.rr.below (below_alloc wr (.cells #[.int .i64 kk, .int .i64 lo, .int .i64 hi] 35))
          clear hbo hboth
          go_wp2_with fail
          refine (play_any w.heap.size g1 g2 l' e' kk lo hi _ hwa hra hg1 hg2' hBa.size).mono ?_
          rintro en w4 ⟨rfl, l4, e4, hb4⟩
          have HB4 : Hid (∃ l' e', Both w.heap.size g1 g2 w w4 l' e') := ⟨l4, e4, hBa.trans hb4.below, hb4.wr, hb4.rr⟩
          clear hBa hwa hra hb4 q0 q1 q2
          go_wp2
          go_roundw
          case rel => exact ⟨k + 1, by omega, by go_num, HB4.out⟩
          case measure => simp [intOf]; omega
        · go_wp2_with (go_at_call 10; refine (works_any _).mono ?_; rintro en w3 ⟨rfl, hb3⟩)
          go_ret
          exact ⟨rfl, bstep hbo.below hb3⟩


theorem own : ownKnob Try.prog.godebug = none := by kernel_rfl
theorem laidOut : laidOutB Try.prog = true := by kernel_rfl

set_option maxRecDepth 100000 in
theorem lifted (os : Os) (started : os.Started) (H : Type) (enc : TypeId × Value → H) :
    ReturnsInHanded {} Try.checked os 4 .any (Rows.wireReadsSpec.pre6 enc Try.prog Try.f4 Rows.wireReadsRow.domain false) (Rows.wireReadsSpec.post enc Try.prog Try.f4 false true false false) := by
  refine returnsInHanded_of_change (C := Try.checked) own started (by kernel_rfl) Try.func4
    (ChangeSpec.witness6 (enc := enc) (C := Try.checked) false ⟨#[], #[.slice none 0 0, .slice none 0 0], []⟩ 8 (by kernel_rfl) (by kernel_rfl) (by kernel_rfl) (by kernel_rfl)) ?_
  intro W base args ds gs before hval0 hW hcnd _
  have hval : ∀ (j : Nat) t v, Try.f4.params[j]? = some t → args[j]? = some v → Value.okWide Try.prog W .any base t v := hval0
  have hW' := hW
  obtain ⟨p, q, hA0, hV, rfl, hfz, hnd⟩ := hW
  have hA : DataW.TrodAll enc Try.prog W 0 (fun _ => true) true Try.f4.params.toList args.toList ds p := hA0
  rw [Try.params4] at hA hval
  obtain ⟨v0, vs0, d0, ds0, p0, q0, hargs, rfl, rfl, h0, r0⟩ := trodAll_cons hA
  obtain ⟨v1, vs1, d1, ds1, p1, q1, rfl, rfl, rfl, h1, r1⟩ := trodAll_cons r0
  obtain ⟨rfl, rfl, rfl⟩ := trodAll_nil r1
  obtain rfl : args = #[v0, v1] := by cases args; simp_all
  obtain ⟨rfl, rfl⟩ := trodVars_none hV
  have k0 := h0
  have lt0 : ∀ x ∈ p0, x.block < W.heap.size := by obtain ⟨m, hm⟩ := k0; exact DataW.trod_lt m _ _ _ hm
  obtain ⟨l0, b0⟩ := open_bytes (hval 0 22 v0 rfl rfl) h0
  have k1 := h1
  have lt1 : ∀ x ∈ p1, x.block < W.heap.size := by obtain ⟨m, hm⟩ := k1; exact DataW.trod_lt m _ _ _ hm
  obtain ⟨l1, b1⟩ := open_reads (hval 1 29 v1 rfl rfl) h1
  clear hA0 hval0
  refine (walk W v0 l0 b0 v1 l1 b1).mono fun e W' ⟨he, bel⟩ => ?_
  subst he
  exact ⟨_, rfl, _, _, _, [], _, [], hW', trodAll_mk1 (shut_bool Try.underlying4 _), (trodAll_cons_mk (Below.trod laidOut (by kernel_rfl) (of_decide_eq_true (by kernel_rfl)) k0 bel lt0) (trodAll_cons_mk (Below.trod laidOut (by kernel_rfl) (of_decide_eq_true (by kernel_rfl)) k1 bel lt1) trodAll_mk0)), rfl, bel.frame _, fun h => by cases h⟩

theorem over : Rows.wireReadsRow.holds Try.pinned (OpenSpec.ofChange Rows.wireReadsSpec) :=
  OpenClaim.holds_of_wide 4 Try.f4 rfl rfl rfl rfl rfl rfl rfl ⟨rfl, rfl, rfl, rfl, rfl⟩ rfl rfl rfl rfl rfl (by kernel_rfl) Try.func4 (by kernel_rfl)
    (of_decide_eq_true (by kernel_rfl)) (by unfold Func.isWrapper; first | (rw [if_pos (by decide +kernel)]; kernel_rfl) | (rw [if_neg (by decide +kernel)]; exact ⟨rfl, rfl⟩))
    (fun os started H enc _ => lifted os started H enc)

/-- THE STATEMENT. -/
theorem proved : Rows.WireReadsSaid := over
#print axioms proved
end Go.Proofs.Ytimphdnnnhgcgaa.wireReads
