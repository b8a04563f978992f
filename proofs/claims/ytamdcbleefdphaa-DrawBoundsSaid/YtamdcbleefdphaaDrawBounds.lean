/-
  WHAT IS PROVED: the statement DrawBounds of layer 5 (Rows.DrawBoundsSaid): for every input, of any size, the Go function workflowlaw05.DrawBounds returns true, and each argument reads afterwards as it read before. CONDITIONS: none beyond the row's own.
-/
import Derived.Test.YtamdcbleefdphaaRows
import Derived.Test.YtamdcbleefdphaaDOpn
import Derived.Deep.QuietTactic
import Derived.BigQuiet
import Derived.ProofKit
import Derived.OpenShut
import Derived.ShutString
import Derived.ChangeOld
namespace Go.Proofs.Ytamdcbleefdphaa.drawBounds
open Go.ChangeShapes Go.WideShapes Go.ChangeAt Go.RowKit
open Go.ChangeMaps (open_string shut_string)
set_option linter.unusedVariables false

theorem box2 (w : World) (a b : Int) (B : Nat) (w0 W : World) (hw : B = w.heap.size) (h0 : Below (B + 1) (w.alloc (.cells #[.int .i64 a, .int .i64 b] 26)) w0) (h : Below (B + 1) w0 W) :
    W.cell? ⟨B, 0, none⟩ = some (.int .i64 a) ∧ W.cell? ⟨B, 1, none⟩ = some (.int .i64 b) := by
  subst hw
  have hg := ((h0.trans h).block w.heap.size (by omega)).trans (heap_alloc_new w (.cells #[.int .i64 a, .int .i64 b] 26))
  have := fun i => cell_of_row W w.heap.size i _ 26 (0, 0) hg
  exact ⟨this 0, this 1⟩
theorem fin (w : World) (n : Nat) (W : World) (h : Below (w.drewN n).heap.size (w.drewN n) W) : Below w.heap.size w W := (⟨rfl, rfl, rfl, Nat.le_refl _, fun _ _ => rfl⟩ : Below w.heap.size w (w.drewN n)).trans h
theorem wk (w : World) : Calls Try.prog 11 #[] w fun e w' => e = .returned (.bool true) ∧ Below w.heap.size w w' := works_any w

set_option maxRecDepth 100000 in
set_option maxHeartbeats 8000000 in
theorem walk (w : World) (a : Int) (ha : (Lit.int .i64 a).wf = true) (b : Int) (hb : (Lit.int .i64 b).wf = true) (n : Int) (hn : (Lit.int .i64 n).wf = true) (x : Int) (hx : (Lit.int .i64 x).wf = true) (p : Int) (hp : (Lit.int .i64 p).wf = true) :
    Calls Try.prog 5 #[.agg #[.int .i64 a, .int .i64 b], .int .i64 n, .agg #[.int .i64 x, .int .i64 p]] w fun e w' => e = .returned (.bool true) ∧ Below w.heap.size w w' := by
  have C1 := hid (fun W => below_any a b n W (int_lo ha) (int_hi ha) (int_lo hb) (int_hi hb) (int_lo hn) (int_hi hn))
  have C2 := hid (fun W => jitter_any a b x p W (int_lo ha) (int_hi ha) (int_lo hb) (int_hi hb) (int_lo hx) (int_hi hx) (int_lo hp) (int_hi hp))
  have jo := fun h => Hs.jit_out (Hs.mix (U a) (U b)) x p h
  have jb := fun h1 h2 h3 h4 => Hs.jit_bounds (Hs.mix (U a) (U b)) x p h1 h2 h3 h4
  have y0 := Hs.below_lo (Hs.mix (U a) (U b)) n
  have y1 := Hs.below_hi (Hs.mix (U a) (U b)) n
  have y2 : n < 1 → Hs.below (Hs.mix (U a) (U b)) n = 0 := fun h => if_pos h
  generalize Hs.below (Hs.mix (U a) (U b)) n = y at *
  generalize Hs.jit (Hs.mix (U a) (U b)) x p = j at *
  have hn1 := int_lo hn
  have hn2 := int_hi hn
  have hx1 := int_lo hx
  have hx2 := int_hi hx
  have hp1 := int_lo hp
  have hp2 := int_hi hp
  clear ha hb hn hx hp
  have box := hid (fun W (h : Below (w.heap.size + 1 + 1) ((w.alloc (.cells #[.int .i64 a, .int .i64 b] 26)).alloc (.cells #[.int .i64 x, .int .i64 p] 26)) W) =>
    And.intro (box2 w a b w.heap.size ((w.alloc (.cells #[.int .i64 a, .int .i64 b] 26)).alloc (.cells #[.int .i64 x, .int .i64 p] 26)) W rfl ((Below.refl _ _).alloc (by simp) _) (h.mono (by omega)))
      (box2 (w.alloc (.cells #[.int .i64 a, .int .i64 b] 26)) x p (w.heap.size + 1) _ W (by simp) (Below.refl _ _) h))
  obtain ⟨⟨r0, r1⟩, ⟨s0, s1⟩⟩ := box.out _ (Below.refl _ _)
  obtain ⟨⟨d0, d1⟩, ⟨e0, e1⟩⟩ := box.out _ (Below.refl _ _).drew
  have HW : Hid (Below w.heap.size w ((w.alloc (.cells #[.int .i64 a, .int .i64 b] 26)).alloc (.cells #[.int .i64 x, .int .i64 p] 26))) := ((Below.refl _ _).alloc (Nat.le_refl _) _).alloc (by simp) _
  clear box
  by_cases h1 : n < 1
  · obtain rfl := y2 h1
    clear y1 y2 y0
    by_cases g0 : x < 0
    · obtain rfl := jo (by omega)
      clear jo jb
      go_enter Try.func5, Try.ntmps5
      go_wp2_with fail
      refine (C1.out _).mono ?_
      rintro en w' ⟨rfl, rfl⟩
      go_wp2_with fail
      go_quiet (fail)
      go_wp2_with fail
      refine (C2.out _).mono ?_
      rintro en w' ⟨rfl, rfl⟩
      go_wp2_with fail
      refine (wk _).mono ?_
      rintro en w5 ⟨rfl, hb5⟩
      go_wp2_with fail
      go_ret
      exact ⟨rfl, bstep HW.out (fin _ _ _ hb5)⟩
    by_cases g1 : 1099511627776 < x
    · obtain rfl := jo (by omega)
      clear jo jb
      go_enter Try.func5, Try.ntmps5
      go_wp2_with fail
      refine (C1.out _).mono ?_
      rintro en w' ⟨rfl, rfl⟩
      go_wp2_with fail
      go_quiet (fail)
      go_wp2_with fail
      refine (C2.out _).mono ?_
      rintro en w' ⟨rfl, rfl⟩
      go_wp2_with fail
      refine (wk _).mono ?_
      rintro en w5 ⟨rfl, hb5⟩
      go_wp2_with fail
      go_ret
      exact ⟨rfl, bstep HW.out (fin _ _ _ hb5)⟩
    by_cases g2 : p < 0
    · obtain rfl := jo (by omega)
      clear jo jb
      go_enter Try.func5, Try.ntmps5
      go_wp2_with fail
      refine (C1.out _).mono ?_
      rintro en w' ⟨rfl, rfl⟩
      go_wp2_with fail
      go_quiet (fail)
      go_wp2_with fail
      refine (C2.out _).mono ?_
      rintro en w' ⟨rfl, rfl⟩
      go_wp2_with fail
      refine (wk _).mono ?_
      rintro en w5 ⟨rfl, hb5⟩
      go_wp2_with fail
      go_ret
      exact ⟨rfl, bstep HW.out (fin _ _ _ hb5)⟩
    by_cases g3 : 100 < p
    · obtain rfl := jo (by omega)
      clear jo jb
      go_enter Try.func5, Try.ntmps5
      go_wp2_with fail
      refine (C1.out _).mono ?_
      rintro en w' ⟨rfl, rfl⟩
      go_wp2_with fail
      go_quiet (fail)
      go_wp2_with fail
      refine (C2.out _).mono ?_
      rintro en w' ⟨rfl, rfl⟩
      go_wp2_with fail
      refine (wk _).mono ?_
      rintro en w5 ⟨rfl, hb5⟩
      go_wp2_with fail
      go_ret
      exact ⟨rfl, bstep HW.out (fin _ _ _ hb5)⟩
    have jb1 := jb (by omega) (by omega) (by omega) (by omega)
    obtain ⟨j1, j2⟩ := jb1
    have p1 : 0 ≤ x * (100 - p) := Int.mul_nonneg (by omega) (by omega)
    have p2 : x * (100 - p) ≤ 1099511627776 * 200 := Hs.mul_le (by omega) (by omega) (by omega) (by omega)
    have p3 : x * (100 - p) ≤ 219902325555200 := by omega
    have q1 : 0 ≤ x * (100 + p) := Int.mul_nonneg (by omega) (by omega)
    have q2 : x * (100 + p) ≤ 1099511627776 * 200 := Hs.mul_le (by omega) (by omega) (by omega) (by omega)
    have q3 : x * (100 + p) ≤ 219902325555200 := by omega
    clear jo jb p2 q2 hx1 hx2 hp1 hp2
    go_enter Try.func5, Try.ntmps5
    go_wp2_with fail
    refine (C1.out _).mono ?_
    rintro en w' ⟨rfl, rfl⟩
    go_wp2_with fail
    go_quiet (fail)
    go_wp2_with fail
    refine (C2.out _).mono ?_
    rintro en w' ⟨rfl, rfl⟩
    go_wp2_with fail
    refine (wk _).mono ?_
    rintro en w5 ⟨rfl, hb5⟩
    go_wp2_with fail
    go_ret
    exact ⟨rfl, bstep HW.out (fin _ _ _ hb5)⟩
  · have hy := y1 (by omega)
    have hn3 : 1 ≤ n := by omega
    clear y1 y2 h1
    by_cases g0 : x < 0
    · obtain rfl := jo (by omega)
      clear jo jb
      go_enter Try.func5, Try.ntmps5
      go_wp2_with fail
      refine (C1.out _).mono ?_
      rintro en w' ⟨rfl, rfl⟩
      go_wp2_with fail
      go_quiet (fail)
      go_wp2_with fail
      refine (C2.out _).mono ?_
      rintro en w' ⟨rfl, rfl⟩
      go_wp2_with fail
      refine (wk _).mono ?_
      rintro en w5 ⟨rfl, hb5⟩
      go_wp2_with fail
      go_ret
      exact ⟨rfl, bstep HW.out (fin _ _ _ hb5)⟩
    by_cases g1 : 1099511627776 < x
    · obtain rfl := jo (by omega)
      clear jo jb
      go_enter Try.func5, Try.ntmps5
      go_wp2_with fail
      refine (C1.out _).mono ?_
      rintro en w' ⟨rfl, rfl⟩
      go_wp2_with fail
      go_quiet (fail)
      go_wp2_with fail
      refine (C2.out _).mono ?_
      rintro en w' ⟨rfl, rfl⟩
      go_wp2_with fail
      refine (wk _).mono ?_
      rintro en w5 ⟨rfl, hb5⟩
      go_wp2_with fail
      go_ret
      exact ⟨rfl, bstep HW.out (fin _ _ _ hb5)⟩
    by_cases g2 : p < 0
    · obtain rfl := jo (by omega)
      clear jo jb
      go_enter Try.func5, Try.ntmps5
      go_wp2_with fail
      refine (C1.out _).mono ?_
      rintro en w' ⟨rfl, rfl⟩
      go_wp2_with fail
      go_quiet (fail)
      go_wp2_with fail
      refine (C2.out _).mono ?_
      rintro en w' ⟨rfl, rfl⟩
      go_wp2_with fail
      refine (wk _).mono ?_
      rintro en w5 ⟨rfl, hb5⟩
      go_wp2_with fail
      go_ret
      exact ⟨rfl, bstep HW.out (fin _ _ _ hb5)⟩
    by_cases g3 : 100 < p
    · obtain rfl := jo (by omega)
      clear jo jb
      go_enter Try.func5, Try.ntmps5
      go_wp2_with fail
      refine (C1.out _).mono ?_
      rintro en w' ⟨rfl, rfl⟩
      go_wp2_with fail
      go_quiet (fail)
      go_wp2_with fail
      refine (C2.out _).mono ?_
      rintro en w' ⟨rfl, rfl⟩
      go_wp2_with fail
      refine (wk _).mono ?_
      rintro en w5 ⟨rfl, hb5⟩
      go_wp2_with fail
      go_ret
      exact ⟨rfl, bstep HW.out (fin _ _ _ hb5)⟩
    have jb1 := jb (by omega) (by omega) (by omega) (by omega)
    obtain ⟨j1, j2⟩ := jb1
    have p1 : 0 ≤ x * (100 - p) := Int.mul_nonneg (by omega) (by omega)
    have p2 : x * (100 - p) ≤ 1099511627776 * 200 := Hs.mul_le (by omega) (by omega) (by omega) (by omega)
    have p3 : x * (100 - p) ≤ 219902325555200 := by omega
    have q1 : 0 ≤ x * (100 + p) := Int.mul_nonneg (by omega) (by omega)
    have q2 : x * (100 + p) ≤ 1099511627776 * 200 := Hs.mul_le (by omega) (by omega) (by omega) (by omega)
    have q3 : x * (100 + p) ≤ 219902325555200 := by omega
    clear jo jb p2 q2 hx1 hx2 hp1 hp2
    go_enter Try.func5, Try.ntmps5
    go_wp2_with fail
    refine (C1.out _).mono ?_
    rintro en w' ⟨rfl, rfl⟩
    go_wp2_with fail
    go_quiet (fail)
    go_wp2_with fail
    refine (C2.out _).mono ?_
    rintro en w' ⟨rfl, rfl⟩
    go_wp2_with fail
    refine (wk _).mono ?_
    rintro en w5 ⟨rfl, hb5⟩
    go_wp2_with fail
    go_ret
    exact ⟨rfl, bstep HW.out (fin _ _ _ hb5)⟩


theorem own : ownKnob Try.prog.godebug = none := by kernel_rfl
theorem laidOut : laidOutB Try.prog = true := by kernel_rfl

set_option maxRecDepth 100000 in
theorem lifted (os : Os) (started : os.Started) (H : Type) (enc : TypeId × Value → H) :
    ReturnsInHanded {} Try.checked os 5 .any (Rows.drawBoundsSpec.pre6 enc Try.prog Try.f5 Rows.drawBoundsRow.domain false) (Rows.drawBoundsSpec.post enc Try.prog Try.f5 false true false false) := by
  refine returnsInHanded_of_change (C := Try.checked) own started (by kernel_rfl) Try.func5
    (ChangeSpec.witness6 (enc := enc) (C := Try.checked) false ⟨#[], #[.agg #[.int .i64 0, .int .i64 0], .int .i64 0, .agg #[.int .i64 0, .int .i64 0]], []⟩ 8 (by kernel_rfl) (by kernel_rfl) (by kernel_rfl) (by kernel_rfl)) ?_
  intro W base args ds gs before hval0 hW hcnd _
  have hval : ∀ (j : Nat) t v, Try.f5.params[j]? = some t → args[j]? = some v → Value.okWide Try.prog W .any base t v := hval0
  have hW' := hW
  obtain ⟨p, q, hA0, hV, rfl, hfz, hnd⟩ := hW
  have hA : DataW.TrodAll enc Try.prog W 0 (fun _ => true) true Try.f5.params.toList args.toList ds p := hA0
  rw [Try.params5] at hA hval
  obtain ⟨v0, vs0, d0, ds0, p0, q0, hargs, rfl, rfl, h0, r0⟩ := trodAll_cons hA
  obtain ⟨v1, vs1, d1, ds1, p1, q1, rfl, rfl, rfl, h1, r1⟩ := trodAll_cons r0
  obtain ⟨v2, vs2, d2, ds2, p2, q2, rfl, rfl, rfl, h2, r2⟩ := trodAll_cons r1
  obtain ⟨rfl, rfl, rfl⟩ := trodAll_nil r2
  obtain rfl : args = #[v0, v1, v2] := by cases args; simp_all
  obtain ⟨rfl, rfl⟩ := trodVars_none hV
  have k0 := h0
  have lt0 : ∀ x ∈ p0, x.block < W.heap.size := by obtain ⟨m, hm⟩ := k0; exact DataW.trod_lt m _ _ _ hm
  obtain ⟨a0, b0, rfl, wa0, wb0⟩ := open_pair (hval 0 26 v0 rfl rfl) h0
  obtain ⟨a1, rfl, rfl, rfl, w1⟩ := open_int Try.underlying3 (hval 1 3 v1 rfl rfl) h1
  have k2 := h2
  have lt2 : ∀ x ∈ p2, x.block < W.heap.size := by obtain ⟨m, hm⟩ := k2; exact DataW.trod_lt m _ _ _ hm
  obtain ⟨a2, b2, rfl, wa2, wb2⟩ := open_pair (hval 2 26 v2 rfl rfl) h2
  clear hA0 hval0
  refine (walk W a0 wa0 b0 wb0 a1 w1 a2 wa2 b2 wb2).mono fun e W' ⟨he, bel⟩ => ?_
  subst he
  exact ⟨_, rfl, _, _, _, [], _, [], hW', trodAll_mk1 (shut_bool Try.underlying4 _), (trodAll_cons_mk (Below.trod laidOut (by kernel_rfl) (of_decide_eq_true (by kernel_rfl)) k0 bel lt0) (trodAll_cons_mk (shut_int Try.underlying3 w1) (trodAll_cons_mk (Below.trod laidOut (by kernel_rfl) (of_decide_eq_true (by kernel_rfl)) k2 bel lt2) trodAll_mk0))), rfl, bel.frame _, fun h => by cases h⟩

theorem over : Rows.drawBoundsRow.holds Try.pinned (OpenSpec.ofChange Rows.drawBoundsSpec) :=
  OpenClaim.holds_of_wide 5 Try.f5 rfl rfl rfl rfl rfl rfl rfl ⟨rfl, rfl, rfl, rfl, rfl⟩ rfl rfl rfl rfl rfl (by kernel_rfl) Try.func5 (by kernel_rfl)
    (of_decide_eq_true (by kernel_rfl)) (by unfold Func.isWrapper; first | (rw [if_pos (by decide +kernel)]; kernel_rfl) | (rw [if_neg (by decide +kernel)]; exact ⟨rfl, rfl⟩))
    (fun os started H enc _ => lifted os started H enc)

/-- THE STATEMENT. -/
theorem proved : Rows.DrawBoundsSaid := over
#print axioms proved
end Go.Proofs.Ytamdcbleefdphaa.drawBounds
