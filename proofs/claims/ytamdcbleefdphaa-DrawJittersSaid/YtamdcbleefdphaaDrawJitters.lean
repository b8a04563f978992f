/-
  WHAT IS PROVED: the statement DrawJitters of layer 5 (Rows.DrawJittersSaid): for every input, of any size, the Go function workflowlaw05.DrawJitters returns true, and each argument reads afterwards as it read before. CONDITIONS: none beyond the row's own.
-/
import Derived.Test.YtamdcbleefdphaaRows
import Derived.Test.YtamdcbleefdphaaDOpn
import Derived.Deep.RegionHeld3
import Derived.ProofKit
import Derived.OpenShut
import Derived.ShutString
import Derived.ChangeOld
namespace Go.Proofs.Ytamdcbleefdphaa.drawJitters
open Go.ChangeShapes Go.WideShapes Go.ChangeAt Go.RowKit
open Go.ChangeMaps (open_string shut_string)
set_option linter.unusedVariables false

theorem box2 (w : World) (a b : Int) (W : World) (h : Below (w.heap.size + 1) (w.alloc (.cells #[.int .i64 a, .int .i64 b] 26)) W) :
    W.cell? ⟨w.heap.size, 0, none⟩ = some (.int .i64 a) ∧ W.cell? ⟨w.heap.size, 1, none⟩ = some (.int .i64 b) := by
  have hg := (h.block w.heap.size (by omega)).trans (heap_alloc_new w (.cells #[.int .i64 a, .int .i64 b] 26))
  have := fun i => cell_of_row W w.heap.size i _ 26 (0, 0) hg
  exact ⟨this 0, this 1⟩

set_option maxRecDepth 100000 in
set_option maxHeartbeats 4000000 in
theorem walk (w : World) (a : Int) (ha : (Lit.int .i64 a).wf = true) (b : Int) (hb : (Lit.int .i64 b).wf = true) (x : Int) (hx : (Lit.int .i64 x).wf = true) (p : Int) (hp : (Lit.int .i64 p).wf = true) :
    Calls Try.prog 4 #[.agg #[.int .i64 a, .int .i64 b], .int .i64 x, .int .i64 p] w fun e w' => e = .returned (.bool true) ∧ Below w.heap.size w w' := by
  have C1 := hid (fun W => jitter_any a b x p W (int_lo ha) (int_hi ha) (int_lo hb) (int_hi hb) (int_lo hx) (int_hi hx) (int_lo hp) (int_hi hp))
  have C2 := hid (fun W => rjitter_any a b x p W (int_lo ha) (int_hi ha) (int_lo hb) (int_hi hb) (int_lo hx) (int_hi hx) (int_lo hp) (int_hi hp))
  generalize Hs.jit (Hs.mix (U a) (U b)) x p = f at *
  clear ha hb hx hp
  go_enter Try.func4, Try.ntmps4
  go_wp2_with fail
  have HF := hid (box2 w a b)
  have HB : Hid (Below (w.heap.size + 1) (w.alloc (.cells #[.int .i64 a, .int .i64 b] 26)) (w.alloc (.cells #[.int .i64 a, .int .i64 b] 26)).drew) := (Below.refl _ _).drew
  have HS := hid (HF.out _ HB.out)
  have HZ : Hid (w.heap.size + 1 ≤ (w.alloc (.cells #[.int .i64 a, .int .i64 b] 26)).drew.heap.size) := by show _ ≤ _; simp
  go_region_held3 (fun W => W.cell? ⟨w.heap.size, 0, none⟩ = some (.int .i64 a) ∧ W.cell? ⟨w.heap.size, 1, none⟩ = some (.int .i64 b))
    (exact HS.out)
    (first
      | (go_at_call 12; (with_reducible refine (C1.out _).mono ?_); rintro en w' ⟨rfl, rfl⟩)
      | (go_at_call 13; (with_reducible refine (C2.out _).mono ?_); rintro en wx ⟨rfl, hbx⟩; have HB := hid (HB.out.trans (hbx.mono HZ.out)); have HS := hid (HF.out _ HB.out); have HZ := hid (Nat.le_trans HZ.out hbx.size); clear hbx)
      | (go_at_call 11; (with_reducible refine (works_any _).mono ?_); rintro en wx ⟨rfl, hbx⟩; have HB := hid (HB.out.trans (hbx.mono HZ.out)); have HS := hid (HF.out _ HB.out); have HZ := hid (Nat.le_trans HZ.out hbx.size); clear hbx))
  go_wp2_with fail
  go_ret
  exact ⟨rfl, (below_alloc w _).trans (HB.out.mono (by omega))⟩


theorem own : ownKnob Try.prog.godebug = none := by kernel_rfl
theorem laidOut : laidOutB Try.prog = true := by kernel_rfl

set_option maxRecDepth 100000 in
theorem lifted (os : Os) (started : os.Started) (H : Type) (enc : TypeId × Value → H) :
    ReturnsInHanded {} Try.checked os 4 .any (Rows.drawJittersSpec.pre6 enc Try.prog Try.f4 Rows.drawJittersRow.domain false) (Rows.drawJittersSpec.post enc Try.prog Try.f4 false true false false) := by
  refine returnsInHanded_of_change (C := Try.checked) own started (by kernel_rfl) Try.func4
    (ChangeSpec.witness6 (enc := enc) (C := Try.checked) false ⟨#[], #[.agg #[.int .i64 0, .int .i64 0], .int .i64 0, .int .i64 0], []⟩ 8 (by kernel_rfl) (by kernel_rfl) (by kernel_rfl) (by kernel_rfl)) ?_
  intro W base args ds gs before hval0 hW hcnd _
  have hval : ∀ (j : Nat) t v, Try.f4.params[j]? = some t → args[j]? = some v → Value.okWide Try.prog W .any base t v := hval0
  have hW' := hW
  obtain ⟨p, q, hA0, hV, rfl, hfz, hnd⟩ := hW
  have hA : DataW.TrodAll enc Try.prog W 0 (fun _ => true) true Try.f4.params.toList args.toList ds p := hA0
  rw [Try.params4] at hA hval
  obtain ⟨v0, vs0, d0, ds0, p0, q0, hargs, rfl, rfl, h0, r0⟩ := trodAll_cons hA
  obtain ⟨v1, vs1, d1, ds1, p1, q1, rfl, rfl, rfl, h1, r1⟩ := trodAll_cons r0
  obtain ⟨v2, vs2, d2, ds2, p2, q2, rfl, rfl, rfl, h2, r2⟩ := trodAll_cons r1
  obtain ⟨rfl, rfl, rfl⟩ := trodAll_nil r2
  obtain rfl : args = #[v0, v1, v2] := by cases args; simp_all
  obtain ⟨rfl, rfl⟩ := trodVars_none hV
  have k0 := h0
  have lt0 : ∀ x ∈ p0, x.block < W.heap.size := by obtain ⟨m, hm⟩ := k0; exact DataW.trod_lt m _ _ _ hm
  obtain ⟨a0, b0, rfl, wa0, wb0⟩ := open_pair (hval 0 26 v0 rfl rfl) h0
  obtain ⟨a1, rfl, rfl, rfl, w1⟩ := open_int Try.underlying3 (hval 1 3 v1 rfl rfl) h1
  obtain ⟨a2, rfl, rfl, rfl, w2⟩ := open_int Try.underlying3 (hval 2 3 v2 rfl rfl) h2
  clear hA0 hval0
  refine (walk W a0 wa0 b0 wb0 a1 w1 a2 w2).mono fun e W' ⟨he, bel⟩ => ?_
  subst he
  exact ⟨_, rfl, _, _, _, [], _, [], hW', trodAll_mk1 (shut_bool Try.underlying4 _), (trodAll_cons_mk (Below.trod laidOut (by kernel_rfl) (of_decide_eq_true (by kernel_rfl)) k0 bel lt0) (trodAll_cons_mk (shut_int Try.underlying3 w1) (trodAll_cons_mk (shut_int Try.underlying3 w2) trodAll_mk0))), rfl, bel.frame _, fun h => by cases h⟩

theorem over : Rows.drawJittersRow.holds Try.pinned (OpenSpec.ofChange Rows.drawJittersSpec) :=
  OpenClaim.holds_of_wide 4 Try.f4 rfl rfl rfl rfl rfl rfl rfl ⟨rfl, rfl, rfl, rfl, rfl⟩ rfl rfl rfl rfl rfl (by kernel_rfl) Try.func4 (by kernel_rfl)
    (of_decide_eq_true (by kernel_rfl)) (by unfold Func.isWrapper; first | (rw [if_pos (by decide +kernel)]; kernel_rfl) | (rw [if_neg (by decide +kernel)]; exact ⟨rfl, rfl⟩))
    (fun os started H enc _ => lifted os started H enc)

/-- THE STATEMENT. -/
theorem proved : Rows.DrawJittersSaid := over
#print axioms proved
end Go.Proofs.Ytamdcbleefdphaa.drawJitters
