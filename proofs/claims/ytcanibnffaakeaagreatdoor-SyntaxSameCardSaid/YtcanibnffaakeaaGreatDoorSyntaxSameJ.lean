/-
  WHAT IS PROVED: the statement SyntaxSame of layer 8 (Rows.SyntaxSameCardSaid): for every input, of any size, the Go function workflowlaw08.SyntaxSame returns true, and each argument reads afterwards as it read before. CONDITIONS: the package-level variables that the row lists (two errors and three tables of Go's library) start as the program's text lays them: the card ties them to it. None beyond the row's own.
-/
import Derived.Test.YtcanibnffaakeaaGreatDoorMT1
import Derived.Test.YtcanibnffaakeaaGreatDoorMZ1
import Derived.Test.YtcanibnffaakeaaGreatDoorCards
import Derived.Test.YtcanibnffaakeaaGreatDoorTie
import Derived.ProofKit
import Derived.OpenShut
import Derived.ShutString
import Derived.ChangeOld
import Derived.SevenTiedAt
import Derived.Deep.DeepHandedRow
import Derived.Deep.DeepWitnessRowRef
namespace Go.Proofs.YtcanibnffaakeaaGreatDoor.syntaxSame
open Go.ChangeShapes Go.WideShapes Go.ChangeAt Go.RowKit
open Go.ChangeMaps (open_string shut_string)
set_option linter.unusedVariables false

theorem bx2_all {w wr : World} {a0 a1 a2 a3 a4 b0 b1 b2 b3 b4 : Value} (h : Bx2 w #[a0, a1, a2, a3, a4] #[b0, b1, b2, b3, b4] wr) :
    wr.cell? ⟨w.heap.size, 0, none⟩ = some a0 ∧ wr.cell? ⟨w.heap.size, 1, none⟩ = some a1 ∧ wr.cell? ⟨w.heap.size, 2, none⟩ = some a2 ∧ wr.cell? ⟨w.heap.size, 3, none⟩ = some a3 ∧ wr.cell? ⟨w.heap.size, 4, none⟩ = some a4 ∧ wr.cell? ⟨w.heap.size + 1, 0, none⟩ = some b0 ∧ wr.cell? ⟨w.heap.size + 1, 1, none⟩ = some b1 ∧ wr.cell? ⟨w.heap.size + 1, 2, none⟩ = some b2 ∧ wr.cell? ⟨w.heap.size + 1, 3, none⟩ = some b3 ∧ wr.cell? ⟨w.heap.size + 1, 4, none⟩ = some b4 :=
  ⟨h.one.cell 0, h.one.cell 1, h.one.cell 2, h.one.cell 3, h.one.cell 4, cell_of_row wr (w.heap.size + 1) 0 _ 25 (0, 0) h.block2, cell_of_row wr (w.heap.size + 1) 1 _ 25 (0, 0) h.block2, cell_of_row wr (w.heap.size + 1) 2 _ 25 (0, 0) h.block2, cell_of_row wr (w.heap.size + 1) 3 _ 25 (0, 0) h.block2, cell_of_row wr (w.heap.size + 1) 4 _ 25 (0, 0) h.block2⟩

set_option maxRecDepth 100000 in
set_option maxHeartbeats 4000000 in
theorem walk (w : World) (hG : Good w) (v0 : Value) (x0 : Sy.N) (h0 : NA w (fun _ => True) v0 x0) (v1 : Value) (x1 : Sy.N) (h1 : NA w (fun _ => True) v1 x1) :
    Calls Tryz.prog 6 #[v0, v1] w fun e w' => e = .returned (.bool true) ∧ Below w.heap.size w w' := by
  have F0 : Hid (∀ W, Below w.heap.size w W → Calls Tryz.prog 17 #[v0, .int .i64 2000] W fun e w' => e = .returned (.bool (decide (Sy.N.size x0 ≤ 2000))) ∧ Below W.heap.size W w') := fun W hW => Few_any x0 v0 2000 W _ (by omega) (h0.below hW)
  have F1 : Hid (∀ W, Below w.heap.size w W → Calls Tryz.prog 17 #[v1, .int .i64 2000] W fun e w' => e = .returned (.bool (decide (Sy.N.size x1 ≤ 2000))) ∧ Below W.heap.size W w') := fun W hW => Few_any x1 v1 2000 W _ (by omega) (h1.below hW)
  have P0 := hid (fun W (hW : Below w.heap.size w W) => psame_any _ x0 x1 v0 v1 W _ _ (Nat.le_refl _) (h0.below hW) (h1.below hW))
  have P1 := hid (fun W (hW : Below w.heap.size w W) => psame_any _ x0 x0 v0 v0 W _ _ (Nat.le_refl _) (h0.below hW) (h0.below hW))
  have R0 := hid (fun W (hW : Below w.heap.size w W) => rsame_any _ x0 x1 v0 v1 W _ _ (Nat.le_refl _) (h0.below hW) (h1.below hW))
  have WK := hid (fun W (hW : Below w.heap.size w W) => works_any W (hG.below hW))
  rw [Sy.same_self] at P1
  generalize decide (Sy.N.size x0 ≤ 2000) = d0 at F0
  generalize decide (Sy.N.size x1 ≤ 2000) = d1 at F1
  generalize Sy.same x0 x1 = d2 at P0 R0
  obtain ⟨op, nm, n, t, l⟩ := x0
  obtain ⟨A, c, xs, rfl, ho, hl, hr, hvs⟩ := h0.open2
  obtain ⟨op', nm', n', t', l'⟩ := x1
  obtain ⟨A', c', xs', rfl, ho', hl', hr', hvs'⟩ := h1.open2
  clear h0 h1 ho hr hvs ho' hr' hvs' hG
  have HX0 := hid (Bx2.refl (w := w) (cs := #[.int .i64 op, .string ⟨nm.toArray⟩, .int .i64 n, .string ⟨t.toArray⟩, .slice A l.length c]) (ds := #[.int .i64 op', .string ⟨nm'.toArray⟩, .int .i64 n', .string ⟨t'.toArray⟩, .slice A' l'.length c']))
  cases d0
  · go_enter Tryz.func6, Tryz.ntmps6
    go_wp2_with (first
      | (go_at_call 17; (with_reducible refine (F0.out _ HX0.out.below).mono ?_); rintro e w1 ⟨rfl, hb1⟩; have HX := hid (HX0.out.step hb1); clear hb1)
      | (go_at_call 9; (with_reducible refine (WK.out _ HX.out.below).mono ?_); rintro e w2 ⟨rfl, hb2⟩; have HX := hid (HX.out.step hb2); clear hb2))
    go_ret
    exact ⟨rfl, HX.out.below⟩
  cases d1
  · go_enter Tryz.func6, Tryz.ntmps6
    go_wp2_with (first
      | (go_at_call 17; (with_reducible refine (F0.out _ HX0.out.below).mono ?_); rintro e w1 ⟨rfl, hb1⟩; have HX := hid (HX0.out.step hb1); obtain ⟨p0, p1, p2, p3, p4, r0, r1, r2, r3, r4⟩ := bx2_all HX.out; clear hb1)
      | (go_at_call 17; (with_reducible refine (F1.out _ HX.out.below).mono ?_); rintro e w3 ⟨rfl, hb3⟩; have HX := hid (HX.out.step hb3); clear hb3)
      | (go_at_call 9; (with_reducible refine (WK.out _ HX.out.below).mono ?_); rintro e w2 ⟨rfl, hb2⟩; have HX := hid (HX.out.step hb2); clear hb2))
    go_ret
    exact ⟨rfl, HX.out.below⟩
  go_enter Tryz.func6, Tryz.ntmps6
  go_wp2_with (first
      | (go_at_call 17; (with_reducible refine (F0.out _ HX0.out.below).mono ?_); rintro e w1 ⟨rfl, hb1⟩; have HX := hid (HX0.out.step hb1); obtain ⟨p0, p1, p2, p3, p4, r0, r1, r2, r3, r4⟩ := bx2_all HX.out; clear hb1)
      | (go_at_call 17; (with_reducible refine (F1.out _ HX.out.below).mono ?_); rintro e w3 ⟨rfl, hb3⟩; replace HX := hid (HX.out.step hb3); clear hb3))
  replace HX := hid (HX.out.step ((Below.refl _ _).drew))
  have HS := hid (bx2_all HX.out)
  go_region_held3 (fun W => W.cell? ⟨w.heap.size, 0, none⟩ = some (.int .i64 op) ∧ W.cell? ⟨w.heap.size, 1, none⟩ = some (.string ⟨nm.toArray⟩) ∧ W.cell? ⟨w.heap.size, 2, none⟩ = some (.int .i64 n) ∧ W.cell? ⟨w.heap.size, 3, none⟩ = some (.string ⟨t.toArray⟩) ∧ W.cell? ⟨w.heap.size, 4, none⟩ = some (.slice A l.length c) ∧ W.cell? ⟨w.heap.size + 1, 0, none⟩ = some (.int .i64 op') ∧ W.cell? ⟨w.heap.size + 1, 1, none⟩ = some (.string ⟨nm'.toArray⟩) ∧ W.cell? ⟨w.heap.size + 1, 2, none⟩ = some (.int .i64 n') ∧ W.cell? ⟨w.heap.size + 1, 3, none⟩ = some (.string ⟨t'.toArray⟩) ∧ W.cell? ⟨w.heap.size + 1, 4, none⟩ = some (.slice A' l'.length c'))
    (first | exact HS.out | go_keep)
    (first
      | (go_at_call 24; (with_reducible refine (P0.out _ HX.out.below).mono ?_); rintro e w4 ⟨rfl, hb4⟩; replace HX := hid (HX.out.step hb4); have HS := hid (bx2_all HX.out); clear hb4)
      | (go_at_call 24; (with_reducible refine (P1.out _ HX.out.below).mono ?_); rintro e w4 ⟨rfl, hb4⟩; replace HX := hid (HX.out.step hb4); have HS := hid (bx2_all HX.out); clear hb4)
      | (go_at_call 12; (with_reducible refine (R0.out _ HX.out.below).mono ?_); rintro e w4 ⟨rfl, hb4⟩; replace HX := hid (HX.out.step hb4); have HS := hid (bx2_all HX.out); clear hb4)
      | (go_at_call 9; (with_reducible refine (WK.out _ HX.out.below).mono ?_); rintro e w4 ⟨rfl, hb4⟩; replace HX := hid (HX.out.step hb4); have HS := hid (bx2_all HX.out); clear hb4))
  all_goals
    go_wp2_with fail
    go_ret
    exact ⟨rfl, HX.out.below⟩


theorem own : ownKnob Tryz.prog.godebug = none := by kernel_rfl
theorem laidOut : laidOutB Tryz.prog = true := by kernel_rfl

set_option maxRecDepth 100000 in
/-- What the walk gives, for every argument and every world that holds what is listed. -/
theorem contract (H : Type) (enc : TypeId × Value → H) (W : World) (base : Nat) (args : Array Value) (ds gs : List (DataW H)) (before : List MemPlace)
    (hval0 : ∀ (j : Nat) t v, Tryz.f6.params[j]? = some t → args[j]? = some v → Value.okWide Tryz.prog W .any base t v)
    (hW : DataW.Whole enc Tryz.prog Tryz.f6.params.toList Rows.syntaxSameSpec.vars false W args.toList ds gs before) (hsz : (DataW.weightsEach Tryz.prog (Tryz.f6.params.toList ++ (OpenSpec.ofChange Rows.syntaxSameSpec).bare.plain.varTypes Tryz.prog) (ds ++ gs)).all (· ≤ reachBytes) = true) (hG : Good W) :
    Calls Tryz.prog 6 args W fun e W' => ∃ v, e = .returned v ∧ Rows.syntaxSameSpec.post enc Tryz.prog Tryz.f6 false true false false W args v W' := by
  have hval := hval0
  have hW' := hW
  obtain ⟨p, q, hA0, hV, rfl, hfz, hnd⟩ := hW
  have hA : DataW.TrodAll enc Tryz.prog W 0 (fun _ => true) true Tryz.f6.params.toList args.toList ds p := hA0
  rw [Tryz.params6] at hA hval hsz
  obtain ⟨v0, vs0, d0, ds0, p0, q0, hargs, rfl, rfl, h0, r0⟩ := trodAll_cons hA
  obtain ⟨v1, vs1, d1, ds1, p1, q1, rfl, rfl, rfl, h1, r1⟩ := trodAll_cons r0
  obtain ⟨rfl, rfl, rfl⟩ := trodAll_nil r1
  obtain rfl : args = #[v0, v1] := Array.toList_inj.1 (by first | exact hargs | simpa using hargs)
  obtain ⟨rfl, rfl⟩ := trodVars_none hV
  have k0 := h0
  have lt0 : ∀ x ∈ p0, x.block < W.heap.size := by obtain ⟨m, hm⟩ := k0; exact DataW.trod_lt m _ _ _ hm
  have z0 : ∀ n ∈ d0.weights Tryz.prog 25, n ≤ reachBytes := fun n hn => by have := List.all_eq_true.1 hsz n (DataW.weights_mem_each (j := 0) (t := 25) (d := d0) rfl rfl n hn); simpa using this
  obtain ⟨l0, b0⟩ := open_node (hval 0 25 v0 rfl rfl) h0 z0
  have k1 := h1
  have lt1 : ∀ x ∈ p1, x.block < W.heap.size := by obtain ⟨m, hm⟩ := k1; exact DataW.trod_lt m _ _ _ hm
  have z1 : ∀ n ∈ d1.weights Tryz.prog 25, n ≤ reachBytes := fun n hn => by have := List.all_eq_true.1 hsz n (DataW.weights_mem_each (j := 1) (t := 25) (d := d1) rfl rfl n hn); simpa using this
  obtain ⟨l1, b1⟩ := open_node (hval 1 25 v1 rfl rfl) h1 z1
  clear hA0 hval0
  refine (walk W hG v0 l0 b0 v1 l1 b1).mono fun e W' ⟨he, bel⟩ => ?_
  subst he
  exact ⟨_, rfl, _, _, _, [], _, [], hW', trodAll_mk1 (shut_bool Tryz.underlying4 _), (trodAll_cons_mk (Below.trod laidOut (by kernel_rfl) (of_decide_eq_true (by kernel_rfl)) k0 bel lt0) (trodAll_cons_mk (Below.trod laidOut (by kernel_rfl) (of_decide_eq_true (by kernel_rfl)) k1 bel lt1) trodAll_mk0)), rfl, bel.frame _, fun h => by cases h⟩

theorem reads (os : Os) {H : Type} (enc : TypeId × Value → H) : ∃ places, DataW.whole enc Tryz.prog ((World.doorLaid Tryz.prog 400 os).forCall (fun _ _ => 0) ⟨#[], #[.agg #[.int .i64 0, .string ByteArray.empty, .int .i64 0, .string ByteArray.empty, .slice none 0 0], .agg #[.int .i64 0, .string ByteArray.empty, .int .i64 0, .string ByteArray.empty, .slice none 0 0]], []⟩).memory Tryz.f6.params.toList Rows.syntaxSameSpec.vars false (#[.agg #[.int .i64 0, .string ByteArray.empty, .int .i64 0, .string ByteArray.empty, .slice none 0 0], .agg #[.int .i64 0, .string ByteArray.empty, .int .i64 0, .string ByteArray.empty, .slice none 0 0]] : Array Value).toList 8 = some ([.agg [.lit (.int .i64 0), .lit (.string []), .lit (.int .i64 0), .lit (.string []), .nil], .agg [.lit (.int .i64 0), .lit (.string []), .lit (.int .i64 0), .lit (.string []), .nil]], [], places) :=
  ⟨[], by kernel_rfl⟩

set_option maxRecDepth 100000 in
theorem lifted (os : Os) (started : os.Started) (H : Type) (enc : TypeId × Value → H) (F : Stop.Interp) :
    ReturnsInHanded {} Tryz.checked os 6 .any ((OpenSpec.ofChange Rows.syntaxSameSpec).preRow enc Tryz.prog Tryz.f6 Rows.syntaxSameRow.domain false Rows.syntaxSameRow.laid) (((OpenSpec.ofChange Rows.syntaxSameSpec).at F).post enc Tryz.prog Tryz.f6 false true false false) := by
  obtain ⟨places, hx⟩ := reads os enc
  refine returnsInHanded_of_row (C := Tryz.checked) (s := OpenSpec.ofChange Rows.syntaxSameSpec) own started (by kernel_rfl) Tryz.func6
    (witness_row_atRef (enc := enc) (C := Tryz.checked) false (World.doorLaid Tryz.prog 400 os) #[.agg #[.int .i64 0, .string ByteArray.empty, .int .i64 0, .string ByteArray.empty, .slice none 0 0], .agg #[.int .i64 0, .string ByteArray.empty, .int .i64 0, .string ByteArray.empty, .slice none 0 0]] rfl (by kernel_rfl) (by kernel_rfl) (by kernel_rfl)
      (OpenSpec.preRow_of_cond 8 hx (by kernel_rfl) (fun k hk => by cases hk) (by kernel_rfl) (door_met os _))) ?_
  intro W base args ds gs before hval hW _ _ hsz hL _ _
  exact contract H enc W base args ds gs before hval hW hsz (good_of hL)

theorem over : Rows.SyntaxSameSaid :=
  OpenClaim.holds_of_cond 6 Tryz.f6 rfl rfl rfl rfl rfl rfl rfl ⟨rfl, rfl, rfl, rfl, rfl⟩ rfl rfl rfl rfl rfl (by kernel_rfl) Tryz.func6 (by kernel_rfl)
    (of_decide_eq_true (by kernel_rfl)) (by unfold Func.isWrapper; first | (rw [if_pos (by decide +kernel)]; kernel_rfl) | (rw [if_neg (by decide +kernel)]; exact ⟨rfl, rfl⟩))
    (fun os started H enc _ F => by rw [OpenClaim.pre_eq_preRow]; exact lifted os started H enc F)

theorem plain (f : FuncId) (fn : Func) (hf : Tryz.pinned.checked.prog.funcNamed "workflow/workflowlaw08.SyntaxSame" = some f) (hfn : Tryz.pinned.checked.prog.funcs[f]? = some fn) :
    true = Tryz.pinned.checked.prog.looks [] ∧ ∀ (j : Nat) t, fn.params[j]? = some t → Tryz.pinned.checked.prog.wantsStandIn t = false := by
  obtain rfl : f = 6 := Option.some.inj ((show Tryz.prog.funcNamed "workflow/workflowlaw08.SyntaxSame" = some 6 by kernel_rfl).symm.trans hf) |>.symm
  obtain rfl : fn = Tryz.f6 := (Option.some.inj (Tryz.func6.symm.trans hfn)).symm
  refine ⟨by kernel_rfl, fun j t ht => ?_⟩
  rw [Tryz.params6] at ht
  have hm : t ∈ [25, 25] := by simpa using Array.mem_of_getElem? ht
  have hall : ([25, 25].all fun u => !Tryz.prog.wantsStandIn u) = true := by kernel_rfl
  exact (show Tryz.prog.wantsStandIn t = false by simpa using List.all_eq_true.1 hall t hm)

/-- THE STATEMENT: THE CARD. -/
theorem proved : Rows.SyntaxSameCardSaid :=
  Claim7.holds_tied_plain_at .later [] _ _ _ _ over (fun _ h => by cases h) (by kernel_rfl) (fun _ h => by cases h) syntaxSame_row_tie rfl ⟨rfl, rfl⟩ (by kernel_rfl) rfl plain (by kernel_rfl)
#print axioms proved
end Go.Proofs.YtcanibnffaakeaaGreatDoor.syntaxSame
