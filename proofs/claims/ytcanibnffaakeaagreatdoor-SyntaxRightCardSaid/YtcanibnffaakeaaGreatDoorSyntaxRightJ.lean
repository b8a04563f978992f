/-
  WHAT IS PROVED: the statement SyntaxRight of layer 8 (Rows.SyntaxRightCardSaid): for every input, of any size, the Go function workflowlaw08.SyntaxRight returns true, and each argument reads afterwards as it read before. CONDITIONS: the package-level variables that the row lists (two errors and three tables of Go's library) start as the program's text lays them: the card ties them to it. None beyond the row's own.
-/
import Derived.Test.YtcanibnffaakeaaGreatDoorQR1
import Derived.Test.YtcanibnffaakeaaGreatDoorQT1
import Derived.Test.YtcanibnffaakeaaGreatDoorQZ1
import Derived.Test.YtcanibnffaakeaaGreatDoorCards
import Derived.Test.YtcanibnffaakeaaGreatDoorTie
import Derived.ProofKit
import Derived.OpenShut
import Derived.ShutString
import Derived.ChangeOld
import Derived.SevenTiedAt
import Derived.Deep.DeepHandedRow
import Derived.Deep.DeepWitnessRowRef
namespace Go.Proofs.YtcanibnffaakeaaGreatDoor.syntaxRight
open Go.ChangeShapes Go.WideShapes Go.ChangeAt Go.RowKit
open Go.ChangeMaps (open_string shut_string)
set_option linter.unusedVariables false

theorem bx_five {w wr : World} {a0 a1 a2 a3 a4 : Value} (h : Bx w #[a0, a1, a2, a3, a4] wr) :
    wr.cell? ⟨w.heap.size, 0, none⟩ = some a0 ∧ wr.cell? ⟨w.heap.size, 1, none⟩ = some a1 ∧ wr.cell? ⟨w.heap.size, 2, none⟩ = some a2 ∧ wr.cell? ⟨w.heap.size, 3, none⟩ = some a3 ∧ wr.cell? ⟨w.heap.size, 4, none⟩ = some a4 :=
  ⟨h.cell 0, h.cell 1, h.cell 2, h.cell 3, h.cell 4⟩

set_option maxRecDepth 100000 in
set_option maxHeartbeats 4000000 in
theorem walk (w : World) (hG : Good w) (v0 : Value) (x0 : Sy.N) (h0 : NA w (fun _ => True) v0 x0) :
    Calls Tryz.prog 5 #[v0] w fun e w' => e = .returned (.bool true) ∧ Below w.heap.size w w' := by
  have F0 : Hid (∀ W, Below w.heap.size w W → Calls Tryz.prog 17 #[v0, .int .i64 5000] W fun e w' => e = .returned (.bool (decide (Sy.N.size x0 ≤ 5000))) ∧ Below W.heap.size W w') := fun W hW => Few_any x0 v0 5000 W _ (by omega) (h0.below hW)
  have WK := hid (fun W (hW : Below w.heap.size w W) => works_any W (hG.below hW))
  by_cases hs : Sy.N.size x0 ≤ 5000
  rotate_left
  · rw [decide_eq_false hs] at F0
    obtain ⟨op, nm, n, t, l⟩ := x0
    obtain ⟨A, c, xs, rfl, ho, hl, hr, hvs⟩ := h0.open2
    clear h0 ho hr hvs hG hs
    have HX := hid (Bx.refl (w := w) (cs := #[.int .i64 op, .string ⟨nm.toArray⟩, .int .i64 n, .string ⟨t.toArray⟩, .slice A l.length c]))
    go_enter Tryz.func5, Tryz.ntmps5
    go_wp2_with fail
    refine (F0.out _ HX.out.below).mono ?_
    rintro e w1 ⟨rfl, hb1⟩
    replace HX := hid (HX.out.step hb1)
    clear hb1
    go_wp2_with fail
    refine (WK.out _ HX.out.below).mono ?_
    rintro e w2 ⟨rfl, hb2⟩
    replace HX := hid (HX.out.step hb2)
    clear hb2
    go_wp2_with fail
    go_ret
    exact ⟨rfl, HX.out.below⟩
  rw [decide_eq_true hs] at F0
  have hbig : Sy.N.size x0 ≤ 1099511627776 := by omega
  have R1 := hid (fun W (hW : Below w.heap.size w W) => right_any x0 v0 W _ (hG.below hW) (h0.below hW))
  have R2 := hid (fun W (hW : Below w.heap.size w W) => rright_any x0 v0 W _ hbig (h0.below hW))
  have R3 := hid (fun W (hW : Below w.heap.size w W) => rightX_any x0 v0 W _ (hG.below hW) (h0.below hW))
  have R4 := hid (fun W (hW : Below w.heap.size w W) => rrightX_any x0 v0 W _ hbig (h0.below hW))
  have R5 := hid (fun W (hW : Below w.heap.size w W) => size_any _ x0 v0 W _ (Nat.le_refl _) hbig (h0.below hW))
  have R6 := hid (fun W (hW : Below w.heap.size w W) => rsize_any _ x0 v0 W _ (Nat.le_refl _) hbig (h0.below hW))
  have R7 := hid (fun W (hW : Below w.heap.size w W) => depth_any _ x0 v0 W _ (Nat.le_refl _) hbig (h0.below hW))
  have R8 := hid (fun W (hW : Below w.heap.size w W) => rdepth_any _ x0 v0 W _ (Nat.le_refl _) hbig (h0.below hW))
  generalize Sy.right x0 = d1 at R1 R2
  generalize Sy.rightX x0 = d2 at R3 R4
  clear hbig hs
  generalize Sy.N.size x0 = sz at R5 R6
  generalize Sy.N.depth x0 = dp at R7 R8
  obtain ⟨op, nm, n, t, l⟩ := x0
  obtain ⟨A, c, xs, rfl, ho, hl, hr, hvs⟩ := h0.open2
  clear h0 ho hr hvs hG
  have HX := hid (Bx.refl (w := w) (cs := #[.int .i64 op, .string ⟨nm.toArray⟩, .int .i64 n, .string ⟨t.toArray⟩, .slice A l.length c]))
  go_enter Tryz.func5, Tryz.ntmps5
  go_wp2_with fail
  refine (F0.out _ HX.out.below).mono ?_
  rintro e w1 ⟨rfl, hb1⟩
  replace HX := hid (HX.out.step hb1)
  clear hb1
  go_wp2_with fail
  replace HX := hid (HX.out.step ((Below.refl _ _).drew))
  have HS := hid (bx_five HX.out)
  go_region_held3 (fun W => W.cell? ⟨w.heap.size, 0, none⟩ = some (.int .i64 op) ∧ W.cell? ⟨w.heap.size, 1, none⟩ = some (.string ⟨nm.toArray⟩) ∧ W.cell? ⟨w.heap.size, 2, none⟩ = some (.int .i64 n) ∧ W.cell? ⟨w.heap.size, 3, none⟩ = some (.string ⟨t.toArray⟩) ∧ W.cell? ⟨w.heap.size, 4, none⟩ = some (.slice A l.length c))
    (first | exact HS.out | go_keep)
    (first
      | (go_at_call 13; (with_reducible refine (R1.out _ HX.out.below).mono ?_); rintro e w4 ⟨rfl, hb4⟩; replace HX := hid (HX.out.step hb4); have HS := hid (bx_five HX.out); clear hb4)
      | (go_at_call 18; (with_reducible refine (R2.out _ HX.out.below).mono ?_); rintro e w4 ⟨rfl, hb4⟩; replace HX := hid (HX.out.step hb4); have HS := hid (bx_five HX.out); clear hb4)
      | (go_at_call 16; (with_reducible refine (R3.out _ HX.out.below).mono ?_); rintro e w4 ⟨rfl, hb4⟩; replace HX := hid (HX.out.step hb4); have HS := hid (bx_five HX.out); clear hb4)
      | (go_at_call 19; (with_reducible refine (R4.out _ HX.out.below).mono ?_); rintro e w4 ⟨rfl, hb4⟩; replace HX := hid (HX.out.step hb4); have HS := hid (bx_five HX.out); clear hb4)
      | (go_at_call 20; (with_reducible refine (R5.out _ HX.out.below).mono ?_); rintro e w4 ⟨rfl, hb4⟩; replace HX := hid (HX.out.step hb4); have HS := hid (bx_five HX.out); clear hb4)
      | (go_at_call 21; (with_reducible refine (R6.out _ HX.out.below).mono ?_); rintro e w4 ⟨rfl, hb4⟩; replace HX := hid (HX.out.step hb4); have HS := hid (bx_five HX.out); clear hb4)
      | (go_at_call 22; (with_reducible refine (R7.out _ HX.out.below).mono ?_); rintro e w4 ⟨rfl, hb4⟩; replace HX := hid (HX.out.step hb4); have HS := hid (bx_five HX.out); clear hb4)
      | (go_at_call 23; (with_reducible refine (R8.out _ HX.out.below).mono ?_); rintro e w4 ⟨rfl, hb4⟩; replace HX := hid (HX.out.step hb4); have HS := hid (bx_five HX.out); clear hb4)
      | (go_at_call 9; (with_reducible refine (WK.out _ HX.out.below).mono ?_); rintro e w4 ⟨rfl, hb4⟩; replace HX := hid (HX.out.step hb4); have HS := hid (bx_five HX.out); clear hb4))
  all_goals
    go_wp2_with fail
    go_ret
    exact ⟨rfl, HX.out.below⟩


theorem own : ownKnob Tryz.prog.godebug = none := by kernel_rfl
theorem laidOut : laidOutB Tryz.prog = true := by kernel_rfl

set_option maxRecDepth 100000 in
/-- What the walk gives, for every argument and every world that holds what is listed. -/
theorem contract (H : Type) (enc : TypeId × Value → H) (W : World) (base : Nat) (args : Array Value) (ds gs : List (DataW H)) (before : List MemPlace)
    (hval0 : ∀ (j : Nat) t v, Tryz.f5.params[j]? = some t → args[j]? = some v → Value.okWide Tryz.prog W .any base t v)
    (hW : DataW.Whole enc Tryz.prog Tryz.f5.params.toList Rows.syntaxRightSpec.vars false W args.toList ds gs before) (hsz : (DataW.weightsEach Tryz.prog (Tryz.f5.params.toList ++ (OpenSpec.ofChange Rows.syntaxRightSpec).bare.plain.varTypes Tryz.prog) (ds ++ gs)).all (· ≤ reachBytes) = true) (hG : Good W) :
    Calls Tryz.prog 5 args W fun e W' => ∃ v, e = .returned v ∧ Rows.syntaxRightSpec.post enc Tryz.prog Tryz.f5 false true false false W args v W' := by
  have hval := hval0
  have hW' := hW
  obtain ⟨p, q, hA0, hV, rfl, hfz, hnd⟩ := hW
  have hA : DataW.TrodAll enc Tryz.prog W 0 (fun _ => true) true Tryz.f5.params.toList args.toList ds p := hA0
  rw [Tryz.params5] at hA hval hsz
  obtain ⟨v0, vs0, d0, ds0, p0, q0, hargs, rfl, rfl, h0, r0⟩ := trodAll_cons hA
  obtain ⟨rfl, rfl, rfl⟩ := trodAll_nil r0
  obtain rfl : args = #[v0] := Array.toList_inj.1 (by first | exact hargs | simpa using hargs)
  obtain ⟨rfl, rfl⟩ := trodVars_none hV
  have k0 := h0
  have lt0 : ∀ x ∈ p0, x.block < W.heap.size := by obtain ⟨m, hm⟩ := k0; exact DataW.trod_lt m _ _ _ hm
  have z0 : ∀ n ∈ d0.weights Tryz.prog 25, n ≤ reachBytes := fun n hn => by have := List.all_eq_true.1 hsz n (DataW.weights_mem_each (j := 0) (t := 25) (d := d0) rfl rfl n hn); simpa using this
  obtain ⟨l0, b0⟩ := open_node (hval 0 25 v0 rfl rfl) h0 z0
  clear hA0 hval0
  refine (walk W hG v0 l0 b0).mono fun e W' ⟨he, bel⟩ => ?_
  subst he
  exact ⟨_, rfl, _, _, _, [], _, [], hW', trodAll_mk1 (shut_bool Tryz.underlying4 _), (trodAll_cons_mk (Below.trod laidOut (by kernel_rfl) (of_decide_eq_true (by kernel_rfl)) k0 bel lt0) trodAll_mk0), rfl, bel.frame _, fun h => by cases h⟩

theorem reads (os : Os) {H : Type} (enc : TypeId × Value → H) : ∃ places, DataW.whole enc Tryz.prog ((World.doorLaid Tryz.prog 400 os).forCall (fun _ _ => 0) ⟨#[], #[.agg #[.int .i64 0, .string ByteArray.empty, .int .i64 0, .string ByteArray.empty, .slice none 0 0]], []⟩).memory Tryz.f5.params.toList Rows.syntaxRightSpec.vars false (#[.agg #[.int .i64 0, .string ByteArray.empty, .int .i64 0, .string ByteArray.empty, .slice none 0 0]] : Array Value).toList 8 = some ([.agg [.lit (.int .i64 0), .lit (.string []), .lit (.int .i64 0), .lit (.string []), .nil]], [], places) :=
  ⟨[], by kernel_rfl⟩

set_option maxRecDepth 100000 in
theorem lifted (os : Os) (started : os.Started) (H : Type) (enc : TypeId × Value → H) (F : Stop.Interp) :
    ReturnsInHanded {} Tryz.checked os 5 .any ((OpenSpec.ofChange Rows.syntaxRightSpec).preRow enc Tryz.prog Tryz.f5 Rows.syntaxRightRow.domain false Rows.syntaxRightRow.laid) (((OpenSpec.ofChange Rows.syntaxRightSpec).at F).post enc Tryz.prog Tryz.f5 false true false false) := by
  obtain ⟨places, hx⟩ := reads os enc
  refine returnsInHanded_of_row (C := Tryz.checked) (s := OpenSpec.ofChange Rows.syntaxRightSpec) own started (by kernel_rfl) Tryz.func5
    (witness_row_atRef (enc := enc) (C := Tryz.checked) false (World.doorLaid Tryz.prog 400 os) #[.agg #[.int .i64 0, .string ByteArray.empty, .int .i64 0, .string ByteArray.empty, .slice none 0 0]] rfl (by kernel_rfl) (by kernel_rfl) (by kernel_rfl)
      (OpenSpec.preRow_of_cond 8 hx (by kernel_rfl) (fun k hk => by cases hk) (by kernel_rfl) (door_met os _))) ?_
  intro W base args ds gs before hval hW _ _ hsz hL _ _
  exact contract H enc W base args ds gs before hval hW hsz (good_of hL)

theorem over : Rows.SyntaxRightSaid :=
  OpenClaim.holds_of_cond 5 Tryz.f5 rfl rfl rfl rfl rfl rfl rfl ⟨rfl, rfl, rfl, rfl, rfl⟩ rfl rfl rfl rfl rfl (by kernel_rfl) Tryz.func5 (by kernel_rfl)
    (of_decide_eq_true (by kernel_rfl)) (by unfold Func.isWrapper; first | (rw [if_pos (by decide +kernel)]; kernel_rfl) | (rw [if_neg (by decide +kernel)]; exact ⟨rfl, rfl⟩))
    (fun os started H enc _ F => by rw [OpenClaim.pre_eq_preRow]; exact lifted os started H enc F)

theorem plain (f : FuncId) (fn : Func) (hf : Tryz.pinned.checked.prog.funcNamed "workflow/workflowlaw08.SyntaxRight" = some f) (hfn : Tryz.pinned.checked.prog.funcs[f]? = some fn) :
    true = Tryz.pinned.checked.prog.looks [] ∧ ∀ (j : Nat) t, fn.params[j]? = some t → Tryz.pinned.checked.prog.wantsStandIn t = false := by
  obtain rfl : f = 5 := Option.some.inj ((show Tryz.prog.funcNamed "workflow/workflowlaw08.SyntaxRight" = some 5 by kernel_rfl).symm.trans hf) |>.symm
  obtain rfl : fn = Tryz.f5 := (Option.some.inj (Tryz.func5.symm.trans hfn)).symm
  refine ⟨by kernel_rfl, fun j t ht => ?_⟩
  rw [Tryz.params5] at ht
  have hm : t ∈ [25] := by simpa using Array.mem_of_getElem? ht
  have hall : ([25].all fun u => !Tryz.prog.wantsStandIn u) = true := by kernel_rfl
  exact (show Tryz.prog.wantsStandIn t = false by simpa using List.all_eq_true.1 hall t hm)

/-- THE STATEMENT: THE CARD. -/
theorem proved : Rows.SyntaxRightCardSaid :=
  Claim7.holds_tied_plain_at .later [] _ _ _ _ over (fun _ h => by cases h) (by kernel_rfl) (fun _ h => by cases h) syntaxRight_row_tie rfl ⟨rfl, rfl⟩ (by kernel_rfl) rfl plain (by kernel_rfl)
#print axioms proved
end Go.Proofs.YtcanibnffaakeaaGreatDoor.syntaxRight
