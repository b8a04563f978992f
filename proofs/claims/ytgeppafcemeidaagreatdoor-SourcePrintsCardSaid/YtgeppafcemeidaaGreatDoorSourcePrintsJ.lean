/-
  WHAT IS PROVED: the statement SourcePrints of layer 9 (Rows.SourcePrintsCardSaid): for every input, of any size, the Go function workflowlaw09.SourcePrints returns true, and each argument reads afterwards as it read before. CONDITIONS: the package-level variables that the row lists (two errors and three tables of Go's library) start as the program's text lays them: the card ties them to it. None beyond the row's own.
-/
import Derived.Test.YtgeppafcemeidaaGreatDoorJPT1
import Derived.Test.YtgeppafcemeidaaGreatDoorJPZ1
import Derived.Test.YtgeppafcemeidaaGreatDoorCards
import Derived.Test.YtgeppafcemeidaaGreatDoorTie
import Derived.ProofKit
import Derived.OpenShut
import Derived.ShutString
import Derived.ChangeOld
import Derived.SevenTiedAt
import Derived.Deep.DeepHandedRow
import Derived.Deep.DeepWitnessRowRef
namespace Go.Proofs.YtgeppafcemeidaaGreatDoor.sourcePrints
open Go.ChangeShapes Go.WideShapes Go.ChangeAt Go.RowKit
open Go.ChangeMaps (open_string shut_string)
set_option linter.unusedVariables false

set_option maxRecDepth 100000 in
set_option maxHeartbeats 4000000 in
theorem walk (w : World) (hG : Good w) (v0 : Value) (x0 : Sy.N) (h0 : NA w (fun _ => True) v0 x0) (hs : Sy.sm x0 = true) :
    Calls Tryz.prog 5 #[v0] w fun e w' => e = .returned (.bool true) ∧ Below w.heap.size w w' := by
  have F0 := hid (fun W (hW : Below w.heap.size w W) => few9_any _ x0 v0 6000 W _ (Nat.le_refl _) hs (by omega) (by omega) (h0.below hW))
  have WK := hid (fun W (hW : Below w.heap.size w W) => lives_any W (hG.below hW))
  have R1 := hid (fun W (hW : Below w.heap.size w W) => print_any x0 v0 W _ (hG.below hW) (h0.below hW))
  have R2 := hid (fun W hsz (hW : Below w.heap.size w W) => rprint_any x0 v0 W _ hsz (h0.below hW))
  have R3 := hid (fun W (hW : Below w.heap.size w W) => printX_any x0 v0 W _ (hG.below hW) (h0.below hW))
  have R4 := hid (fun W hsz (hW : Below w.heap.size w W) => rprintX_any x0 v0 W _ hsz (h0.below hW))
  have HSM := hid (Sy.size_ms x0)
  generalize hp1 : (pr x0).1 = p1 at *
  generalize hp2 : (pr x0).2 = p2 at *
  generalize hq1 : (prX x0).1 = q1 at *
  generalize hq2 : (prX x0).2 = q2 at *
  clear hp1 hp2 hq1 hq2 hs
  obtain ⟨op, nm, n, t, l⟩ := x0
  obtain ⟨A, c, xs, rfl, ho, hl, hr, hvs⟩ := h0.open2
  clear h0 ho hr hvs hG
  have HX := hid (Bx.refl (w := w) (cs := #[.int .i64 op, .string ⟨nm.toArray⟩, .int .i64 n, .string ⟨t.toArray⟩, .slice A l.length c]))
  go_enter Tryz.func5, Tryz.ntmps5
  go_wp2_with fail
  refine (F0.out _ HX.out.below).mono ?_
  rintro e w1 ⟨⟨r, rfl, hr1, hr2, hr3⟩, hb1⟩
  replace HX := hid (HX.out.step hb1)
  clear hb1
  obtain ⟨a0, a1, a2, a3, a4⟩ := bx_five9 HX.out
  by_cases hneg : r < 0
  · go_wp2_with fail
    refine (WK.out _ HX.out.below).mono ?_
    rintro e w2 ⟨rfl, hb2⟩
    replace HX := hid (HX.out.step hb2)
    clear hb2
    go_wp2_with fail
    go_ret
    exact ⟨rfl, HX.out.below⟩
  have hsz : Sy.N.size (.mk op nm n t l) ≤ 1099511627776 := by
    have h1 := hr1 (by omega)
    have h2 := HSM.out
    omega
  have HSZ := hid hsz
  clear hsz HSM hr1
  go_wp2_with fail
  refine (R1.out _ HX.out.below).mono ?_
  rintro e w2 ⟨rfl, hb⟩
  replace HX := hid (HX.out.step hb)
  clear hb a0 a1 a2 a3 a4
  obtain ⟨a0, a1, a2, a3, a4⟩ := bx_five9 HX.out
  go_wp2_with fail
  refine (R2.out _ HSZ.out HX.out.below).mono ?_
  rintro e w3 ⟨rfl, hb⟩
  replace HX := hid (HX.out.step hb)
  clear hb a0 a1 a2 a3 a4
  obtain ⟨a0, a1, a2, a3, a4⟩ := bx_five9 HX.out
  go_wp2_with fail
  refine (R3.out _ HX.out.below).mono ?_
  rintro e w4 ⟨rfl, hb⟩
  replace HX := hid (HX.out.step hb)
  clear hb a0 a1 a2 a3 a4
  obtain ⟨a0, a1, a2, a3, a4⟩ := bx_five9 HX.out
  go_wp2_with fail
  refine (R4.out _ HSZ.out HX.out.below).mono ?_
  rintro e w5 ⟨rfl, hb⟩
  replace HX := hid (HX.out.step hb)
  clear hb a0 a1 a2 a3 a4
  go_wp2_with fail
  refine (WK.out _ HX.out.below).mono ?_
  rintro e w6 ⟨rfl, hb⟩
  replace HX := hid (HX.out.step hb)
  clear hb
  go_wp2_with fail
  go_ret
  exact ⟨rfl, HX.out.below⟩


theorem own : ownKnob Tryz.prog.godebug = none := by kernel_rfl
theorem laidOut : laidOutB Tryz.prog = true := by kernel_rfl

set_option maxRecDepth 100000 in
/-- What the walk gives, for every argument and every world that holds what is listed. -/
theorem contract (H : Type) (enc : TypeId × Value → H) (W : World) (base : Nat) (args : Array Value) (ds gs : List (DataW H)) (before : List MemPlace)
    (hval0 : ∀ (j : Nat) t v, Tryz.f5.params[j]? = some t → args[j]? = some v → Value.okWide Tryz.prog W .any base t v)
    (hW : DataW.Whole enc Tryz.prog Tryz.f5.params.toList Rows.sourcePrintsSpec.vars false W args.toList ds gs before) (hsz : (DataW.weightsEach Tryz.prog (Tryz.f5.params.toList ++ (OpenSpec.ofChange Rows.sourcePrintsSpec).bare.plain.varTypes Tryz.prog) (ds ++ gs)).all (· ≤ reachBytes) = true) (hG : Good W) :
    Calls Tryz.prog 5 args W fun e W' => ∃ v, e = .returned v ∧ Rows.sourcePrintsSpec.post enc Tryz.prog Tryz.f5 false true false false W args v W' := by
  have hval := hval0
  have hW' := hW
  obtain ⟨p, q, hA0, hV, rfl, hfz, hnd⟩ := hW
  have hA : DataW.TrodAll enc Tryz.prog W 0 (fun _ => true) true Tryz.f5.params.toList args.toList ds p := hA0
  rw [Tryz.params5] at hA hval hsz
  obtain ⟨v0, vs0, d0, ds0, p0, q0, hargs, rfl, rfl, h0, r0⟩ := trodAll_cons hA
  obtain ⟨rfl, rfl, rfl⟩ := trodAll_nil r0
  obtain rfl : args = #[v0] := Array.toList_inj.1 (by first | exact hargs | simpa using hargs)
  obtain ⟨rfl, rfl⟩ := trodVars_none hV
  have k0 := h0
  have lt0 : ∀ x ∈ p0, x.block < W.heap.size := by obtain ⟨m, hm⟩ := k0; exact DataW.trod_lt m _ _ _ hm
  have z0 : ∀ n ∈ d0.weights Tryz.prog 25, n ≤ reachBytes := fun n hn => by have := List.all_eq_true.1 hsz n (DataW.weights_mem_each (j := 0) (t := 25) (d := d0) rfl rfl n hn); simpa using this
  obtain ⟨l0, b0, c0⟩ := open_nodeS (hval 0 25 v0 rfl rfl) h0 z0
  clear hA0 hval0
  refine (walk W hG v0 l0 b0 c0).mono fun e W' ⟨he, bel⟩ => ?_
  subst he
  exact ⟨_, rfl, _, _, _, [], _, [], hW', trodAll_mk1 (shut_bool Tryz.underlying4 _), (trodAll_cons_mk (Below.trod laidOut (by kernel_rfl) (of_decide_eq_true (by kernel_rfl)) k0 bel lt0) trodAll_mk0), rfl, bel.frame _, fun h => by cases h⟩

theorem reads (os : Os) {H : Type} (enc : TypeId × Value → H) : ∃ places, DataW.whole enc Tryz.prog ((World.doorLaid Tryz.prog 400 os).forCall (fun _ _ => 0) ⟨#[], #[.agg #[.int .i64 0, .string ByteArray.empty, .int .i64 0, .string ByteArray.empty, .slice none 0 0]], []⟩).memory Tryz.f5.params.toList Rows.sourcePrintsSpec.vars false (#[.agg #[.int .i64 0, .string ByteArray.empty, .int .i64 0, .string ByteArray.empty, .slice none 0 0]] : Array Value).toList 8 = some ([.agg [.lit (.int .i64 0), .lit (.string []), .lit (.int .i64 0), .lit (.string []), .nil]], [], places) :=
  ⟨[], by kernel_rfl⟩

set_option maxRecDepth 100000 in
theorem lifted (os : Os) (started : os.Started) (H : Type) (enc : TypeId × Value → H) (F : Stop.Interp) :
    ReturnsInHanded {} Tryz.checked os 5 .any ((OpenSpec.ofChange Rows.sourcePrintsSpec).preRow enc Tryz.prog Tryz.f5 Rows.sourcePrintsRow.domain false Rows.sourcePrintsRow.laid) (((OpenSpec.ofChange Rows.sourcePrintsSpec).at F).post enc Tryz.prog Tryz.f5 false true false false) := by
  obtain ⟨places, hx⟩ := reads os enc
  refine returnsInHanded_of_row (C := Tryz.checked) (s := OpenSpec.ofChange Rows.sourcePrintsSpec) own started (by kernel_rfl) Tryz.func5
    (witness_row_atRef (enc := enc) (C := Tryz.checked) false (World.doorLaid Tryz.prog 400 os) #[.agg #[.int .i64 0, .string ByteArray.empty, .int .i64 0, .string ByteArray.empty, .slice none 0 0]] rfl (by kernel_rfl) (by kernel_rfl) (by kernel_rfl)
      (OpenSpec.preRow_of_cond 8 hx (by kernel_rfl) (fun k hk => by cases hk) (by kernel_rfl) (door_met os _))) ?_
  intro W base args ds gs before hval hW _ _ hsz hL _ _
  exact contract H enc W base args ds gs before hval hW hsz (good_of hL)

theorem over : Rows.SourcePrintsSaid :=
  OpenClaim.holds_of_cond 5 Tryz.f5 rfl rfl rfl rfl rfl rfl rfl ⟨rfl, rfl, rfl, rfl, rfl⟩ rfl rfl rfl rfl rfl (by kernel_rfl) Tryz.func5 (by kernel_rfl)
    (of_decide_eq_true (by kernel_rfl)) (by unfold Func.isWrapper; first | (rw [if_pos (by decide +kernel)]; kernel_rfl) | (rw [if_neg (by decide +kernel)]; exact ⟨rfl, rfl⟩))
    (fun os started H enc _ F => by rw [OpenClaim.pre_eq_preRow]; exact lifted os started H enc F)

theorem plain (f : FuncId) (fn : Func) (hf : Tryz.pinned.checked.prog.funcNamed "workflow/workflowlaw09.SourcePrints" = some f) (hfn : Tryz.pinned.checked.prog.funcs[f]? = some fn) :
    true = Tryz.pinned.checked.prog.looks [] ∧ ∀ (j : Nat) t, fn.params[j]? = some t → Tryz.pinned.checked.prog.wantsStandIn t = false := by
  obtain rfl : f = 5 := Option.some.inj ((show Tryz.prog.funcNamed "workflow/workflowlaw09.SourcePrints" = some 5 by kernel_rfl).symm.trans hf) |>.symm
  obtain rfl : fn = Tryz.f5 := (Option.some.inj (Tryz.func5.symm.trans hfn)).symm
  refine ⟨by kernel_rfl, fun j t ht => ?_⟩
  rw [Tryz.params5] at ht
  have hm : t ∈ [25] := by simpa using Array.mem_of_getElem? ht
  have hall : ([25].all fun u => !Tryz.prog.wantsStandIn u) = true := by kernel_rfl
  exact (show Tryz.prog.wantsStandIn t = false by simpa using List.all_eq_true.1 hall t hm)

/-- THE STATEMENT: THE CARD. -/
theorem proved : Rows.SourcePrintsCardSaid :=
  Claim7.holds_tied_plain_at .later [] _ _ _ _ over (fun _ h => by cases h) (by kernel_rfl) (fun _ h => by cases h) sourcePrints_row_tie rfl ⟨rfl, rfl⟩ (by kernel_rfl) rfl plain (by kernel_rfl)
#print axioms proved
end Go.Proofs.YtgeppafcemeidaaGreatDoor.sourcePrints
