/-
  WHAT IS PROVED: the statement NameRuns of layer 6 (Rows.NameRunsCardSaid): for every input, of any size, the Go function workflowlaw06.NameRuns returns true, and each argument reads afterwards as it read before. CONDITIONS: the package-level variables that the row lists (two errors and three tables of Go's library) start as the program's text lays them: the card ties them to it. None beyond the row's own.
-/
import Derived.Test.YtcpahiipibpphaaDoorCards
import Derived.Test.YtcpahiipibpphaaDoorTie
import Derived.Test.YtcpahiipibpphaaDoorNLives
import Derived.Test.YtcpahiipibpphaaDoorNLaid
import Derived.ProofKit
import Derived.OpenShut
import Derived.ShutString
import Derived.ChangeOld
import Derived.SevenTiedAt
import Derived.Deep.DeepHandedRow
import Derived.Deep.DeepWitnessRowRef
namespace Go.Proofs.YtcpahiipibpphaaDoor.nameRuns
open Go.ChangeShapes Go.WideShapes Go.ChangeAt Go.RowKit
open Go.ChangeMaps (open_string shut_string)
set_option linter.unusedVariables false

theorem numPair_form (s : ByteArray) : numPair s.data.toList = .tuple #[.int .i64 0, .bool false] ∨ ∃ m : Int, 1 ≤ m ∧ m ≤ 9223372036854775807 ∧ Nm.runS m = s.data.toList ∧ numPair s.data.toList = .tuple #[.int .i64 m, .bool true] := by
  rcases Nm.numOf_cases s.data.toList with ⟨h0, h⟩ | ⟨h1, h2, h3⟩
  · exact Or.inl (numPair_no h)
  · exact Or.inr ⟨_, h1, h2, h3.symm, numPair_hit h1 h2 h3.symm⟩
theorem numPair_nil : numPair [] = .tuple #[.int .i64 0, .bool false] := numPair_no (by rintro ⟨n, h1, _, he⟩; rw [Nm.runS_hi h1] at he; simp at he)
theorem strOf_of {l : List UInt8} {s : ByteArray} (h : l = s.data.toList) : strOf l = .string s := by rw [h]; rfl

set_option maxRecDepth 100000 in
set_option maxHeartbeats 2000000 in
theorem walk (w : World) (hG : Good w) (n : Int) (hn : (Lit.int .i64 n).wf = true) (s : ByteArray) (hs : s.size ≤ maxLen) :
    Calls Tryd.prog 4 #[.int .i64 n, .string s] w fun e w' => e = .returned (.bool true) ∧ Below w.heap.size w w' := by
  have hlo := int_lo hn
  have hhi := int_hi hn
  clear hn
  have HG := hid hG
  clear hG
  by_cases h1 : 10000 < s.size
  · go_enter Tryd.func4, Tryd.ntmps4
    go_wp2_with fail
    refine (lives_any _ HG.out).mono ?_
    rintro e w3 ⟨rfl, hb3⟩
    go_wp2_with fail
    go_ret
    exact ⟨rfl, hb3⟩
  have C1 := hid (fun W h => number_any s W h (by omega))
  have C2 := hid (fun W => rnumber_any s W (by omega))
  have C3 := hid (fun W h => run_any n W h hlo hhi)
  have C4 := hid (fun W => rrun_any n W hhi)
  have hf := numPair_form s
  obtain ⟨r, hr⟩ : ∃ r : ByteArray, strOf (Nm.runS n) = .string r ∧ r.data.toList = Nm.runS n := ⟨⟨(Nm.runS n).toArray⟩, rfl, by simp⟩
  obtain ⟨hr1, hr2⟩ := hr
  rw [hr1] at C3 C4
  have hrl : r.size ≤ 20 := by
    rw [size_list, hr2]
    by_cases hn1 : n < 1
    · rw [Nm.runS_lo hn1]; simp
    · exact Nm.run_len (by omega) hhi
  have C5 := hid (fun W h => number_any r W h (by omega))
  by_cases hn1 : n < 1
  · rw [Nm.runS_lo hn1] at hr2
    rw [hr2, numPair_nil] at C5
    clear hr1 hr2 hrl
    generalize numPair s.data.toList = V at *
    rcases hf with rfl | ⟨m, hm1, hm2, hm3, rfl⟩
    · have hhh := HG.out
      go_enter Tryd.func4, Tryd.ntmps4
      go_wp2_with fail
      refine (C1.out _ HG.out).mono ?_
      rintro e w1 ⟨rfl, hb⟩
      have HB := hid hb
      clear hb
      go_wp2_with fail
      refine (C2.out _).mono ?_
      rintro e w2 ⟨rfl, hb⟩
      have HB := hid (bstep HB.out hb)
      clear hb
      go_wp2_with fail
      refine (C3.out _ (HG.out.below HB.out)).mono ?_
      rintro e w3 ⟨rfl, hb⟩
      have HB := hid (bstep HB.out hb)
      clear hb
      go_wp2_with fail
      refine (C4.out _).mono ?_
      rintro e w4 ⟨rfl, hb⟩
      have HB := hid (bstep HB.out hb)
      clear hb
      go_wp2_with fail
      refine (C3.out _ (HG.out.below HB.out)).mono ?_
      rintro e w6 ⟨rfl, hb⟩
      have HB := hid (bstep HB.out hb)
      clear hb
      go_wp2_with fail
      refine (C5.out _ (HG.out.below HB.out)).mono ?_
      rintro e w7 ⟨rfl, hb⟩
      have HB := hid (bstep HB.out hb)
      clear hb
      go_wp2_with fail
      refine (lives_any _ (HG.out.below HB.out)).mono ?_
      rintro e w8 ⟨rfl, hb⟩
      have HB := hid (bstep HB.out hb)
      clear hb
      go_wp2_with fail
      go_ret
      exact ⟨rfl, HB.out⟩
    · have C6 := hid (fun W h => run_any m W h (by omega) hm2)
      rw [strOf_of hm3] at C6
      clear hm3
      go_enter Tryd.func4, Tryd.ntmps4
      go_wp2_with fail
      refine (C1.out _ HG.out).mono ?_
      rintro e w1 ⟨rfl, hb⟩
      have HB := hid hb
      clear hb
      go_wp2_with fail
      refine (C2.out _).mono ?_
      rintro e w2 ⟨rfl, hb⟩
      have HB := hid (bstep HB.out hb)
      clear hb
      go_wp2_with fail
      refine (C3.out _ (HG.out.below HB.out)).mono ?_
      rintro e w3 ⟨rfl, hb⟩
      have HB := hid (bstep HB.out hb)
      clear hb
      go_wp2_with fail
      refine (C4.out _).mono ?_
      rintro e w4 ⟨rfl, hb⟩
      have HB := hid (bstep HB.out hb)
      clear hb
      go_wp2_with fail
      refine (C6.out _ (HG.out.below HB.out)).mono ?_
      rintro e w5 ⟨rfl, hb⟩
      have HB := hid (bstep HB.out hb)
      clear hb
      go_wp2_with fail
      refine (C3.out _ (HG.out.below HB.out)).mono ?_
      rintro e w6 ⟨rfl, hb⟩
      have HB := hid (bstep HB.out hb)
      clear hb
      go_wp2_with fail
      refine (C5.out _ (HG.out.below HB.out)).mono ?_
      rintro e w7 ⟨rfl, hb⟩
      have HB := hid (bstep HB.out hb)
      clear hb
      go_wp2_with fail
      refine (lives_any _ (HG.out.below HB.out)).mono ?_
      rintro e w8 ⟨rfl, hb⟩
      have HB := hid (bstep HB.out hb)
      clear hb
      go_wp2_with fail
      go_ret
      exact ⟨rfl, HB.out⟩
  · have hnum := numPair_hit (l := r.data.toList) (by omega) hhi hr2.symm
    rw [hnum] at C5
    clear hnum
    clear hr1 hr2 hrl
    generalize numPair s.data.toList = V at *
    rcases hf with rfl | ⟨m, hm1, hm2, hm3, rfl⟩
    · have hhh := HG.out
      go_enter Tryd.func4, Tryd.ntmps4
      go_wp2_with fail
      refine (C1.out _ HG.out).mono ?_
      rintro e w1 ⟨rfl, hb⟩
      have HB := hid hb
      clear hb
      go_wp2_with fail
      refine (C2.out _).mono ?_
      rintro e w2 ⟨rfl, hb⟩
      have HB := hid (bstep HB.out hb)
      clear hb
      go_wp2_with fail
      refine (C3.out _ (HG.out.below HB.out)).mono ?_
      rintro e w3 ⟨rfl, hb⟩
      have HB := hid (bstep HB.out hb)
      clear hb
      go_wp2_with fail
      refine (C4.out _).mono ?_
      rintro e w4 ⟨rfl, hb⟩
      have HB := hid (bstep HB.out hb)
      clear hb
      go_wp2_with fail
      refine (C3.out _ (HG.out.below HB.out)).mono ?_
      rintro e w6 ⟨rfl, hb⟩
      have HB := hid (bstep HB.out hb)
      clear hb
      go_wp2_with fail
      refine (C5.out _ (HG.out.below HB.out)).mono ?_
      rintro e w7 ⟨rfl, hb⟩
      have HB := hid (bstep HB.out hb)
      clear hb
      go_wp2_with fail
      refine (lives_any _ (HG.out.below HB.out)).mono ?_
      rintro e w8 ⟨rfl, hb⟩
      have HB := hid (bstep HB.out hb)
      clear hb
      go_wp2_with fail
      go_ret
      exact ⟨rfl, HB.out⟩
    · have C6 := hid (fun W h => run_any m W h (by omega) hm2)
      rw [strOf_of hm3] at C6
      clear hm3
      go_enter Tryd.func4, Tryd.ntmps4
      go_wp2_with fail
      refine (C1.out _ HG.out).mono ?_
      rintro e w1 ⟨rfl, hb⟩
      have HB := hid hb
      clear hb
      go_wp2_with fail
      refine (C2.out _).mono ?_
      rintro e w2 ⟨rfl, hb⟩
      have HB := hid (bstep HB.out hb)
      clear hb
      go_wp2_with fail
      refine (C3.out _ (HG.out.below HB.out)).mono ?_
      rintro e w3 ⟨rfl, hb⟩
      have HB := hid (bstep HB.out hb)
      clear hb
      go_wp2_with fail
      refine (C4.out _).mono ?_
      rintro e w4 ⟨rfl, hb⟩
      have HB := hid (bstep HB.out hb)
      clear hb
      go_wp2_with fail
      refine (C6.out _ (HG.out.below HB.out)).mono ?_
      rintro e w5 ⟨rfl, hb⟩
      have HB := hid (bstep HB.out hb)
      clear hb
      go_wp2_with fail
      refine (C3.out _ (HG.out.below HB.out)).mono ?_
      rintro e w6 ⟨rfl, hb⟩
      have HB := hid (bstep HB.out hb)
      clear hb
      go_wp2_with fail
      refine (C5.out _ (HG.out.below HB.out)).mono ?_
      rintro e w7 ⟨rfl, hb⟩
      have HB := hid (bstep HB.out hb)
      clear hb
      go_wp2_with fail
      refine (lives_any _ (HG.out.below HB.out)).mono ?_
      rintro e w8 ⟨rfl, hb⟩
      have HB := hid (bstep HB.out hb)
      clear hb
      go_wp2_with fail
      go_ret
      exact ⟨rfl, HB.out⟩


theorem own : ownKnob Tryd.prog.godebug = none := by kernel_rfl
theorem laidOut : laidOutB Tryd.prog = true := by kernel_rfl

/-- What the walk gives, for every argument and every world that holds what is listed. -/
theorem contract (H : Type) (enc : TypeId × Value → H) (W : World) (base : Nat) (args : Array Value) (ds gs : List (DataW H)) (before : List MemPlace)
    (hval0 : ∀ (j : Nat) t v, Tryd.f4.params[j]? = some t → args[j]? = some v → Value.okWide Tryd.prog W .any base t v)
    (hW : DataW.Whole enc Tryd.prog Tryd.f4.params.toList Rows.nameRunsSpec.vars false W args.toList ds gs before) (hG : Good W) :
    Calls Tryd.prog 4 args W fun e W' => ∃ v, e = .returned v ∧ Rows.nameRunsSpec.post enc Tryd.prog Tryd.f4 false true false false W args v W' := by
  have hval := hval0
  have hW' := hW
  obtain ⟨p, q, hA0, hV, rfl, hfz, hnd⟩ := hW
  have hA : DataW.TrodAll enc Tryd.prog W 0 (fun _ => true) true Tryd.f4.params.toList args.toList ds p := hA0
  rw [Tryd.params4] at hA hval
  obtain ⟨v0, vs0, d0, ds0, p0, q0, hargs, rfl, rfl, h0, r0⟩ := trodAll_cons hA
  obtain ⟨v1, vs1, d1, ds1, p1, q1, rfl, rfl, rfl, h1, r1⟩ := trodAll_cons r0
  obtain ⟨rfl, rfl, rfl⟩ := trodAll_nil r1
  obtain rfl : args = #[v0, v1] := by cases args; simp_all
  obtain ⟨rfl, rfl⟩ := trodVars_none hV
  obtain ⟨a0, rfl, rfl, rfl, w0⟩ := open_int Tryd.underlying3 (hval 0 3 v0 rfl rfl) h0
  obtain ⟨a1, rfl, rfl, rfl, w1⟩ := open_string Tryd.underlying9 (hval 1 9 v1 rfl rfl) h1
  clear hA0 hval0
  refine (walk W hG a0 w0 a1 w1).mono fun e W' ⟨he, bel⟩ => ?_
  subst he
  exact ⟨_, rfl, _, _, _, [], _, [], hW', trodAll_mk1 (shut_bool Tryd.underlying4 _), (trodAll_cons_mk (shut_int Tryd.underlying3 w0) (trodAll_cons_mk (shut_string Tryd.underlying9 w1) trodAll_mk0)), rfl, bel.frame _, fun h => by cases h⟩

theorem reads (os : Os) {H : Type} (enc : TypeId × Value → H) : ∃ places, DataW.whole enc Tryd.prog ((World.doorLaid Tryd.prog 400 os).forCall (fun _ _ => 0) ⟨#[], #[.int .i64 0, .string ByteArray.empty], []⟩).memory Tryd.f4.params.toList Rows.nameRunsSpec.vars false (#[.int .i64 0, .string ByteArray.empty] : Array Value).toList 8 = some ([.lit (.int .i64 0), .lit (.string [])], [], places) :=
  ⟨[], by kernel_rfl⟩

set_option maxRecDepth 100000 in
theorem lifted (os : Os) (started : os.Started) (H : Type) (enc : TypeId × Value → H) (F : Stop.Interp) :
    ReturnsInHanded {} Tryd.checked os 4 .any ((OpenSpec.ofChange Rows.nameRunsSpec).preRow enc Tryd.prog Tryd.f4 Rows.nameRunsRow.domain false Rows.nameRunsRow.laid) (((OpenSpec.ofChange Rows.nameRunsSpec).at F).post enc Tryd.prog Tryd.f4 false true false false) := by
  obtain ⟨places, hx⟩ := reads os enc
  refine returnsInHanded_of_row (C := Tryd.checked) (s := OpenSpec.ofChange Rows.nameRunsSpec) own started (by kernel_rfl) Tryd.func4
    (witness_row_atRef (enc := enc) (C := Tryd.checked) false (World.doorLaid Tryd.prog 400 os) #[.int .i64 0, .string ByteArray.empty] rfl (by kernel_rfl) (by kernel_rfl) (by kernel_rfl)
      (OpenSpec.preRow_of_cond 8 hx (by kernel_rfl) (fun k hk => by cases hk) (by kernel_rfl) (door_met os _))) ?_
  intro W base args ds gs before hval hW _ _ _ hL _ _
  exact contract H enc W base args ds gs before hval hW (good_of hL)

theorem over : Rows.NameRunsSaid :=
  OpenClaim.holds_of_cond 4 Tryd.f4 rfl rfl rfl rfl rfl rfl rfl ⟨rfl, rfl, rfl, rfl, rfl⟩ rfl rfl rfl rfl rfl (by kernel_rfl) Tryd.func4 (by kernel_rfl)
    (of_decide_eq_true (by kernel_rfl)) (by unfold Func.isWrapper; first | (rw [if_pos (by decide +kernel)]; kernel_rfl) | (rw [if_neg (by decide +kernel)]; exact ⟨rfl, rfl⟩))
    (fun os started H enc _ F => by rw [OpenClaim.pre_eq_preRow]; exact lifted os started H enc F)

theorem plain (f : FuncId) (fn : Func) (hf : Tryd.pinned.checked.prog.funcNamed "workflow/workflowlaw06.NameRuns" = some f) (hfn : Tryd.pinned.checked.prog.funcs[f]? = some fn) :
    true = Tryd.pinned.checked.prog.looks [] ∧ ∀ (j : Nat) t, fn.params[j]? = some t → Tryd.pinned.checked.prog.wantsStandIn t = false := by
  obtain rfl : f = 4 := Option.some.inj ((show Tryd.prog.funcNamed "workflow/workflowlaw06.NameRuns" = some 4 by kernel_rfl).symm.trans hf) |>.symm
  obtain rfl : fn = Tryd.f4 := (Option.some.inj (Tryd.func4.symm.trans hfn)).symm
  refine ⟨by kernel_rfl, fun j t ht => ?_⟩
  rw [Tryd.params4] at ht
  have hm : t ∈ [3, 9] := by simpa using Array.mem_of_getElem? ht
  have hall : ([3, 9].all fun u => !Tryd.prog.wantsStandIn u) = true := by kernel_rfl
  exact (show Tryd.prog.wantsStandIn t = false by simpa using List.all_eq_true.1 hall t hm)

/-- THE STATEMENT: THE CARD. -/
theorem proved : Rows.NameRunsCardSaid :=
  Claim7.holds_tied_plain_at .later [] _ _ _ _ over (fun _ h => by cases h) (by kernel_rfl) (fun _ h => by cases h) nameRuns_row_tie rfl ⟨rfl, rfl⟩ (by kernel_rfl) rfl plain (by kernel_rfl)
#print axioms proved
end Go.Proofs.YtcpahiipibpphaaDoor.nameRuns
