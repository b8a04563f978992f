/-
  WHAT IS PROVED: the statement TokenOffsets of layer 7 (Rows.TokenOffsetsCardSaid): for every input, of any size, the Go function workflowlaw07.TokenOffsets returns true, and each argument reads afterwards as it read before. CONDITIONS: the package-level variables that the row lists (two errors and three tables of Go's library) start as the program's text lays them: the card ties them to it. None beyond the row's own.
-/
import Derived.Test.YtodcgdiejmdaaaaDoorCards
import Derived.Test.YtodcgdiejmdaaaaDoorTie
import Derived.Test.YtodcgdiejmdaaaaDoorTOffs
import Derived.Test.YtodcgdiejmdaaaaDoorTWks
import Derived.Test.YtodcgdiejmdaaaaDoorNLaid
import Derived.Test.YtodcgdiejmdaaaaDoorNLaid
import Derived.ProofKit
import Derived.OpenShut
import Derived.ShutString
import Derived.ChangeOld
import Derived.SevenTiedAt
import Derived.Deep.DeepHandedRow
import Derived.Deep.DeepWitnessRowRef
namespace Go.Proofs.YtodcgdiejmdaaaaDoor.tokenOffsets
open Go.ChangeShapes Go.WideShapes Go.ChangeAt Go.RowKit
open Go.ChangeMaps (open_string shut_string)
set_option linter.unusedVariables false

theorem drop_cons' {l : List Tk.T} {i : Nat} (h : i < l.length) : l.drop i = l[i] :: l.drop (i + 1) := List.drop_eq_getElem_cons h

set_option maxRecDepth 100000 in
set_option maxHeartbeats 4000000 in
theorem walk (w : World) (hG : Good w) (s : ByteArray) (hs : s.size ≤ maxLen) :
    Calls Tryd.prog 8 #[.string s] w fun e w' => e = .returned (.bool true) ∧ Below w.heap.size w w' := by
  have HG := hid hG
  clear hG
  by_cases h : (400 : Int) < (s.size : Int)
  · go_enter Tryd.func8, Tryd.ntmps8
    go_wp2_with fail
    refine (works_any _ HG.out).mono ?_
    rintro e w3 ⟨rfl, hb3⟩
    go_wp2_with fail
    go_ret
    exact ⟨rfl, hb3⟩
  have hsl : s.data.toList.length = s.size := by simp
  have C1 := hid (scan_any s w HG.out)
  cases hR : Tk.scanA s.data.toList with
  | bad o e0 =>
    rw [hR] at C1
    have he0 : (e0 != 0) = true := by have := Tk.scanA_err hR; simpa using this
    clear hR
    go_enter Tryd.func8, Tryd.ntmps8
    go_wp2_with fail
    refine C1.out.mono ?_
    rintro e w1 ⟨rfl, hb1⟩
    have HB1 := hid hb1
    clear hb1
    go_wp2_with fail
    refine (works_any w1 (HG.out.below HB1.out)).mono ?_
    rintro e w3 ⟨rfl, hb3⟩
    go_wp2_with fail
    go_ret
    exact ⟨rfl, HB1.out.trans (hb3.mono HB1.out.size)⟩
  | good l =>
    rw [hR] at C1
    have HOF := hid (Tk.scanA_offs hR)
    have hne := Tk.offs_ne HOF.out
    have hpos : 0 < l.length := List.length_pos_iff.2 hne
    clear hR hne
    go_enter Tryd.func8, Tryd.ntmps8
    go_wp2_with fail
    refine C1.out.mono ?_
    rintro e w1 ⟨v, rfl, ho1, hb1⟩
    have HR := hid ho1.rd
    have HB1 := hid hb1
    have hll : Hid (l.length ≤ 1000000 ∨ True) := .inr trivial
    obtain ⟨A, c, hcl, hcm, hv⟩ : ∃ A c, l.length ≤ c ∧ c ≤ maxLen ∧ v = .slice A l.length c := by
      obtain ⟨A, c, hv, h1, h2, _⟩ := ho1.rd
      exact ⟨A, c, h1, h2, hv⟩
    subst hv
    have hlm : l.length ≤ 9223372036854775807 := by unfold maxLen at hcm; omega
    clear ho1 hb1 hll hcl hcm
    go_wp2_with fail
    go_loopw [25, 6] (fun v25 v6 wr => ∃ (i : Nat) (last : Int), i ≤ l.length ∧ v25 = .int .i64 (i : Int) ∧ v6 = .int .i64 last ∧ Hid (i < l.length → Tk.Offs s.data.toList last (l.drop i)) ∧ Hid (Below w1.heap.size w1 wr) ∧ (-1 ≤ last ∧ last ≤ 400)) (fun v25 _ _ => l.length - (intOf v25).toNat)
    case atStart => exact ⟨0, -1, Nat.zero_le _, rfl, rfl, fun _ => HOF.out, Below.refl _ _, by omega⟩
    case round =>
      obtain ⟨i, last, hi, rfl, rfl, hof, hbr, hlast⟩ := hrel
      by_cases hlt : i < l.length
      · have HO := hid (hof.out hlt)
        have hd := drop_cons' hlt
        rw [hd] at HO
        obtain ⟨b, o, rfl, p0, p1, p2, p3⟩ := (HR.out.keep hbr.out).at_ i hlt
        by_cases hlast' : i + 1 = l.length
        · have hnil : l.drop (i + 1) = [] := List.drop_eq_nil_of_le (by omega)
          obtain ⟨t1, t2, t3⟩ := Tk.offs_one HO.out hnil
          rw [t1] at p0
          rw [t2, hsl] at p1
          rw [t2, hsl] at t3
          have hie : ((i : Int) == (l.length : Int) - 1) = true := by simp; omega
          have a1 : ¬ (s.size : Int) ≤ last := by omega
          have a2 : ¬ (s.size : Int) < last := by omega
          clear hd hnil t1 t2
          go_wp2_with fail
          refine ⟨⟨i + 1, (s.size : Int), by omega, by go_num, rfl, fun h => absurd h (by omega), hbr.out.alloc hbr.out.size _, by omega⟩, ?_⟩
          simp [intOf]; omega
        · have hnn : l.drop (i + 1) ≠ [] := by
            intro e
            have := congrArg List.length e
            simp at this; omega
          obtain ⟨t1, t2, ⟨j, hj, t3, t4⟩, t5⟩ := Tk.offs_more HO.out hnn
          rw [t3] at p1 t2 t5
          have hjs : j < s.size := by omega
          have hie : ((i : Int) == (l.length : Int) - 1) = false := by simp; omega
          have hk0 : (l[i].k == 0) = false := by simpa using t1
          have a1 : ¬ (j : Int) ≤ last := by omega
          have a2 : ¬ (j : Int) < last := by omega
          have a3 : ¬ (s.size : Int) ≤ (j : Int) := by omega
          have hc : s.data.toList[j] = s[j] := rfl
          rw [hc] at t4
          unfold Tk.blank at t4
          simp only [Bool.or_eq_false_iff, decide_eq_false_iff_not] at t4
          obtain ⟨⟨c1, c2⟩, c3⟩ := t4
          have d1 : ((s[j].toNat : Int) == 32) = false := by simp; omega
          have d2 : ((s[j].toNat : Int) == 9) = false := by simp; omega
          have d3 : ((s[j].toNat : Int) == 10) = false := by simp; omega
          have HT5 := hid t5
          clear hd hnn t1 t2 t3 t5 hc c1 c2 c3
          go_wp2_with fail
          refine ⟨⟨i + 1, (j : Int), by omega, by go_num, rfl, fun _ => HT5.out, hbr.out.alloc hbr.out.size _, by omega⟩, ?_⟩
          simp [intOf]; omega
      · have hlt' : ¬ ((i : Int) < (l.length : Int)) := by omega
        have hpos' : 0 < (l.length : Int) := by omega
        have HBF := hid (HB1.out.trans (hbr.out.mono HB1.out.size))
        go_wp2_with fail
        refine (works_any _ (HG.out.below HBF.out)).mono ?_
        rintro e w3 ⟨rfl, hb3⟩
        go_wp2_with fail
        go_ret
        exact ⟨rfl, HBF.out.trans (hb3.mono HBF.out.size)⟩


theorem own : ownKnob Tryd.prog.godebug = none := by kernel_rfl
theorem laidOut : laidOutB Tryd.prog = true := by kernel_rfl

set_option maxRecDepth 100000 in
/-- What the walk gives, for every argument and every world that holds what is listed. -/
theorem contract (H : Type) (enc : TypeId × Value → H) (W : World) (base : Nat) (args : Array Value) (ds gs : List (DataW H)) (before : List MemPlace)
    (hval0 : ∀ (j : Nat) t v, Tryd.f8.params[j]? = some t → args[j]? = some v → Value.okWide Tryd.prog W .any base t v)
    (hW : DataW.Whole enc Tryd.prog Tryd.f8.params.toList Rows.tokenOffsetsSpec.vars false W args.toList ds gs before) (hG : Good W) :
    Calls Tryd.prog 8 args W fun e W' => ∃ v, e = .returned v ∧ Rows.tokenOffsetsSpec.post enc Tryd.prog Tryd.f8 false true false false W args v W' := by
  have hval := hval0
  have hW' := hW
  obtain ⟨p, q, hA0, hV, rfl, hfz, hnd⟩ := hW
  have hA : DataW.TrodAll enc Tryd.prog W 0 (fun _ => true) true Tryd.f8.params.toList args.toList ds p := hA0
  rw [Tryd.params8] at hA hval
  obtain ⟨v0, vs0, d0, ds0, p0, q0, hargs, rfl, rfl, h0, r0⟩ := trodAll_cons hA
  obtain ⟨rfl, rfl, rfl⟩ := trodAll_nil r0
  obtain rfl : args = #[v0] := Array.toList_inj.1 (by first | exact hargs | simpa using hargs)
  obtain ⟨rfl, rfl⟩ := trodVars_none hV
  obtain ⟨a0, rfl, rfl, rfl, w0⟩ := open_string Tryd.underlying9 (hval 0 9 v0 rfl rfl) h0
  clear hA0 hval0
  refine (walk W hG a0 w0).mono fun e W' ⟨he, bel⟩ => ?_
  subst he
  exact ⟨_, rfl, _, _, _, [], _, [], hW', trodAll_mk1 (shut_bool Tryd.underlying4 _), (trodAll_cons_mk (shut_string Tryd.underlying9 w0) trodAll_mk0), rfl, bel.frame _, fun h => by cases h⟩

theorem reads (os : Os) {H : Type} (enc : TypeId × Value → H) : ∃ places, DataW.whole enc Tryd.prog ((World.doorLaid Tryd.prog 400 os).forCall (fun _ _ => 0) ⟨#[], #[.string ByteArray.empty], []⟩).memory Tryd.f8.params.toList Rows.tokenOffsetsSpec.vars false (#[.string ByteArray.empty] : Array Value).toList 8 = some ([.lit (.string [])], [], places) :=
  ⟨[], by kernel_rfl⟩

set_option maxRecDepth 100000 in
theorem lifted (os : Os) (started : os.Started) (H : Type) (enc : TypeId × Value → H) (F : Stop.Interp) :
    ReturnsInHanded {} Tryd.checked os 8 .any ((OpenSpec.ofChange Rows.tokenOffsetsSpec).preRow enc Tryd.prog Tryd.f8 Rows.tokenOffsetsRow.domain false Rows.tokenOffsetsRow.laid) (((OpenSpec.ofChange Rows.tokenOffsetsSpec).at F).post enc Tryd.prog Tryd.f8 false true false false) := by
  obtain ⟨places, hx⟩ := reads os enc
  refine returnsInHanded_of_row (C := Tryd.checked) (s := OpenSpec.ofChange Rows.tokenOffsetsSpec) own started (by kernel_rfl) Tryd.func8
    (witness_row_atRef (enc := enc) (C := Tryd.checked) false (World.doorLaid Tryd.prog 400 os) #[.string ByteArray.empty] rfl (by kernel_rfl) (by kernel_rfl) (by kernel_rfl)
      (OpenSpec.preRow_of_cond 8 hx (by kernel_rfl) (fun k hk => by cases hk) (by kernel_rfl) (door_met os _))) ?_
  intro W base args ds gs before hval hW _ _ _ hL _ _
  exact contract H enc W base args ds gs before hval hW (good_of hL)

theorem over : Rows.TokenOffsetsSaid :=
  OpenClaim.holds_of_cond 8 Tryd.f8 rfl rfl rfl rfl rfl rfl rfl ⟨rfl, rfl, rfl, rfl, rfl⟩ rfl rfl rfl rfl rfl (by kernel_rfl) Tryd.func8 (by kernel_rfl)
    (of_decide_eq_true (by kernel_rfl)) (by unfold Func.isWrapper; first | (rw [if_pos (by decide +kernel)]; kernel_rfl) | (rw [if_neg (by decide +kernel)]; exact ⟨rfl, rfl⟩))
    (fun os started H enc _ F => by rw [OpenClaim.pre_eq_preRow]; exact lifted os started H enc F)

theorem plain (f : FuncId) (fn : Func) (hf : Tryd.pinned.checked.prog.funcNamed "workflow/workflowlaw07.TokenOffsets" = some f) (hfn : Tryd.pinned.checked.prog.funcs[f]? = some fn) :
    true = Tryd.pinned.checked.prog.looks [] ∧ ∀ (j : Nat) t, fn.params[j]? = some t → Tryd.pinned.checked.prog.wantsStandIn t = false := by
  obtain rfl : f = 8 := Option.some.inj ((show Tryd.prog.funcNamed "workflow/workflowlaw07.TokenOffsets" = some 8 by kernel_rfl).symm.trans hf) |>.symm
  obtain rfl : fn = Tryd.f8 := (Option.some.inj (Tryd.func8.symm.trans hfn)).symm
  refine ⟨by kernel_rfl, fun j t ht => ?_⟩
  rw [Tryd.params8] at ht
  have hm : t ∈ [9] := by simpa using Array.mem_of_getElem? ht
  have hall : ([9].all fun u => !Tryd.prog.wantsStandIn u) = true := by kernel_rfl
  exact (show Tryd.prog.wantsStandIn t = false by simpa using List.all_eq_true.1 hall t hm)

/-- THE STATEMENT: THE CARD. -/
theorem proved : Rows.TokenOffsetsCardSaid :=
  Claim7.holds_tied_plain_at .later [] _ _ _ _ over (fun _ h => by cases h) (by kernel_rfl) (fun _ h => by cases h) tokenOffsets_row_tie rfl ⟨rfl, rfl⟩ (by kernel_rfl) rfl plain (by kernel_rfl)
#print axioms proved
end Go.Proofs.YtodcgdiejmdaaaaDoor.tokenOffsets
