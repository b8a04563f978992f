/-
  WHAT IS PROVED: the statement TokenLiteral of layer 7 (Rows.TokenLiteralCardSaid): for every input, of any size, the Go function workflowlaw07.TokenLiteral returns true, and each argument reads afterwards as it read before. CONDITIONS: the package-level variables that the row lists (two errors and three tables of Go's library) start as the program's text lays them: the card ties them to it. None beyond the row's own.
-/
import Derived.Test.YtodcgdiejmdaaaaDoorCards
import Derived.Test.YtodcgdiejmdaaaaDoorTie
import Derived.Test.YtodcgdiejmdaaaaDoorTLaw
import Derived.Test.YtodcgdiejmdaaaaDoorTWks
import Derived.Test.YtodcgdiejmdaaaaDoorNLaid
import Derived.Test.YtodcgdiejmdaaaaDoorNLaid
import Derived.ProofKit
import Derived.OpenShut
import Derived.ShutString
import Derived.ChangeOld
import Derived.SevenTiedAt
import Derived.Deep.DeepHandedRow
import Derived.Deep.DeepWitnessRowRef
namespace Go.Proofs.YtodcgdiejmdaaaaDoor.tokenLiteral
open Go.ChangeShapes Go.WideShapes Go.ChangeAt Go.RowKit
open Go.ChangeMaps (open_string shut_string)
set_option linter.unusedVariables false

set_option maxRecDepth 100000 in
set_option maxHeartbeats 2000000 in
theorem walk (w : World) (hG : Good w) (s : ByteArray) (hs : s.size ≤ maxLen) :
    Calls Tryd.prog 7 #[.string s] w fun e w' => e = .returned (.bool true) ∧ Below w.heap.size w w' := by
  have HG := hid hG
  clear hG
  by_cases h : (500 : Int) < (s.size : Int)
  · go_enter Tryd.func7, Tryd.ntmps7
    go_wp2_with fail
    refine (works_any _ HG.out).mono ?_
    rintro e w3 ⟨rfl, hb3⟩
    go_wp2_with fail
    go_ret
    exact ⟨rfl, hb3⟩
  · have hsl : s.data.toList.length ≤ 500 := (show s.data.toList.length = s.size by simp) ▸ (by omega : s.size ≤ 500)
    have C1 := hid (quote_any s w (by omega))
    have hql : (Tk.quote s.data.toList).length ≤ 10000 := by have := Tk.qcs_len s.data.toList; simp only [Tk.quote, List.length_cons, List.length_append, List.length_nil]; omega
    have hqs : (byS (Tk.quote s.data.toList)).size = (Tk.quote s.data.toList).length := byS_size _
    have C2 := hid (fun W hW => scan_any (byS (Tk.quote s.data.toList)) W hW)
    have h2 : Tk.scanA (byS (Tk.quote s.data.toList)).data.toList = .good [⟨4, 0, s.data.toList, 0⟩, ⟨0, ((Tk.quote s.data.toList).length : Int), [], 0⟩] := Tk.scan_quote s.data.toList (by omega)
    rw [h2] at C2
    clear h2 hsl
    generalize hqq : (Tk.quote s.data.toList).length = N at *
    generalize byS (Tk.quote s.data.toList) = q at *
    clear hqq
    have e0 : ∀ W : World, (binOp .eql 30 (.agg #[.int .i64 4, .int .i64 0, .string s, .int .i64 0]) (.agg #[.int .i64 4, .int .i64 0, .string s, .int .i64 0])).run Tryd.prog W = .ok (.bool true) W := fun W => by
      have := eql_tok ⟨4, 0, s.data.toList, 0⟩ ⟨4, 0, s.data.toList, 0⟩ W
      rw [show decide ((⟨4, 0, s.data.toList, 0⟩ : Tk.T) = ⟨4, 0, s.data.toList, 0⟩) = true by simp] at this
      exact this
    have e1 : ∀ W : World, (binOp .eql 30 (.agg #[.int .i64 0, .int .i64 (N : Int), .string ⟨#[]⟩, .int .i64 0]) (.agg #[.int .i64 0, .int .i64 (N : Int), .string ⟨#[]⟩, .int .i64 0])).run Tryd.prog W = .ok (.bool true) W := fun W => by
      have := eql_tok ⟨0, (N : Int), [], 0⟩ ⟨0, (N : Int), [], 0⟩ W
      rw [show decide ((⟨0, (N : Int), [], 0⟩ : Tk.T) = ⟨0, (N : Int), [], 0⟩) = true by simp] at this
      exact this
    have hgt := guard_tok
    go_enter Tryd.func7, Tryd.ntmps7
    go_wp2_with fail
    refine C1.out.mono ?_
    rintro e w1 ⟨rfl, hb1⟩
    have HB1 := hid hb1
    clear hb1
    go_wp2_with fail
    refine (C2.out w1 (HG.out.below HB1.out)).mono ?_
    rintro e w2 ⟨v, rfl, ho2, hb2⟩
    have HB2 := hid (HB1.out.trans (hb2.mono HB1.out.size))
    have hr := ho2.rd
    obtain ⟨A, c, hv⟩ : ∃ A c, v = .slice A 2 c := hr.form'
    subst hv
    obtain ⟨b, o, rfl, p0, p1, p2, p3⟩ := hr.at_ 0 (by simp)
    obtain ⟨b', o', he, q0, q1, q2, q3⟩ := hr.at_ 1 (by simp)
    injection he with he
    injection he with he1 he2
    subst he1
    subst he2
    simp only [List.getElem_cons_zero, List.getElem_cons_succ, Nat.zero_mul, Nat.one_mul, Nat.add_zero] at p0 p1 p2 p3 q0 q1 q2 q3
    replace p2 : w2.cell? ⟨b, o + 2, none⟩ = some (.string s) := p2
    replace q2 : w2.cell? ⟨b, o + 4 + 2, none⟩ = some (.string ⟨#[]⟩) := q2
    clear hr ho2 hb2
    go_wp2_with fail
    refine (works_any w2 (HG.out.below HB2.out)).mono ?_
    rintro e w3 ⟨rfl, hb3⟩
    go_wp2_with fail
    go_ret
    exact ⟨rfl, HB2.out.trans (hb3.mono HB2.out.size)⟩


theorem own : ownKnob Tryd.prog.godebug = none := by kernel_rfl
theorem laidOut : laidOutB Tryd.prog = true := by kernel_rfl

set_option maxRecDepth 100000 in
/-- What the walk gives, for every argument and every world that holds what is listed. -/
theorem contract (H : Type) (enc : TypeId × Value → H) (W : World) (base : Nat) (args : Array Value) (ds gs : List (DataW H)) (before : List MemPlace)
    (hval0 : ∀ (j : Nat) t v, Tryd.f7.params[j]? = some t → args[j]? = some v → Value.okWide Tryd.prog W .any base t v)
    (hW : DataW.Whole enc Tryd.prog Tryd.f7.params.toList Rows.tokenLiteralSpec.vars false W args.toList ds gs before) (hG : Good W) :
    Calls Tryd.prog 7 args W fun e W' => ∃ v, e = .returned v ∧ Rows.tokenLiteralSpec.post enc Tryd.prog Tryd.f7 false true false false W args v W' := by
  have hval := hval0
  have hW' := hW
  obtain ⟨p, q, hA0, hV, rfl, hfz, hnd⟩ := hW
  have hA : DataW.TrodAll enc Tryd.prog W 0 (fun _ => true) true Tryd.f7.params.toList args.toList ds p := hA0
  rw [Tryd.params7] at hA hval
  obtain ⟨v0, vs0, d0, ds0, p0, q0, hargs, rfl, rfl, h0, r0⟩ := trodAll_cons hA
  obtain ⟨rfl, rfl, rfl⟩ := trodAll_nil r0
  obtain rfl : args = #[v0] := Array.toList_inj.1 (by first | exact hargs | simpa using hargs)
  obtain ⟨rfl, rfl⟩ := trodVars_none hV
  obtain ⟨a0, rfl, rfl, rfl, w0⟩ := open_string Tryd.underlying9 (hval 0 9 v0 rfl rfl) h0
  clear hA0 hval0
  refine (walk W hG a0 w0).mono fun e W' ⟨he, bel⟩ => ?_
  subst he
  exact ⟨_, rfl, _, _, _, [], _, [], hW', trodAll_mk1 (shut_bool Tryd.underlying4 _), (trodAll_cons_mk (shut_string Tryd.underlying9 w0) trodAll_mk0), rfl, bel.frame _, fun h => by cases h⟩

theorem reads (os : Os) {H : Type} (enc : TypeId × Value → H) : ∃ places, DataW.whole enc Tryd.prog ((World.doorLaid Tryd.prog 400 os).forCall (fun _ _ => 0) ⟨#[], #[.string ByteArray.empty], []⟩).memory Tryd.f7.params.toList Rows.tokenLiteralSpec.vars false (#[.string ByteArray.empty] : Array Value).toList 8 = some ([.lit (.string [])], [], places) :=
  ⟨[], by kernel_rfl⟩

set_option maxRecDepth 100000 in
theorem lifted (os : Os) (started : os.Started) (H : Type) (enc : TypeId × Value → H) (F : Stop.Interp) :
    ReturnsInHanded {} Tryd.checked os 7 .any ((OpenSpec.ofChange Rows.tokenLiteralSpec).preRow enc Tryd.prog Tryd.f7 Rows.tokenLiteralRow.domain false Rows.tokenLiteralRow.laid) (((OpenSpec.ofChange Rows.tokenLiteralSpec).at F).post enc Tryd.prog Tryd.f7 false true false false) := by
  obtain ⟨places, hx⟩ := reads os enc
  refine returnsInHanded_of_row (C := Tryd.checked) (s := OpenSpec.ofChange Rows.tokenLiteralSpec) own started (by kernel_rfl) Tryd.func7
    (witness_row_atRef (enc := enc) (C := Tryd.checked) false (World.doorLaid Tryd.prog 400 os) #[.string ByteArray.empty] rfl (by kernel_rfl) (by kernel_rfl) (by kernel_rfl)
      (OpenSpec.preRow_of_cond 8 hx (by kernel_rfl) (fun k hk => by cases hk) (by kernel_rfl) (door_met os _))) ?_
  intro W base args ds gs before hval hW _ _ _ hL _ _
  exact contract H enc W base args ds gs before hval hW (good_of hL)

theorem over : Rows.TokenLiteralSaid :=
  OpenClaim.holds_of_cond 7 Tryd.f7 rfl rfl rfl rfl rfl rfl rfl ⟨rfl, rfl, rfl, rfl, rfl⟩ rfl rfl rfl rfl rfl (by kernel_rfl) Tryd.func7 (by kernel_rfl)
    (of_decide_eq_true (by kernel_rfl)) (by unfold Func.isWrapper; first | (rw [if_pos (by decide +kernel)]; kernel_rfl) | (rw [if_neg (by decide +kernel)]; exact ⟨rfl, rfl⟩))
    (fun os started H enc _ F => by rw [OpenClaim.pre_eq_preRow]; exact lifted os started H enc F)

theorem plain (f : FuncId) (fn : Func) (hf : Tryd.pinned.checked.prog.funcNamed "workflow/workflowlaw07.TokenLiteral" = some f) (hfn : Tryd.pinned.checked.prog.funcs[f]? = some fn) :
    true = Tryd.pinned.checked.prog.looks [] ∧ ∀ (j : Nat) t, fn.params[j]? = some t → Tryd.pinned.checked.prog.wantsStandIn t = false := by
  obtain rfl : f = 7 := Option.some.inj ((show Tryd.prog.funcNamed "workflow/workflowlaw07.TokenLiteral" = some 7 by kernel_rfl).symm.trans hf) |>.symm
  obtain rfl : fn = Tryd.f7 := (Option.some.inj (Tryd.func7.symm.trans hfn)).symm
  refine ⟨by kernel_rfl, fun j t ht => ?_⟩
  rw [Tryd.params7] at ht
  have hm : t ∈ [9] := by simpa using Array.mem_of_getElem? ht
  have hall : ([9].all fun u => !Tryd.prog.wantsStandIn u) = true := by kernel_rfl
  exact (show Tryd.prog.wantsStandIn t = false by simpa using List.all_eq_true.1 hall t hm)

/-- THE STATEMENT: THE CARD. -/
theorem proved : Rows.TokenLiteralCardSaid :=
  Claim7.holds_tied_plain_at .later [] _ _ _ _ over (fun _ h => by cases h) (by kernel_rfl) (fun _ h => by cases h) tokenLiteral_row_tie rfl ⟨rfl, rfl⟩ (by kernel_rfl) rfl plain (by kernel_rfl)
#print axioms proved
end Go.Proofs.YtodcgdiejmdaaaaDoor.tokenLiteral
