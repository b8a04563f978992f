/-
  WHAT IS PROVED: the statement SyntaxBrackets of layer 8 (Rows.SyntaxBracketsCardSaid): for every input, of any size, the Go function workflowlaw08.SyntaxBrackets returns true, and each argument reads afterwards as it read before. CONDITIONS: the package-level variables that the row lists (two errors and three tables of Go's library) start as the program's text lays them: the card ties them to it. None beyond the row's own.
-/
import Derived.Test.YtcanibnffaakeaaGreatDoorMT1
import Derived.Test.YtcanibnffaakeaaGreatDoorMZ1
import Derived.Test.YtcanibnffaakeaaGreatDoorCards
import Derived.Test.YtcanibnffaakeaaGreatDoorTie
import Derived.ProofKit
import Derived.OpenShut
import Derived.ShutString
import Derived.ChangeOld
import Derived.SevenTiedAt
import Derived.Deep.DeepHandedRow
import Derived.Deep.DeepWitnessRowRef
namespace Go.Proofs.YtcanibnffaakeaaGreatDoor.syntaxBrackets
open Go.ChangeShapes Go.WideShapes Go.ChangeAt Go.RowKit
open Go.ChangeMaps (open_string shut_string)
set_option linter.unusedVariables false

theorem brk_str (s : ByteArray) : ((⟨#[40]⟩ : ByteArray) ++ s ++ (⟨#[41]⟩ : ByteArray)).data.toList = 40 :: (s.data.toList ++ [41]) := by simp [ByteArray.data_append]

set_option maxRecDepth 100000 in
set_option maxHeartbeats 4000000 in
theorem walk (w : World) (hG : Good w) (s : ByteArray) (hs : s.size ≤ maxLen) :
    Calls Tryz.prog 8 #[.string s] w fun e w' => e = .returned (.bool true) ∧ Below w.heap.size w w' := by
  have HG := hid hG
  clear hG
  by_cases h : (5000 : Int) < (s.size : Int)
  · go_enter Tryz.func8, Tryz.ntmps8
    go_wp2_with fail
    refine (works_any _ HG.out).mono ?_
    rintro e w3 ⟨rfl, hb3⟩
    go_wp2_with fail
    go_ret
    exact ⟨rfl, hb3⟩
  have hsl : s.data.toList.length = s.size := by simp
  obtain ⟨o, ho⟩ := Sy.out_tot (nt := .chain 1) (by simp [Sy.NZ]) s.data.toList
  have C1 := hid (Expr_any s o ho w HG.out)
  cases o with
  | err a c =>
    have he : (c != 0) = true := by simpa using Sy.out_err ho
    clear ho hsl
    go_enter Tryz.func8, Tryz.ntmps8
    go_wp2_with fail
    refine C1.out.mono ?_
    rintro e w1 ⟨rfl, hb1⟩
    have HB := hid hb1
    clear hb1
    unfold ndV
    go_wp2_with fail
    replace HB := hid (bstep HB.out (bl (w := w1) (.cells #[.int .i64 0, .string ⟨[].toArray⟩, .int .i64 0, .string ⟨[].toArray⟩, .slice none 0 0] 25)))
    refine (works_any _ (HG.out.below HB.out)).mono ?_
    rintro e w3 ⟨rfl, hb3⟩
    go_wp2_with fail
    go_ret
    exact ⟨rfl, bstep HB.out hb3⟩
  | tree t =>
    have ho2 := Sy.out_brk (by omega) ho
    rw [← brk_str s] at ho2
    have C2 := hid (fun W hW => Expr_any (⟨#[40]⟩ ++ s ++ ⟨#[41]⟩) _ ho2 W (HG.out.below hW))
    clear ho ho2 hsl
    obtain ⟨op, nm, n, tt, l⟩ := t
    have h1 : (⟨#[40]⟩ : ByteArray).size = 1 := rfl
    have h2 : (⟨#[41]⟩ : ByteArray).size = 1 := rfl
    have h3 : ((⟨#[40]⟩ : ByteArray) ++ s).size = 1 + s.size := by rw [ByteArray.size_append]; rfl
    go_enter Tryz.func8, Tryz.ntmps8
    go_wp2_with fail
    refine C1.out.mono ?_
    rintro e w1 ⟨A1, c1, rfl, hn1, hb1⟩
    have HB := hid hb1
    have N1 := hid hn1
    clear hb1 hn1
    simp only [Sy.N.op, Sy.N.nm, Sy.N.n, Sy.N.t, Sy.N.l] at N1 ⊢
    unfold ndV at N1 ⊢
    go_wp2_with fail
    have X1 : Hid (Nb (w1.alloc (.cells #[.int .i64 op, .string ⟨nm.toArray⟩, .int .i64 n, .string ⟨tt.toArray⟩, .slice A1 l.length c1] 25)) w1.heap.size op nm n tt A1 l.length c1) := Nb.new
    have hb1 := bl (w := w1) (.cells #[.int .i64 op, .string ⟨nm.toArray⟩, .int .i64 n, .string ⟨tt.toArray⟩, .slice A1 l.length c1] 25)
    replace HB := hid (bstep HB.out hb1)
    replace N1 := hid (N1.out.below hb1)
    clear hb1
    refine (C2.out _ HB.out).mono ?_
    rintro e w2 ⟨A2, c2, rfl, hn2, hb2⟩
    replace HB := hid (bstep HB.out hb2)
    replace N1 := hid (N1.out.below hb2)
    replace X1 := hid (X1.out.below hb2)
    have N2 := hid hn2
    clear hb2 hn2
    simp only [Sy.N.op, Sy.N.nm, Sy.N.n, Sy.N.t, Sy.N.l] at N2 ⊢
    unfold ndV at N2 ⊢
    have X2 : Hid (Nb (w2.alloc (.cells #[.int .i64 op, .string ⟨nm.toArray⟩, .int .i64 n, .string ⟨tt.toArray⟩, .slice A2 l.length c2] 25)) w2.heap.size op nm n tt A2 l.length c2) := Nb.new
    have hb2 := bl (w := w2) (.cells #[.int .i64 op, .string ⟨nm.toArray⟩, .int .i64 n, .string ⟨tt.toArray⟩, .slice A2 l.length c2] 25)
    replace HB := hid (bstep HB.out hb2)
    replace N1 := hid (N1.out.below hb2)
    replace X1 := hid (X1.out.below hb2)
    replace N2 := hid (N2.out.below hb2)
    clear hb2
    have a0 := X1.out.c0
    have a1 := X1.out.c1
    have a2 := X1.out.c2
    have a3 := X1.out.c3
    have a4 := X1.out.c4
    go_wp2_with fail
    have CS := hid (rsame_any _ _ _ _ _ _ _ _ (Nat.le_refl _) N1.out N2.out)
    rw [Sy.same_self] at CS
    refine CS.out.mono ?_
    rintro e w5 ⟨rfl, hb5⟩
    replace HB := hid (bstep HB.out hb5)
    clear hb5
    go_wp2_with fail
    refine (works_any _ (HG.out.below HB.out)).mono ?_
    rintro e w6 ⟨rfl, hb6⟩
    go_wp2_with fail
    go_ret
    exact ⟨rfl, bstep HB.out hb6⟩


theorem own : ownKnob Tryz.prog.godebug = none := by kernel_rfl
theorem laidOut : laidOutB Tryz.prog = true := by kernel_rfl

set_option maxRecDepth 100000 in
/-- What the walk gives, for every argument and every world that holds what is listed. -/
theorem contract (H : Type) (enc : TypeId × Value → H) (W : World) (base : Nat) (args : Array Value) (ds gs : List (DataW H)) (before : List MemPlace)
    (hval0 : ∀ (j : Nat) t v, Tryz.f8.params[j]? = some t → args[j]? = some v → Value.okWide Tryz.prog W .any base t v)
    (hW : DataW.Whole enc Tryz.prog Tryz.f8.params.toList Rows.syntaxBracketsSpec.vars false W args.toList ds gs before) (hG : Good W) :
    Calls Tryz.prog 8 args W fun e W' => ∃ v, e = .returned v ∧ Rows.syntaxBracketsSpec.post enc Tryz.prog Tryz.f8 false true false false W args v W' := by
  have hval := hval0
  have hW' := hW
  obtain ⟨p, q, hA0, hV, rfl, hfz, hnd⟩ := hW
  have hA : DataW.TrodAll enc Tryz.prog W 0 (fun _ => true) true Tryz.f8.params.toList args.toList ds p := hA0
  rw [Tryz.params8] at hA hval
  obtain ⟨v0, vs0, d0, ds0, p0, q0, hargs, rfl, rfl, h0, r0⟩ := trodAll_cons hA
  obtain ⟨rfl, rfl, rfl⟩ := trodAll_nil r0
  obtain rfl : args = #[v0] := Array.toList_inj.1 (by first | exact hargs | simpa using hargs)
  obtain ⟨rfl, rfl⟩ := trodVars_none hV
  obtain ⟨a0, rfl, rfl, rfl, w0⟩ := open_string Tryz.underlying9 (hval 0 9 v0 rfl rfl) h0
  clear hA0 hval0
  refine (walk W hG a0 w0).mono fun e W' ⟨he, bel⟩ => ?_
  subst he
  exact ⟨_, rfl, _, _, _, [], _, [], hW', trodAll_mk1 (shut_bool Tryz.underlying4 _), (trodAll_cons_mk (shut_string Tryz.underlying9 w0) trodAll_mk0), rfl, bel.frame _, fun h => by cases h⟩

theorem reads (os : Os) {H : Type} (enc : TypeId × Value → H) : ∃ places, DataW.whole enc Tryz.prog ((World.doorLaid Tryz.prog 400 os).forCall (fun _ _ => 0) ⟨#[], #[.string ByteArray.empty], []⟩).memory Tryz.f8.params.toList Rows.syntaxBracketsSpec.vars false (#[.string ByteArray.empty] : Array Value).toList 8 = some ([.lit (.string [])], [], places) :=
  ⟨[], by kernel_rfl⟩

set_option maxRecDepth 100000 in
theorem lifted (os : Os) (started : os.Started) (H : Type) (enc : TypeId × Value → H) (F : Stop.Interp) :
    ReturnsInHanded {} Tryz.checked os 8 .any ((OpenSpec.ofChange Rows.syntaxBracketsSpec).preRow enc Tryz.prog Tryz.f8 Rows.syntaxBracketsRow.domain false Rows.syntaxBracketsRow.laid) (((OpenSpec.ofChange Rows.syntaxBracketsSpec).at F).post enc Tryz.prog Tryz.f8 false true false false) := by
  obtain ⟨places, hx⟩ := reads os enc
  refine returnsInHanded_of_row (C := Tryz.checked) (s := OpenSpec.ofChange Rows.syntaxBracketsSpec) own started (by kernel_rfl) Tryz.func8
    (witness_row_atRef (enc := enc) (C := Tryz.checked) false (World.doorLaid Tryz.prog 400 os) #[.string ByteArray.empty] rfl (by kernel_rfl) (by kernel_rfl) (by kernel_rfl)
      (OpenSpec.preRow_of_cond 8 hx (by kernel_rfl) (fun k hk => by cases hk) (by kernel_rfl) (door_met os _))) ?_
  intro W base args ds gs before hval hW _ _ hsz hL _ _
  exact contract H enc W base args ds gs before hval hW (good_of hL)

theorem over : Rows.SyntaxBracketsSaid :=
  OpenClaim.holds_of_cond 8 Tryz.f8 rfl rfl rfl rfl rfl rfl rfl ⟨rfl, rfl, rfl, rfl, rfl⟩ rfl rfl rfl rfl rfl (by kernel_rfl) Tryz.func8 (by kernel_rfl)
    (of_decide_eq_true (by kernel_rfl)) (by unfold Func.isWrapper; first | (rw [if_pos (by decide +kernel)]; kernel_rfl) | (rw [if_neg (by decide +kernel)]; exact ⟨rfl, rfl⟩))
    (fun os started H enc _ F => by rw [OpenClaim.pre_eq_preRow]; exact lifted os started H enc F)

theorem plain (f : FuncId) (fn : Func) (hf : Tryz.pinned.checked.prog.funcNamed "workflow/workflowlaw08.SyntaxBrackets" = some f) (hfn : Tryz.pinned.checked.prog.funcs[f]? = some fn) :
    true = Tryz.pinned.checked.prog.looks [] ∧ ∀ (j : Nat) t, fn.params[j]? = some t → Tryz.pinned.checked.prog.wantsStandIn t = false := by
  obtain rfl : f = 8 := Option.some.inj ((show Tryz.prog.funcNamed "workflow/workflowlaw08.SyntaxBrackets" = some 8 by kernel_rfl).symm.trans hf) |>.symm
  obtain rfl : fn = Tryz.f8 := (Option.some.inj (Tryz.func8.symm.trans hfn)).symm
  refine ⟨by kernel_rfl, fun j t ht => ?_⟩
  rw [Tryz.params8] at ht
  have hm : t ∈ [9] := by simpa using Array.mem_of_getElem? ht
  have hall : ([9].all fun u => !Tryz.prog.wantsStandIn u) = true := by kernel_rfl
  exact (show Tryz.prog.wantsStandIn t = false by simpa using List.all_eq_true.1 hall t hm)

/-- THE STATEMENT: THE CARD. -/
theorem proved : Rows.SyntaxBracketsCardSaid :=
  Claim7.holds_tied_plain_at .later [] _ _ _ _ over (fun _ h => by cases h) (by kernel_rfl) (fun _ h => by cases h) syntaxBrackets_row_tie rfl ⟨rfl, rfl⟩ (by kernel_rfl) rfl plain (by kernel_rfl)
#print axioms proved
end Go.Proofs.YtcanibnffaakeaaGreatDoor.syntaxBrackets
