/-
  WHAT IS PROVED: the statement TokenSpell of layer 7 (Rows.TokenSpellCardSaid): for every input, of any size, the Go function workflowlaw07.TokenSpell returns true, and each argument reads afterwards as it read before. CONDITIONS: the package-level variables that the row lists (two errors and three tables of Go's library) start as the program's text lays them: the card ties them to it. None beyond the row's own.
-/
import Derived.Test.YtodcgdiejmdaaaaDoorCards
import Derived.Test.YtodcgdiejmdaaaaDoorTie
import Derived.Test.YtodcgdiejmdaaaaDoorTRspl
import Derived.Test.YtodcgdiejmdaaaaDoorTSpell
import Derived.Test.YtodcgdiejmdaaaaDoorTWks
import Derived.Test.YtodcgdiejmdaaaaDoorTOpn
import Derived.Test.YtodcgdiejmdaaaaDoorNLaid
import Derived.Test.YtodcgdiejmdaaaaDoorNLaid
import Derived.ProofKit
import Derived.OpenShut
import Derived.ShutString
import Derived.ChangeOld
import Derived.SevenTiedAt
import Derived.Deep.DeepHandedRow
import Derived.Deep.DeepWitnessRowRef
namespace Go.Proofs.YtodcgdiejmdaaaaDoor.tokenSpell
open Go.ChangeShapes Go.WideShapes Go.ChangeAt Go.RowKit
open Go.ChangeMaps (open_string shut_string)
set_option linter.unusedVariables false

set_option maxRecDepth 100000 in
set_option maxHeartbeats 6000000 in
theorem walk (w : World) (hG : Good w) (v : Value) (l : List Tk.T) (h : RdT w v l) (hb : ∀ t ∈ l, -9223372036854775808 ≤ t.n ∧ t.n ≤ 9223372036854775807 ∧ t.t.length ≤ maxLen) (s : ByteArray) (hs : s.size ≤ maxLen) :
    Calls Tryd.prog 5 #[v, .string s] w fun e w' => e = .returned (.bool true) ∧ Below w.heap.size w w' := by
  have HG := hid hG
  have H := hid h
  obtain ⟨A, c, hcl, hcm, hv⟩ : ∃ A c, l.length ≤ c ∧ c ≤ maxLen ∧ v = .slice A l.length c := by
    obtain ⟨A, c, hv, h1, h2, _⟩ := h
    exact ⟨A, c, h1, h2, hv⟩
  subst hv
  have HBD := hid hb
  clear hG h hb
  by_cases h100 : 100 < l.length
  · have i1 : (100 : Int) < (l.length : Int) := by omega
    go_enter Tryd.func5, Tryd.ntmps5
    go_wp2_with fail
    refine (works_any _ HG.out).mono ?_
    rintro e w3 ⟨rfl, hb3⟩
    go_wp2_with fail
    go_ret
    exact ⟨rfl, hb3⟩
  have i1 : ¬ (100 : Int) < (l.length : Int) := by omega
  by_cases h500 : 500 < s.size
  · have i2 : (500 : Int) < (s.size : Int) := by omega
    go_enter Tryd.func5, Tryd.ntmps5
    go_wp2_with fail
    refine (works_any _ HG.out).mono ?_
    rintro e w3 ⟨rfl, hb3⟩
    go_wp2_with fail
    go_ret
    exact ⟨rfl, hb3⟩
  have i2 : ¬ (500 : Int) < (s.size : Int) := by omega
  clear hcl hcm
  go_enter Tryd.func5, Tryd.ntmps5
  go_wp2_with fail
  go_loopw [18] (fun v18 wr => ∃ i : Nat, i ≤ l.length ∧ v18 = .int .i64 (i : Int) ∧ Hid (∀ t ∈ l.take i, t.t.length ≤ 200) ∧ Hid (Below w.heap.size w wr)) (fun v18 _ => l.length - (intOf v18).toNat)
  case atStart => exact ⟨0, Nat.zero_le _, rfl, by intro t ht; simp at ht, Below.refl _ _⟩
  case round =>
    obtain ⟨i, hi, rfl, ht, HB⟩ := hrel
    have hbs := HB.out.size
    by_cases hlt : i < l.length
    · obtain ⟨b, o, rfl, p0, p1, p2, p3⟩ := (H.out.keep HB.out).at_ i hlt
      have hts : (byS l[i].t).size = l[i].t.length := byS_size _
      have HBA : Hid (∀ X : Obj, Below w.heap.size w (wr.alloc X)) := fun X => HB.out.alloc hbs X
      by_cases h200 : 200 < l[i].t.length
      · have i3 : (200 : Int) < (l[i].t.length : Int) := by omega
        generalize l[i].t.length = L at *
        go_wp2_with fail
        refine (works_any _ (HG.out.below (HBA.out _))).mono ?_
        rintro e w3 ⟨rfl, hb3⟩
        go_wp2_with fail
        go_ret
        exact ⟨rfl, (HBA.out _).trans (hb3.mono (HBA.out _).size)⟩
      · have i3 : ¬ (200 : Int) < (l[i].t.length : Int) := by omega
        have HTT : Hid (∀ t ∈ l.take (i + 1), t.t.length ≤ 200) := by
          intro t hm
          rw [List.take_succ_eq_append_getElem hlt] at hm
          rcases List.mem_append.1 hm with hm | hm
          · exact ht.out t hm
          · obtain rfl := List.mem_singleton.1 hm
            omega
        generalize l[i].t.length = L at *
        go_wp2_with fail
        refine ⟨⟨i + 1, by omega, by go_num, HTT.out, HBA.out _⟩, ?_⟩
        simp [intOf]; omega
    · have hlt' : ¬ ((i : Int) < (l.length : Int)) := by omega
      have HF : Hid (Tk.Fit l) := by
        have h2 := ht.out
        rw [List.take_of_length_le (by omega)] at h2
        refine ⟨by omega, fun t hm => ?_⟩
        have h3 := HBD.out t hm
        have h4 := h2 t hm
        exact ⟨by omega, h3.1, h3.2.1⟩
      have CA := hid (fun (v : Value) W hW h => spell_any v l W hW h HF.out)
      have CB := hid (fun (v : Value) W h => rspell_any v l W h HF.out)
      have CC := hid (fun W => quote_any s W (by omega))
      have CD := hid (fun W => rquote_any s W (by omega))
      generalize byS (Tk.spell l) = x at *
      generalize byS (Tk.quote s.data.toList) = y at *
      go_wp2_with fail
      refine (CA.out _ wr (HG.out.below HB.out) (H.out.keep HB.out)).mono ?_
      rintro e w2 ⟨rfl, hb2⟩
      have HB2 := hid (HB.out.trans (hb2.mono HB.out.size))
      clear hb2
      go_wp2_with fail
      refine (CB.out _ w2 (H.out.keep HB2.out)).mono ?_
      rintro e w3 ⟨rfl, hb3⟩
      have HB3 := hid (HB2.out.trans (hb3.mono HB2.out.size))
      clear hb3
      go_wp2_with fail
      refine (CC.out w3).mono ?_
      rintro e w4 ⟨rfl, hb4⟩
      have HB4 := hid (HB3.out.trans (hb4.mono HB3.out.size))
      clear hb4
      go_wp2_with fail
      refine (CD.out w4).mono ?_
      rintro e w5 ⟨rfl, q, rfl⟩
      have HB5 : Hid (Below w.heap.size w (w4.drewN q)) := HB4.out.trans (below_draws _)
      go_wp2_with fail
      refine (works_any _ (HG.out.below HB5.out)).mono ?_
      rintro e w6 ⟨rfl, hb6⟩
      go_wp2_with fail
      go_ret
      exact ⟨rfl, HB5.out.trans (hb6.mono HB5.out.size)⟩


theorem own : ownKnob Tryd.prog.godebug = none := by kernel_rfl
theorem laidOut : laidOutB Tryd.prog = true := by kernel_rfl

set_option maxRecDepth 100000 in
/-- What the walk gives, for every argument and every world that holds what is listed. -/
theorem contract (H : Type) (enc : TypeId × Value → H) (W : World) (base : Nat) (args : Array Value) (ds gs : List (DataW H)) (before : List MemPlace)
    (hval0 : ∀ (j : Nat) t v, Tryd.f5.params[j]? = some t → args[j]? = some v → Value.okWide Tryd.prog W .any base t v)
    (hW : DataW.Whole enc Tryd.prog Tryd.f5.params.toList Rows.tokenSpellSpec.vars false W args.toList ds gs before) (hG : Good W) :
    Calls Tryd.prog 5 args W fun e W' => ∃ v, e = .returned v ∧ Rows.tokenSpellSpec.post enc Tryd.prog Tryd.f5 false true false false W args v W' := by
  have hval := hval0
  have hW' := hW
  obtain ⟨p, q, hA0, hV, rfl, hfz, hnd⟩ := hW
  have hA : DataW.TrodAll enc Tryd.prog W 0 (fun _ => true) true Tryd.f5.params.toList args.toList ds p := hA0
  rw [Tryd.params5] at hA hval
  obtain ⟨v0, vs0, d0, ds0, p0, q0, hargs, rfl, rfl, h0, r0⟩ := trodAll_cons hA
  obtain ⟨v1, vs1, d1, ds1, p1, q1, rfl, rfl, rfl, h1, r1⟩ := trodAll_cons r0
  obtain ⟨rfl, rfl, rfl⟩ := trodAll_nil r1
  obtain rfl : args = #[v0, v1] := Array.toList_inj.1 (by first | exact hargs | simpa using hargs)
  obtain ⟨rfl, rfl⟩ := trodVars_none hV
  have k0 := h0
  have lt0 : ∀ x ∈ p0, x.block < W.heap.size := by obtain ⟨m, hm⟩ := k0; exact DataW.trod_lt m _ _ _ hm
  obtain ⟨l0, b0, c0⟩ := open_toks (hval 0 23 v0 rfl rfl) h0
  obtain ⟨a1, rfl, rfl, rfl, w1⟩ := open_string Tryd.underlying9 (hval 1 9 v1 rfl rfl) h1
  clear hA0 hval0
  refine (walk W hG v0 l0 b0 c0 a1 w1).mono fun e W' ⟨he, bel⟩ => ?_
  subst he
  exact ⟨_, rfl, _, _, _, [], _, [], hW', trodAll_mk1 (shut_bool Tryd.underlying4 _), (trodAll_cons_mk (Below.trod laidOut (by kernel_rfl) (of_decide_eq_true (by kernel_rfl)) k0 bel lt0) (trodAll_cons_mk (shut_string Tryd.underlying9 w1) trodAll_mk0)), rfl, bel.frame _, fun h => by cases h⟩

theorem reads (os : Os) {H : Type} (enc : TypeId × Value → H) : ∃ places, DataW.whole enc Tryd.prog ((World.doorLaid Tryd.prog 400 os).forCall (fun _ _ => 0) ⟨#[], #[.slice none 0 0, .string ByteArray.empty], []⟩).memory Tryd.f5.params.toList Rows.tokenSpellSpec.vars false (#[.slice none 0 0, .string ByteArray.empty] : Array Value).toList 8 = some ([.nil, .lit (.string [])], [], places) :=
  ⟨[], by kernel_rfl⟩

set_option maxRecDepth 100000 in
theorem lifted (os : Os) (started : os.Started) (H : Type) (enc : TypeId × Value → H) (F : Stop.Interp) :
    ReturnsInHanded {} Tryd.checked os 5 .any ((OpenSpec.ofChange Rows.tokenSpellSpec).preRow enc Tryd.prog Tryd.f5 Rows.tokenSpellRow.domain false Rows.tokenSpellRow.laid) (((OpenSpec.ofChange Rows.tokenSpellSpec).at F).post enc Tryd.prog Tryd.f5 false true false false) := by
  obtain ⟨places, hx⟩ := reads os enc
  refine returnsInHanded_of_row (C := Tryd.checked) (s := OpenSpec.ofChange Rows.tokenSpellSpec) own started (by kernel_rfl) Tryd.func5
    (witness_row_atRef (enc := enc) (C := Tryd.checked) false (World.doorLaid Tryd.prog 400 os) #[.slice none 0 0, .string ByteArray.empty] rfl (by kernel_rfl) (by kernel_rfl) (by kernel_rfl)
      (OpenSpec.preRow_of_cond 8 hx (by kernel_rfl) (fun k hk => by cases hk) (by kernel_rfl) (door_met os _))) ?_
  intro W base args ds gs before hval hW _ _ _ hL _ _
  exact contract H enc W base args ds gs before hval hW (good_of hL)

theorem over : Rows.TokenSpellSaid :=
  OpenClaim.holds_of_cond 5 Tryd.f5 rfl rfl rfl rfl rfl rfl rfl ⟨rfl, rfl, rfl, rfl, rfl⟩ rfl rfl rfl rfl rfl (by kernel_rfl) Tryd.func5 (by kernel_rfl)
    (of_decide_eq_true (by kernel_rfl)) (by unfold Func.isWrapper; first | (rw [if_pos (by decide +kernel)]; kernel_rfl) | (rw [if_neg (by decide +kernel)]; exact ⟨rfl, rfl⟩))
    (fun os started H enc _ F => by rw [OpenClaim.pre_eq_preRow]; exact lifted os started H enc F)

theorem plain (f : FuncId) (fn : Func) (hf : Tryd.pinned.checked.prog.funcNamed "workflow/workflowlaw07.TokenSpell" = some f) (hfn : Tryd.pinned.checked.prog.funcs[f]? = some fn) :
    true = Tryd.pinned.checked.prog.looks [] ∧ ∀ (j : Nat) t, fn.params[j]? = some t → Tryd.pinned.checked.prog.wantsStandIn t = false := by
  obtain rfl : f = 5 := Option.some.inj ((show Tryd.prog.funcNamed "workflow/workflowlaw07.TokenSpell" = some 5 by kernel_rfl).symm.trans hf) |>.symm
  obtain rfl : fn = Tryd.f5 := (Option.some.inj (Tryd.func5.symm.trans hfn)).symm
  refine ⟨by kernel_rfl, fun j t ht => ?_⟩
  rw [Tryd.params5] at ht
  have hm : t ∈ [23, 9] := by simpa using Array.mem_of_getElem? ht
  have hall : ([23, 9].all fun u => !Tryd.prog.wantsStandIn u) = true := by kernel_rfl
  exact (show Tryd.prog.wantsStandIn t = false by simpa using List.all_eq_true.1 hall t hm)

/-- THE STATEMENT: THE CARD. -/
theorem proved : Rows.TokenSpellCardSaid :=
  Claim7.holds_tied_plain_at .later [] _ _ _ _ over (fun _ h => by cases h) (by kernel_rfl) (fun _ h => by cases h) tokenSpell_row_tie rfl ⟨rfl, rfl⟩ (by kernel_rfl) rfl plain (by kernel_rfl)
#print axioms proved
end Go.Proofs.YtodcgdiejmdaaaaDoor.tokenSpell
