/-
  WHAT IS PROVED: the statement TokenBlanks of layer 7 (Rows.TokenBlanksCardSaid): for every input, of any size, the Go function workflowlaw07.TokenBlanks returns true, and each argument reads afterwards as it read before. CONDITIONS: the package-level variables that the row lists (two errors and three tables of Go's library) start as the program's text lays them: the card ties them to it. None beyond the row's own.
-/
import Derived.Test.YtodcgdiejmdaaaaDoorCards
import Derived.Test.YtodcgdiejmdaaaaDoorTie
import Derived.Test.YtodcgdiejmdaaaaDoorTOffs
import Derived.Test.YtodcgdiejmdaaaaDoorTWks
import Derived.Test.YtodcgdiejmdaaaaDoorTSame
import Derived.Test.YtodcgdiejmdaaaaDoorNLaid
import Derived.Test.YtodcgdiejmdaaaaDoorNLaid
import Derived.ProofKit
import Derived.OpenShut
import Derived.ShutString
import Derived.ChangeOld
import Derived.SevenTiedAt
import Derived.Deep.DeepHandedRow
import Derived.Deep.DeepWitnessRowRef
namespace Go.Proofs.YtodcgdiejmdaaaaDoor.tokenBlanks
open Go.ChangeShapes Go.WideShapes Go.ChangeAt Go.RowKit
open Go.ChangeMaps (open_string shut_string)
set_option linter.unusedVariables false

theorem byte_of {x : Int} (h : (Lit.int .u8 x).wf = true) : ∃ c : UInt8, x = (c.toNat : Int) := by
  have := bounds_u8 h
  exact ⟨UInt8.ofNat x.toNat, by rw [UInt8.toNat_ofNat']; simp only [Nat.reducePow]; omega⟩
theorem like_sh (k : Int) (l : List Tk.T) : Like l (l.map (Tk.sh k)) := ⟨by simp, fun i h1 h2 => by simp [Tk.sh]⟩
theorem rep_step (i : Nat) : byS (List.replicate i 32) ++ (⟨#[32]⟩ : ByteArray) = byS (List.replicate (i + 1) 32) := by
  apply ByteArray.ext
  rw [ByteArray.data_append]
  apply Array.toList_inj.1
  rw [Array.toList_append]
  show List.replicate i 32 ++ [32] = List.replicate (i + 1) 32
  rw [List.replicate_succ']
theorem rep_list (i : Nat) (s : ByteArray) : (byS (List.replicate i 32) ++ s).data.toList = List.replicate i 32 ++ s.data.toList := by simp [byS, ByteArray.data_append]

set_option maxRecDepth 100000 in
set_option maxHeartbeats 4000000 in
theorem walk (w : World) (hG : Good w) (s : ByteArray) (hs : s.size ≤ maxLen) (n : Int) (hc : (Lit.int .u8 n).wf = true) :
    Calls Tryd.prog 9 #[.string s, .int .u8 n] w fun e w' => e = .returned (.bool true) ∧ Below w.heap.size w w' := by
  obtain ⟨c, rfl⟩ := byte_of hc
  clear hc
  have HG := hid hG
  clear hG
  by_cases h : (400 : Int) < (s.size : Int)
  · go_enter Tryd.func9, Tryd.ntmps9
    go_wp2_with fail
    refine (works_any _ HG.out).mono ?_
    rintro e w3 ⟨rfl, hb3⟩
    go_wp2_with fail
    go_ret
    exact ⟨rfl, hb3⟩
  have hsl : s.data.toList.length = s.size := by simp
  obtain ⟨kk, htm, hmd, hk20⟩ : ∃ kk : Nat, (c.toNat : Int).tmod 20 = (kk : Int) ∧ (c.toNat : Int) % 20 = (kk : Int) ∧ kk < 20 := ⟨c.toNat % 20, rfl, by omega, by omega⟩
  have C1 := hid (fun W hW => scan_any s W hW)
  have C2 := hid (fun W hW => scan_any (byS (List.replicate kk 32) ++ s) W hW)
  rw [rep_list, Tk.scan_blanks kk _ (by omega)] at C2
  have hcn := c.toNat_lt
  have hrs : (byS (List.replicate kk 32)).size = kk := by rw [byS_size]; simp
  have H0 : Hid (Value.string ⟨#[]⟩ = .string (byS (List.replicate 0 32))) := rfl
  go_enter Tryd.func9, Tryd.ntmps9
  go_wp2_with fail
  go_loop [6, 7] (fun v6 v7 => ∃ i : Nat, i ≤ kk ∧ v7 = .int .i64 (i : Int) ∧ v6 = .string (byS (List.replicate i 32))) (fun _ v7 => kk - (intOf v7).toNat)
  case atStart => exact ⟨0, Nat.zero_le _, rfl, H0.out⟩
  case round =>
    obtain ⟨i, hi, rfl, rfl⟩ := hrel
    by_cases hlt : i < kk
    · have hst := rep_step i
      have hsi : (byS (List.replicate i 32)).size = i := by rw [byS_size]; simp
      have h1 : (⟨#[32]⟩ : ByteArray).size = 1 := rfl
      go_wp2_with fail
      refine ⟨⟨i + 1, by omega, by go_num, rfl⟩, ?_⟩
      simp [intOf]; omega
    · have hik : i = kk := by omega
      subst hik
      clear hk20
      go_wp2_with fail
      refine (C1.out w HG.out).mono ?_
      intro e w1 hp1
      cases hR : Tk.scanA s.data.toList with
      | bad o e0 =>
        rw [hR] at hp1 C2
        obtain ⟨rfl, hb1⟩ := hp1
        have HB1 := hid hb1
        have he0 : (e0 == 0) = false := by have := Tk.scanA_err hR; simpa using this
        have he1 : (e0 != 0) = true := by have := Tk.scanA_err hR; simpa using this
        have ho := Tk.scanA_low hR
        have ho1 := ho.1
        have ho2 : o ≤ 400 := by omega
        clear hb1 hR ho
        go_wp2_with fail
        refine (C2.out w1 (HG.out.below HB1.out)).mono ?_
        rintro e w2 ⟨rfl, hb2⟩
        have HB2 := hid (HB1.out.trans (hb2.mono HB1.out.size))
        clear hb2
        go_wp2_with fail
        refine wp_loop_rounds 1 ?_
        rw [rounds_succ]
        go_wp2_with fail
        refine (works_any w2 (HG.out.below HB2.out)).mono ?_
        rintro e w3 ⟨rfl, hb3⟩
        go_wp2_with fail
        go_ret
        exact ⟨rfl, HB2.out.trans (hb3.mono HB2.out.size)⟩
      | good l =>
        rw [hR] at hp1 C2
        obtain ⟨v, rfl, ho1, hb1⟩ := hp1
        have HB1 := hid hb1
        have HR1 := hid ho1.rd
        have HRG := hid (Tk.offs_range (Tk.scanA_offs hR))
        have hll : l.length ≤ 1000000 := by have := Tk.scanA_count hR; omega
        clear ho1 hb1
        go_wp2_with fail
        refine (C2.out w1 (HG.out.below HB1.out)).mono ?_
        rintro e w2 ⟨v2, rfl, ho2, hb2⟩
        have HB2 := hid (HB1.out.trans (hb2.mono HB1.out.size))
        have HR2 := hid (HR1.out.keep hb2)
        have HQ2 := hid ho2.rd
        clear ho2 hb2 HR1
        obtain ⟨A, c1, rfl⟩ := HR2.out.form'
        obtain ⟨A2, c2, rfl⟩ : ∃ A c, v2 = .slice A l.length c := by
          obtain ⟨A, c, h⟩ := HQ2.out.form'
          rw [List.length_map] at h
          exact ⟨A, c, h⟩
        go_wp2_with fail
        refine (same_any _ _ l (l.map (Tk.sh i)) w2 HR2.out HQ2.out hll (like_sh _ l)).mono ?_
        rintro e w3 ⟨rfl, q, rfl⟩
        go_wp2_with fail
        go_loopw [69] (fun v69 wr => (∃ j : Nat, j ≤ l.length ∧ v69 = .int .i64 (j : Int)) ∧ ∃ q, wr = w2.drewN q) (fun v69 _ => l.length - (intOf v69).toNat)
        case atStart => exact ⟨⟨0, Nat.zero_le _, rfl⟩, _, rfl⟩
        case round =>
          obtain ⟨⟨j, hj, rfl⟩, q3, rfl⟩ := hrel
          by_cases hltj : j < l.length
          · obtain ⟨b1, o1, rfl, p0, p1, p2, p3⟩ := HR2.out.at_ j hltj
            obtain ⟨b2, o2, rfl, q0, q1, q2, q3'⟩ := HQ2.out.at_ j (by simpa using hltj)
            have hrg := HRG.out l[j] (List.getElem_mem hltj)
            have hr1 := hrg.1
            have hr2 : l[j].at_ ≤ 400 := by omega
            have q1' : w2.cell? ⟨b2, o2 + j * 4 + 1, none⟩ = some (.int .i64 (l[j].at_ + (i : Int))) := by rw [q1]; simp [Tk.sh]
            clear q0 q1 q2 q3' p0 p2 p3 hrg
            generalize l[j].at_ = aa at *
            go_wp2_with fail
            go_quiet (fail)
            go_wp2_with fail
            refine ⟨⟨⟨j + 1, by omega, by go_num⟩, _, rfl⟩, ?_⟩
            simp [intOf]; omega
          · have hlt' : ¬ ((j : Int) < (l.length : Int)) := by omega
            have HBF : Hid (Below w.heap.size w (w2.drewN q3)) := HB2.out.trans (below_draws _)
            go_wp2_with fail
            refine (works_any _ (HG.out.below HBF.out)).mono ?_
            rintro e w3 ⟨rfl, hb3⟩
            go_wp2_with fail
            go_ret
            exact ⟨rfl, HBF.out.trans (hb3.mono HBF.out.size)⟩


theorem own : ownKnob Tryd.prog.godebug = none := by kernel_rfl
theorem laidOut : laidOutB Tryd.prog = true := by kernel_rfl

set_option maxRecDepth 100000 in
/-- What the walk gives, for every argument and every world that holds what is listed. -/
theorem contract (H : Type) (enc : TypeId × Value → H) (W : World) (base : Nat) (args : Array Value) (ds gs : List (DataW H)) (before : List MemPlace)
    (hval0 : ∀ (j : Nat) t v, Tryd.f9.params[j]? = some t → args[j]? = some v → Value.okWide Tryd.prog W .any base t v)
    (hW : DataW.Whole enc Tryd.prog Tryd.f9.params.toList Rows.tokenBlanksSpec.vars false W args.toList ds gs before) (hG : Good W) :
    Calls Tryd.prog 9 args W fun e W' => ∃ v, e = .returned v ∧ Rows.tokenBlanksSpec.post enc Tryd.prog Tryd.f9 false true false false W args v W' := by
  have hval := hval0
  have hW' := hW
  obtain ⟨p, q, hA0, hV, rfl, hfz, hnd⟩ := hW
  have hA : DataW.TrodAll enc Tryd.prog W 0 (fun _ => true) true Tryd.f9.params.toList args.toList ds p := hA0
  rw [Tryd.params9] at hA hval
  obtain ⟨v0, vs0, d0, ds0, p0, q0, hargs, rfl, rfl, h0, r0⟩ := trodAll_cons hA
  obtain ⟨v1, vs1, d1, ds1, p1, q1, rfl, rfl, rfl, h1, r1⟩ := trodAll_cons r0
  obtain ⟨rfl, rfl, rfl⟩ := trodAll_nil r1
  obtain rfl : args = #[v0, v1] := Array.toList_inj.1 (by first | exact hargs | simpa using hargs)
  obtain ⟨rfl, rfl⟩ := trodVars_none hV
  obtain ⟨a0, rfl, rfl, rfl, w0⟩ := open_string Tryd.underlying9 (hval 0 9 v0 rfl rfl) h0
  obtain ⟨a1, rfl, rfl, rfl, w1⟩ := open_int Tryd.underlying5 (hval 1 5 v1 rfl rfl) h1
  clear hA0 hval0
  refine (walk W hG a0 w0 a1 w1).mono fun e W' ⟨he, bel⟩ => ?_
  subst he
  exact ⟨_, rfl, _, _, _, [], _, [], hW', trodAll_mk1 (shut_bool Tryd.underlying4 _), (trodAll_cons_mk (shut_string Tryd.underlying9 w0) (trodAll_cons_mk (shut_int Tryd.underlying5 w1) trodAll_mk0)), rfl, bel.frame _, fun h => by cases h⟩

theorem reads (os : Os) {H : Type} (enc : TypeId × Value → H) : ∃ places, DataW.whole enc Tryd.prog ((World.doorLaid Tryd.prog 400 os).forCall (fun _ _ => 0) ⟨#[], #[.string ByteArray.empty, .int .u8 0], []⟩).memory Tryd.f9.params.toList Rows.tokenBlanksSpec.vars false (#[.string ByteArray.empty, .int .u8 0] : Array Value).toList 8 = some ([.lit (.string []), .lit (.int .u8 0)], [], places) :=
  ⟨[], by kernel_rfl⟩

set_option maxRecDepth 100000 in
theorem lifted (os : Os) (started : os.Started) (H : Type) (enc : TypeId × Value → H) (F : Stop.Interp) :
    ReturnsInHanded {} Tryd.checked os 9 .any ((OpenSpec.ofChange Rows.tokenBlanksSpec).preRow enc Tryd.prog Tryd.f9 Rows.tokenBlanksRow.domain false Rows.tokenBlanksRow.laid) (((OpenSpec.ofChange Rows.tokenBlanksSpec).at F).post enc Tryd.prog Tryd.f9 false true false false) := by
  obtain ⟨places, hx⟩ := reads os enc
  refine returnsInHanded_of_row (C := Tryd.checked) (s := OpenSpec.ofChange Rows.tokenBlanksSpec) own started (by kernel_rfl) Tryd.func9
    (witness_row_atRef (enc := enc) (C := Tryd.checked) false (World.doorLaid Tryd.prog 400 os) #[.string ByteArray.empty, .int .u8 0] rfl (by kernel_rfl) (by kernel_rfl) (by kernel_rfl)
      (OpenSpec.preRow_of_cond 8 hx (by kernel_rfl) (fun k hk => by cases hk) (by kernel_rfl) (door_met os _))) ?_
  intro W base args ds gs before hval hW _ _ _ hL _ _
  exact contract H enc W base args ds gs before hval hW (good_of hL)

theorem over : Rows.TokenBlanksSaid :=
  OpenClaim.holds_of_cond 9 Tryd.f9 rfl rfl rfl rfl rfl rfl rfl ⟨rfl, rfl, rfl, rfl, rfl⟩ rfl rfl rfl rfl rfl (by kernel_rfl) Tryd.func9 (by kernel_rfl)
    (of_decide_eq_true (by kernel_rfl)) (by unfold Func.isWrapper; first | (rw [if_pos (by decide +kernel)]; kernel_rfl) | (rw [if_neg (by decide +kernel)]; exact ⟨rfl, rfl⟩))
    (fun os started H enc _ F => by rw [OpenClaim.pre_eq_preRow]; exact lifted os started H enc F)

theorem plain (f : FuncId) (fn : Func) (hf : Tryd.pinned.checked.prog.funcNamed "workflow/workflowlaw07.TokenBlanks" = some f) (hfn : Tryd.pinned.checked.prog.funcs[f]? = some fn) :
    true = Tryd.pinned.checked.prog.looks [] ∧ ∀ (j : Nat) t, fn.params[j]? = some t → Tryd.pinned.checked.prog.wantsStandIn t = false := by
  obtain rfl : f = 9 := Option.some.inj ((show Tryd.prog.funcNamed "workflow/workflowlaw07.TokenBlanks" = some 9 by kernel_rfl).symm.trans hf) |>.symm
  obtain rfl : fn = Tryd.f9 := (Option.some.inj (Tryd.func9.symm.trans hfn)).symm
  refine ⟨by kernel_rfl, fun j t ht => ?_⟩
  rw [Tryd.params9] at ht
  have hm : t ∈ [9, 5] := by simpa using Array.mem_of_getElem? ht
  have hall : ([9, 5].all fun u => !Tryd.prog.wantsStandIn u) = true := by kernel_rfl
  exact (show Tryd.prog.wantsStandIn t = false by simpa using List.all_eq_true.1 hall t hm)

/-- THE STATEMENT: THE CARD. -/
theorem proved : Rows.TokenBlanksCardSaid :=
  Claim7.holds_tied_plain_at .later [] _ _ _ _ over (fun _ h => by cases h) (by kernel_rfl) (fun _ h => by cases h) tokenBlanks_row_tie rfl ⟨rfl, rfl⟩ (by kernel_rfl) rfl plain (by kernel_rfl)
#print axioms proved
end Go.Proofs.YtodcgdiejmdaaaaDoor.tokenBlanks
