/-
  WHAT IS PROVED: the statement WireOwn of layer 1 (Rows.WireOwnSaid): for every input, of any size, the Go function workflowlaw01.WireOwn returns true, and each argument reads afterwards as it read before. CONDITIONS: none beyond the row's own.
-/
import Derived.Test.YtimphdnnnhgcgaaRows
import Derived.Test.YtimphdnnnhgcgaaOwn
import Derived.ProofKit
import Derived.OpenShut
import Derived.ShutString
import Derived.ChangeOld
namespace Go.Proofs.Ytimphdnnnhgcgaa.wireOwn
open Go.ChangeShapes Go.WideShapes Go.ChangeAt Go.RowKit
open Go.ChangeMaps (open_string shut_string)
set_option linter.unusedVariables false

theorem NR.nil (w : World) : NR w (.pointer none) := .inl rfl

/-- The slice v, of n elements, is the call's own, and can be written. -/
theorem own_at {w : World} {base : Nat} {v : Value} {xs : List Value} (h : Own w base 5 v xs) (k : Nat) (hk : k < xs.length) :
    ∃ g cap u, v = .slice (some ⟨g, 0, none⟩) xs.length cap ∧ base ≤ g ∧ w.cell? ⟨g, k, none⟩ = some u ∧ w.frozen? ⟨g, k, none⟩ = false ∧
      ∀ x, Own (w.setCell ⟨g, k, none⟩ x) base 5 v (xs.set k x) ∧ w.grownBy (w.setCell ⟨g, k, none⟩ x) (some g) := by
  rcases h.2 with ⟨rfl, h0⟩ | ⟨g, cap, cur, rfl, hbg, hg, h1⟩
  · omega
  · have hown : w.ownsRow base 5 1 (.slice (some ⟨g, 0, none⟩) xs.length cap) xs.length xs := h
    refine ⟨g, cap, xs[k], rfl, hbg, ?_, hown.frozenAt k, fun x => ?_⟩
    · rw [hown.cellAt k (by omega), List.getElem?_eq_getElem hk]
    · have := hown.stored k x
      refine ⟨?_, this.2⟩
      unfold Own
      rw [List.length_set]
      exact this.1

/-- The loop's relation: k elements have been overwritten. -/
def OverRel (w w3 : World) (n : Nat) (vc v27 : Value) (wr : World) : Prop :=
  ∃ k : Nat, k ≤ n ∧ v27 = .int .i64 (k : Int) ∧ (∃ xs : List Value, xs.length = n ∧ Own wr w.heap.size 5 vc xs) ∧ w3.grownBy wr vc.ownBlock

set_option maxRecDepth 100000 in
set_option maxHeartbeats 2000000 in
theorem walk (w : World) (v0 : Value) (l : List UInt8) (h0 : Bs w v0 l) (n : Int) (hn : (Lit.int .i64 n).wf = true) :
    Calls Try.prog 9 #[v0, .int .i64 n] w fun e w' => e = .returned (.bool true) ∧ Below w.heap.size w w' := by
  obtain ⟨A, c, rfl⟩ := h0.form
  have hn1 := int_lo hn
  have hn2 := int_hi hn
  clear hn
  by_cases hl : 100 < l.length
  · go_enter Try.func9, Try.ntmps9
    go_wp2_with (go_at_call 10; refine (works_any _).mono ?_; rintro en w1 ⟨rfl, hb1⟩)
    go_ret
    exact ⟨rfl, hb1⟩
  · have hl' : l.length ≤ 100 := by omega
    have hpi : ∃ l' e' m', rInt l 0 (-9223372036854775808) 9223372036854775807 = (l', e', m') := ⟨_, _, _, rfl⟩
    obtain ⟨l', e', m', hpi⟩ := hpi
    have HPI := hid hpi
    clear hpi hl
    go_enter Try.func9, Try.ntmps9
    go_wp2_with (at_builtin; refine wpList_app0 rfl (.tmp 15) (.tmp 16) rfl _ l rfl rfl h0 (by omega) ?_; intro v1 w1 hown1 hb1)
    refine (putInt_any v1 l n _ hown1.bs (by omega) hn1 hn2).mono ?_
    rintro en w2 ⟨v2, rfl, hown2, hb2⟩
    have hown1' := hown1.below hb2
    have hlt1 := fun k hk => (World.ownsRow.lt (show w1.ownsRow _ _ _ _ _ _ from hown1) k hk).2
    have hB2 := bstep hb1 hb2
    clear hown1
    go_wp2_with fail
    refine (open_far v1 l _ hown1'.bs (by omega)).mono ?_
    rintro en w3 ⟨gr, rfl, hb3, hgr, hgr3, hfar⟩
    have hown3 := hown1'.below hb3
    have hout3 := hown2.below hb3
    have hB3 := bstep hB2 hb3
    have hs1 := hb1.size
    have hs2 := hb2.size
    have hs3 := hb3.size
    have HFAR := hid hfar
    have HLT1 := hid hlt1
    clear hown1' hown2 hfar hlt1 hb1 hb2 hb3 hB2
    obtain ⟨A1, c1, rfl⟩ := hown3.bs.form
    have HR : Hid (OverRel w w3 l.length (.slice A1 l.length c1) (.int .i64 0) w3) := ⟨0, Nat.zero_le _, rfl, ⟨l.map by8, by simp, hown3⟩, World.grownBy.refl _ _⟩
    clear hown3
    go_wp2_with fail
    go_loopw [27] (fun v27 wr => OverRel w w3 l.length (.slice A1 l.length c1) v27 wr) (fun v27 _ => l.length - (intOf v27).toNat)
    case atStart => exact HR.out
    case round =>
      obtain ⟨k, hk, rfl, ⟨xs, hxl, hown⟩, hgb⟩ := hrel
      by_cases hlt : k < l.length
      · obtain ⟨g, cap, u, hv, hbg, hcell, hfro, hset⟩ := own_at hown k (by omega)
        have hgb' : w3.grownBy wr (some g) := by rw [hv] at hgb; exact hgb
        have HS := hid (hset (.int .u8 255))
        have hown' : Hid (OverRel w w3 l.length (.slice A1 l.length c1) (.int .i64 ((k : Int) + 1)) (wr.setCell ⟨g, k, none⟩ (.int .u8 255))) :=
          ⟨k + 1, by omega, by go_num, ⟨xs.set k (.int .u8 255), by simp [hxl], HS.out.1⟩, by rw [hv]; exact Ch.trans hgb' HS.out.2⟩
        injection hv with e1 e2 e3
        subst e1 e3
        clear e2 hxl hown hgb hgb' hset HS
        go_wp2
        go_roundw
        case rel => exact hown'.out
        case measure => simp [intOf]; omega
      · have hBr : Below w.heap.size w wr := hB3.grown hgb hB3.size hown.base_le
        have hr : WR wr gr l 0 := HFAR.out wr (fun j h1 h2 => hgb.block j h2 (fun e => by have := HLT1.out j e.symm; omega))
        have hout : OwnB wr w1.heap.size v2 (l ++ Wi.enc n) := hout3.same (fun j h1 h2 => hgb.block j h2 (fun e => by have := HLT1.out j e.symm; omega))
        clear hxl hown hgb HFAR HLT1 hout3 HR
        have hz := heap_alloc_new wr (.cells #[.pointer none, .slice none 0 0, .int .i64 0] 48)
        have hN : NR (wr.alloc (.cells #[.pointer none, .slice none 0 0, .int .i64 0] 48)) (.pointer (some ⟨wr.heap.size, 0, none⟩)) := .inr ⟨_, _, _, rfl, hz⟩
        have hba : Below wr.heap.size wr (wr.alloc (.cells #[.pointer none, .slice none 0 0, .int .i64 0] 48)) := below_alloc _ _
        have hBz := bstep hBr hba
        have hrz := hr.below hba
        have houtz := hout.below hba
        clear hz hba hBr hr hout
        go_wp2_with (first
          | (go_at_call 26; ((with_reducible refine (fail_no (.pointer none) _ _ (NR.nil _)).mono ?_); rintro en w' ⟨rfl, rfl⟩))
          | (go_at_call 26; ((with_reducible refine (fail_no _ _ _ hN).mono ?_); rintro en w' ⟨rfl, rfl⟩))
          | (go_at_call 24; ((with_reducible refine (err_no (.pointer none) _ (NR.nil _)).mono ?_); rintro en w' ⟨rfl, rfl⟩))
          | (go_at_call 24; ((with_reducible refine (err_no _ _ hN).mono ?_); rintro en w' ⟨rfl, rfl⟩))
          | (go_at_call 27; ((with_reducible refine (end_no (.pointer none) _ (NR.nil _)).mono ?_); rintro en w' ⟨rfl, rfl⟩))
          | (go_at_call 27; ((with_reducible refine (end_no _ _ hN).mono ?_); rintro en w' ⟨rfl, rfl⟩))
          | (go_at_call 21; ((with_reducible refine (int_no (.pointer none) _ _ _ (NR.nil _)).mono ?_); rintro en w' ⟨rfl, rfl⟩))
          | (go_at_call 22; ((with_reducible refine (text_no _ _ _ hN).mono ?_); rintro en w' ⟨rfl, rfl⟩))
          | (go_at_call 23; ((with_reducible refine (bool_no (.pointer none) _ (NR.nil _)).mono ?_); rintro en w' ⟨rfl, rfl⟩))
          | (go_at_call 25; ((with_reducible refine (left_no _ _ hN).mono ?_); rintro en w' ⟨rfl, rfl⟩)))
        refine (rputInt_any _ l n _ (h0.below hBz) (by omega) hn1 hn2).mono ?_
        rintro en w5 ⟨v5, rfl, hown5, hb5⟩
        have hout5 := houtz.below hb5
        have hr5 := hrz.below hb5
        have hB5 := bstep hBz hb5
        clear houtz hrz hBz hb5 hN
        go_wp2_with fail
        refine (equal_yes hout5.bs hown5.bs rfl).mono ?_
        rintro en w6 ⟨rfl, hb6⟩
        have hr6 := hr5.below hb6
        have hB6 := bstep hB5 hb6
        clear hout5 hown5 hr5 hB5 hb6
        go_wp2_with fail
        refine (int_any gr l 0 (-9223372036854775808) 9223372036854775807 _ hr6).mono ?_
        intro en w7 ht
        obtain ⟨rfl, _, hch7⟩ := ht.at HPI.out
        have hB7 := hB6.trans (hch7.below (show w.heap.size ≤ gr by omega) hB6.size)
        clear ht hr6 hch7 hB6
        go_wp2_with fail
        refine (ropen_any _ l _ (h0.below hB7) (by omega)).mono ?_
        rintro en w8 ⟨g8, rfl, hr8, hb8, hg8⟩
        have hB8 := bstep hB7 hb8
        have hg8' : w.heap.size ≤ g8 := Nat.le_trans hB7.size hg8
        clear hB7 hb8 hg8
        go_wp2_with fail
        refine (rint_any g8 l 0 (-9223372036854775808) 9223372036854775807 _ hr8).mono ?_
        intro en w9 ht
        unfold RIntPost at ht
        rw [HPI.out] at ht
        obtain ⟨rfl, _, hch9⟩ := ht
        have hB9 := hB8.trans (hch9.below hg8' hB8.size)
        clear hr8 hch9 hB8
        go_wp2_with fail
        refine (works_any _).mono ?_
        rintro en w10 ⟨rfl, hb10⟩
        go_wp2_with fail
        go_ret
        exact ⟨rfl, bstep hB9 hb10⟩


theorem own : ownKnob Try.prog.godebug = none := by kernel_rfl
theorem laidOut : laidOutB Try.prog = true := by kernel_rfl

set_option maxRecDepth 100000 in
theorem lifted (os : Os) (started : os.Started) (H : Type) (enc : TypeId × Value → H) :
    ReturnsInHanded {} Try.checked os 9 .any (Rows.wireOwnSpec.pre6 enc Try.prog Try.f9 Rows.wireOwnRow.domain false) (Rows.wireOwnSpec.post enc Try.prog Try.f9 false true false false) := by
  refine returnsInHanded_of_change (C := Try.checked) own started (by kernel_rfl) Try.func9
    (ChangeSpec.witness6 (enc := enc) (C := Try.checked) false ⟨#[], #[.slice none 0 0, .int .i64 0], []⟩ 8 (by kernel_rfl) (by kernel_rfl) (by kernel_rfl) (by kernel_rfl)) ?_
  intro W base args ds gs before hval0 hW hcnd _
  have hval : ∀ (j : Nat) t v, Try.f9.params[j]? = some t → args[j]? = some v → Value.okWide Try.prog W .any base t v := hval0
  have hW' := hW
  obtain ⟨p, q, hA0, hV, rfl, hfz, hnd⟩ := hW
  have hA : DataW.TrodAll enc Try.prog W 0 (fun _ => true) true Try.f9.params.toList args.toList ds p := hA0
  rw [Try.params9] at hA hval
  obtain ⟨v0, vs0, d0, ds0, p0, q0, hargs, rfl, rfl, h0, r0⟩ := trodAll_cons hA
  obtain ⟨v1, vs1, d1, ds1, p1, q1, rfl, rfl, rfl, h1, r1⟩ := trodAll_cons r0
  obtain ⟨rfl, rfl, rfl⟩ := trodAll_nil r1
  obtain rfl : args = #[v0, v1] := by cases args; simp_all
  obtain ⟨rfl, rfl⟩ := trodVars_none hV
  have k0 := h0
  have lt0 : ∀ x ∈ p0, x.block < W.heap.size := by obtain ⟨m, hm⟩ := k0; exact DataW.trod_lt m _ _ _ hm
  obtain ⟨l0, b0⟩ := open_bytes (hval 0 22 v0 rfl rfl) h0
  obtain ⟨a1, rfl, rfl, rfl, w1⟩ := open_int Try.underlying3 (hval 1 3 v1 rfl rfl) h1
  clear hA0 hval0
  refine (walk W v0 l0 b0 a1 w1).mono fun e W' ⟨he, bel⟩ => ?_
  subst he
  exact ⟨_, rfl, _, _, _, [], _, [], hW', trodAll_mk1 (shut_bool Try.underlying4 _), (trodAll_cons_mk (Below.trod laidOut (by kernel_rfl) (of_decide_eq_true (by kernel_rfl)) k0 bel lt0) (trodAll_cons_mk (shut_int Try.underlying3 w1) trodAll_mk0)), rfl, bel.frame _, fun h => by cases h⟩

theorem over : Rows.wireOwnRow.holds Try.pinned (OpenSpec.ofChange Rows.wireOwnSpec) :=
  OpenClaim.holds_of_wide 9 Try.f9 rfl rfl rfl rfl rfl rfl rfl ⟨rfl, rfl, rfl, rfl, rfl⟩ rfl rfl rfl rfl rfl (by kernel_rfl) Try.func9 (by kernel_rfl)
    (of_decide_eq_true (by kernel_rfl)) (by unfold Func.isWrapper; first | (rw [if_pos (by decide +kernel)]; kernel_rfl) | (rw [if_neg (by decide +kernel)]; exact ⟨rfl, rfl⟩))
    (fun os started H enc _ => lifted os started H enc)

/-- THE STATEMENT. -/
theorem proved : Rows.WireOwnSaid := over
#print axioms proved
end Go.Proofs.Ytimphdnnnhgcgaa.wireOwn
