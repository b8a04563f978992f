/-
  WHAT IS PROVED: the statement WireRound of layer 1 (Rows.WireRoundSaid): for every input, of any size, the Go function workflowlaw01.WireRound returns true, and each argument reads afterwards as it read before. CONDITIONS: none beyond the row's own.
-/
import Derived.Test.YtimphdnnnhgcgaaRows
import Derived.Test.YtimphdnnnhgcgaaBack
import Derived.ProofKit
import Derived.OpenShut
import Derived.ShutString
import Derived.ChangeOld
namespace Go.Proofs.Ytimphdnnnhgcgaa.wireRound
open Go.ChangeShapes Go.WideShapes Go.ChangeAt Go.RowKit
open Go.ChangeMaps (open_string shut_string)
set_option linter.unusedVariables false

set_option maxRecDepth 100000 in
set_option maxHeartbeats 1000000 in
theorem walk (w : World) (n : Int) (hn : (Lit.int .i64 n).wf = true) (s : ByteArray) (hs : s.size ≤ maxLen) (b : Bool) (v3 : Value) (rest : List UInt8) (h3 : Bs w v3 rest) :
    Calls Try.prog 5 #[.int .i64 n, .string s, .bool b, v3] w fun e w' => e = .returned (.bool true) ∧ Below w.heap.size w w' := by
  have hn1 := int_lo hn
  have hn2 := int_hi hn
  obtain ⟨A, c, rfl⟩ := h3.form
  clear hn hs
  by_cases hsl : 300 < s.size
  · go_enter Try.func5, Try.ntmps5
    go_wp2_with (go_at_call 10; refine (works_any _).mono ?_; rintro en w1 ⟨rfl, hb1⟩)
    go_ret
    exact ⟨rfl, hb1⟩
  · by_cases hrl : 50 < rest.length
    · go_enter Try.func5, Try.ntmps5
      go_wp2_with (go_at_call 10; refine (works_any _).mono ?_; rintro en w1 ⟨rfl, hb1⟩)
      go_ret
      exact ⟨rfl, hb1⟩
    · have hls : s.data.toList.length = s.size := (size_list s).symm
      have hEn := (Wi.enc_len n hn1 hn2).2
      have hEs := (Wi.enc_len (s.data.toList.length : Int) (by omega) (by omega)).2
      have HI := hid (rInt_enc n (encText s.data.toList ++ (encBool b ++ rest)) n n hn1 hn2 (Int.le_refl _) (Int.le_refl _))
      have HT := hid (rText_enc s.data.toList (encBool b ++ rest) (s.size : Int) (by omega) (by omega))
      have HB := hid (rBool_enc b rest)
      have HL : Hid ((Wi.enc n ++ (encText s.data.toList ++ (encBool b ++ rest))).length ≤ 2000) := by
        show _ ≤ _
        have : (encBool b).length = 1 := rfl
        have : (encText s.data.toList).length = (Wi.enc (s.data.toList.length : Int)).length + s.data.toList.length := by simp [encText]
        simp only [List.length_append]
        omega
      have HE : Hid (Wi.enc n ++ encText s.data.toList ++ encBool b ++ rest = Wi.enc n ++ (encText s.data.toList ++ (encBool b ++ rest))) := by
        show _ = _
        simp only [List.append_assoc]
      have HP : Hid ((Wi.enc n ++ encText s.data.toList).length ≤ 1000) := by
        show _ ≤ _
        have : (encText s.data.toList).length = (Wi.enc (s.data.toList.length : Int)).length + s.data.toList.length := by simp [encText]
        simp only [List.length_append]
        omega
      have HN : Hid ((Wi.enc n).length ≤ 10) := hEn
      have hstr := strOf_str s
      clear hls hEn hEs
      go_enter Try.func5, Try.ntmps5
      go_wp2_with fail
      refine (putInt_nil n _ hn1 hn2).mono ?_
      rintro en w1 ⟨v1, rfl, hown1, hb1⟩
      have HN1 := HN.out
      go_wp2_with fail
      refine (putText_any _ (Wi.enc n) s _ hown1.bs (by omega) (by omega)).mono ?_
      rintro en w2 ⟨v2, rfl, hown2, hb2⟩
      have hB2 := bstep hb1 hb2
      have HP1 := HP.out
      clear hown1 hb1 hb2
      go_wp2_with fail
      refine (putBool_any _ (Wi.enc n ++ encText s.data.toList) b _ hown2.bs (by omega)).mono ?_
      rintro en w3 ⟨v3, rfl, hown3, hb3⟩
      have hB3 := bstep hB2 hb3
      have hs3 : w.heap.size ≤ w3.heap.size := hB3.size
      have hown3' := hown3.lower hB2.size
      have hl3 : (Wi.enc n ++ encText s.data.toList ++ encBool b).length + rest.length ≤ 140737488355328 := by
        have h1 : (encBool b).length = 1 := rfl
        simp only [List.length_append] at HP1 ⊢
        omega
      clear hown2 hown3 hb3 hB2 HP1 HN1
      go_wp2_with (at_builtin; refine wpList_appB rfl (.tmp 26) (.tmp 27) rfl w.heap.size v3 _ _ rest rfl hown3' rfl (h3.below hB3) hl3 hs3 ?_; intro v4 w4 hown4 hb4)
      have hB4 := hB3.trans hb4
      rw [HE.out] at hown4
      have HL1 := HL.out
      clear hown3' hb4 hB3 hl3
      refine (open_any _ _ _ hown4.bs (by omega)).mono ?_
      rintro en w5 ⟨g, rfl, hr5, hb5, hg⟩
      have hB5 := bstep hB4 hb5
      have hs4 := hB4.size
      have hg' : w.heap.size ≤ g := by omega
      have hs5 := hB5.size
      clear hown4 hB4 hb5 hg HL1
      go_wp2_with fail
      refine (int_any g _ 0 n n _ hr5).mono ?_
      intro en w6 ht
      obtain ⟨rfl, hr6, hch6⟩ := ht.at HI.out
      have hB6 := hB5.trans (hch6.below hg' hs5)
      have hs6 := hB6.size
      clear ht hr5 hB5 hch6
      go_wp2_with fail
      refine (text_any g _ 0 (s.size : Int) _ hr6).mono ?_
      intro en w7 ht
      obtain ⟨rfl, hr7, hch7⟩ := ht.at HT.out
      have hB7 := hB6.trans (hch7.below hg' hs6)
      have hs7 := hB7.size
      clear ht hr6 hB6 hch7
      go_wp2_with fail
      refine (bool_any g _ 0 _ hr7).mono ?_
      intro en w8 ht
      unfold BoolPost at ht
      rw [HB.out] at ht
      obtain ⟨rfl, hr8, hch8⟩ := ht
      have hB8 := hB7.trans (hch8.below hg' hs7)
      clear hr7 hB7 hch8
      go_wp2_with fail
      refine (err_any g rest 0 _ hr8).mono ?_
      rintro en w' ⟨rfl, rfl⟩
      go_wp2_with fail
      refine (left_any g rest 0 _ hr8).mono ?_
      rintro en w' ⟨rfl, rfl⟩
      go_wp2_with fail
      refine (works_any _).mono ?_
      rintro en w9 ⟨rfl, hb9⟩
      go_wp2_with fail
      go_ret
      exact ⟨rfl, bstep hB8 hb9⟩


theorem own : ownKnob Try.prog.godebug = none := by kernel_rfl
theorem laidOut : laidOutB Try.prog = true := by kernel_rfl

set_option maxRecDepth 100000 in
theorem lifted (os : Os) (started : os.Started) (H : Type) (enc : TypeId × Value → H) :
    ReturnsInHanded {} Try.checked os 5 .any (Rows.wireRoundSpec.pre6 enc Try.prog Try.f5 Rows.wireRoundRow.domain false) (Rows.wireRoundSpec.post enc Try.prog Try.f5 false true false false) := by
  refine returnsInHanded_of_change (C := Try.checked) own started (by kernel_rfl) Try.func5
    (ChangeSpec.witness6 (enc := enc) (C := Try.checked) false ⟨#[], #[.int .i64 0, .string ByteArray.empty, .bool false, .slice none 0 0], []⟩ 8 (by kernel_rfl) (by kernel_rfl) (by kernel_rfl) (by kernel_rfl)) ?_
  intro W base args ds gs before hval0 hW hcnd _
  have hval : ∀ (j : Nat) t v, Try.f5.params[j]? = some t → args[j]? = some v → Value.okWide Try.prog W .any base t v := hval0
  have hW' := hW
  obtain ⟨p, q, hA0, hV, rfl, hfz, hnd⟩ := hW
  have hA : DataW.TrodAll enc Try.prog W 0 (fun _ => true) true Try.f5.params.toList args.toList ds p := hA0
  rw [Try.params5] at hA hval
  obtain ⟨v0, vs0, d0, ds0, p0, q0, hargs, rfl, rfl, h0, r0⟩ := trodAll_cons hA
  obtain ⟨v1, vs1, d1, ds1, p1, q1, rfl, rfl, rfl, h1, r1⟩ := trodAll_cons r0
  obtain ⟨v2, vs2, d2, ds2, p2, q2, rfl, rfl, rfl, h2, r2⟩ := trodAll_cons r1
  obtain ⟨v3, vs3, d3, ds3, p3, q3, rfl, rfl, rfl, h3, r3⟩ := trodAll_cons r2
  obtain ⟨rfl, rfl, rfl⟩ := trodAll_nil r3
  obtain rfl : args = #[v0, v1, v2, v3] := by cases args; simp_all
  obtain ⟨rfl, rfl⟩ := trodVars_none hV
  obtain ⟨a0, rfl, rfl, rfl, w0⟩ := open_int Try.underlying3 (hval 0 3 v0 rfl rfl) h0
  obtain ⟨a1, rfl, rfl, rfl, w1⟩ := open_string Try.underlying9 (hval 1 9 v1 rfl rfl) h1
  obtain ⟨a2, rfl, rfl, rfl⟩ := open_bool Try.underlying4 (hval 2 4 v2 rfl rfl) h2
  have k3 := h3
  have lt3 : ∀ x ∈ p3, x.block < W.heap.size := by obtain ⟨m, hm⟩ := k3; exact DataW.trod_lt m _ _ _ hm
  obtain ⟨l3, b3⟩ := open_bytes (hval 3 22 v3 rfl rfl) h3
  clear hA0 hval0
  refine (walk W a0 w0 a1 w1 a2 v3 l3 b3).mono fun e W' ⟨he, bel⟩ => ?_
  subst he
  exact ⟨_, rfl, _, _, _, [], _, [], hW', trodAll_mk1 (shut_bool Try.underlying4 _), (trodAll_cons_mk (shut_int Try.underlying3 w0) (trodAll_cons_mk (shut_string Try.underlying9 w1) (trodAll_cons_mk (shut_bool Try.underlying4 _) (trodAll_cons_mk (Below.trod laidOut (by kernel_rfl) (of_decide_eq_true (by kernel_rfl)) k3 bel lt3) trodAll_mk0)))), rfl, bel.frame _, fun h => by cases h⟩

theorem over : Rows.wireRoundRow.holds Try.pinned (OpenSpec.ofChange Rows.wireRoundSpec) :=
  OpenClaim.holds_of_wide 5 Try.f5 rfl rfl rfl rfl rfl rfl rfl ⟨rfl, rfl, rfl, rfl, rfl⟩ rfl rfl rfl rfl rfl (by kernel_rfl) Try.func5 (by kernel_rfl)
    (of_decide_eq_true (by kernel_rfl)) (by unfold Func.isWrapper; first | (rw [if_pos (by decide +kernel)]; kernel_rfl) | (rw [if_neg (by decide +kernel)]; exact ⟨rfl, rfl⟩))
    (fun os started H enc _ => lifted os started H enc)

/-- THE STATEMENT. -/
theorem proved : Rows.WireRoundSaid := over
#print axioms proved
end Go.Proofs.Ytimphdnnnhgcgaa.wireRound
