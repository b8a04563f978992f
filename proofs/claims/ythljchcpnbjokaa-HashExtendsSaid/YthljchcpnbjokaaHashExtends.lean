/-
  WHAT IS PROVED: the statement HashExtends of layer 4 (Rows.HashExtendsSaid): for every input, of any size, the Go function workflowlaw04.HashExtends returns true, and each argument reads afterwards as it read before. CONDITIONS: none beyond the row's own.
-/
import Derived.Test.YthljchcpnbjokaaRows
import Derived.Test.YthljchcpnbjokaaHWks
import Derived.Deep.RegionHeld3
import Derived.Deep.RegionWith
import Derived.Deep.DeepCutAuto
import Derived.ProofKit
import Derived.OpenShut
import Derived.ShutString
import Derived.ChangeOld
namespace Go.Proofs.Ythljchcpnbjokaa.hashExtends
open Go.ChangeShapes Go.WideShapes Go.ChangeAt Go.RowKit
open Go.ChangeMaps (open_string shut_string)
set_option linter.unusedVariables false

theorem byte_of {x : Int} (h : (Lit.int .u8 x).wf = true) : ∃ c : UInt8, x = (c.toNat : Int) := by
  have := bounds_u8 h
  exact ⟨UInt8.ofNat x.toNat, by rw [Wi.ofNat_toNat (by omega)]; omega⟩
def oneB (x : UInt8) : ByteArray := ⟨#[x]⟩
theorem oneB_size (x : UInt8) : (oneB x).size = 1 := rfl
theorem oneB_fnv (s : ByteArray) (x : UInt8) : Hs.fnv (s ++ oneB x).data.toList = Hs.stp (Hs.fnv s.data.toList) x.toNat := by
  rw [show (s ++ oneB x).data.toList = s.data.toList ++ [x] by simp [oneB], Hs.fnv_snoc]
theorem lit1 (w : World) (x : UInt8) : Bs (w.alloc (.cells #[.int .u8 (x.toNat : Int)] 5)) (.slice (some ⟨w.heap.size, 0, none⟩) 1 1) [x] := lit8s w [x] (by simp [maxLen])
theorem drewB {w : World} {v : Value} {l : List UInt8} (h : Bs w v l) : Bs w.drew v l := h.below (Below.refl _ _).drew
theorem conv1 (w : World) (x : UInt8) : (convert 25 9 (.slice (some ⟨w.heap.size, 0, none⟩) 1 1)).run Try.prog (w.alloc (.cells #[.int .u8 (x.toNat : Int)] 5)).drew = .ok (.string (oneB x)) (w.alloc (.cells #[.int .u8 (x.toNat : Int)] 5)).drew :=
  (drewB (lit1 w x)).conv
theorem conv2 (w : World) (x : UInt8) (y : Int) : (convert 25 9 (.slice (some ⟨w.heap.size, 0, none⟩) 1 1)).run Try.prog ((w.alloc (.cells #[.int .u8 (x.toNat : Int)] 5)).alloc (.cells #[.int .u8 y] 5)).drew = .ok (.string (oneB x)) ((w.alloc (.cells #[.int .u8 (x.toNat : Int)] 5)).alloc (.cells #[.int .u8 y] 5)).drew :=
  (drewB (Bs.alloc (lit1 w x) _)).conv
theorem conv3 (w : World) (x : UInt8) (y : Int) : (convert 25 9 (.slice (some ⟨w.heap.size + 1, 0, none⟩) 1 1)).run Try.prog ((w.alloc (.cells #[.int .u8 y] 5)).alloc (.cells #[.int .u8 (x.toNat : Int)] 5)).drew = .ok (.string (oneB x)) ((w.alloc (.cells #[.int .u8 y] 5)).alloc (.cells #[.int .u8 (x.toNat : Int)] 5)).drew := by
  have := (drewB (lit1 (w.alloc (.cells #[.int .u8 y] 5)) x)).conv
  rw [World.size_alloc] at this
  exact this

set_option maxRecDepth 100000 in
set_option maxHeartbeats 4000000 in
theorem walk (w : World) (s : ByteArray) (hs : s.size ≤ maxLen) (x : Int) (hx : (Lit.int .u8 x).wf = true) (y : Int) (hy : (Lit.int .u8 y).wf = true) :
    Calls Try.prog 8 #[.string s, .int .u8 x, .int .u8 y] w fun e w' => e = .returned (.bool true) ∧ Below w.heap.size w w' := by
  by_cases hl : 1000 < s.size
  · clear hs
    go_enter Try.func8, Try.ntmps8
    go_wp2_with (go_at_call 9; refine (works_any _).mono ?_; rintro en w1 ⟨rfl, hb1⟩)
    go_ret
    exact ⟨rfl, hb1⟩
  obtain ⟨x, rfl⟩ := byte_of hx
  obtain ⟨y, rfl⟩ := byte_of hy
  have hl' : s.size ≤ 1000 := by omega
  have C0 := hid (fun W => fnv_any s W hs)
  have CX := hid (fun W => fnv_any (s ++ oneB x) W (by rw [ByteArray.size_append, oneB_size]; unfold maxLen; omega))
  have CY := hid (fun W => fnv_any (s ++ oneB y) W (by rw [ByteArray.size_append, oneB_size]; unfold maxLen; omega))
  rw [oneB_fnv] at CX CY
  have hsx := oneB_size x
  have hsy := oneB_size y
  have hf := Hs.fnv_lt s.data.toList
  have HR := hid (raw_stp (Hs.fnv s.data.toList) x hf)
  have HI := hid (fun e => Hs.stp_inj (c := x.toNat) (d := y.toNat) hf (Hs.byte_lt x) (Hs.byte_lt y) e)
  have HE := hid (fun (e : x.toNat = y.toNat) => congrArg (Hs.stp (Hs.fnv s.data.toList)) e)
  have hfx := Hs.stp_lt (Hs.fnv s.data.toList) x.toNat
  generalize Hs.stp (Hs.fnv s.data.toList) x.toNat = fx at *
  generalize Hs.stp (Hs.fnv s.data.toList) y.toNat = fy at *
  generalize Hs.fnv s.data.toList = f at *
  have a1 := conv1 w x
  have a2 := conv2 w x (y.toNat : Int)
  have a3 := conv3 w x (y.toNat : Int)
  have b1 := conv1 w y
  have b2 := conv2 w y (x.toNat : Int)
  have b3 := conv3 w y (x.toNat : Int)
  have hsx' : (oneB x).size ≤ 1 := by omega
  have hsy' : (oneB y).size ≤ 1 := by omega
  clear hsx hsy hx hy hs
  generalize oneB x = sx at *
  generalize oneB y = sy at *
  go_enter Try.func8, Try.ntmps8
  go_upto_region 3 with (fail)
  go_cut [7, 8] (fun v7 v8 wx => v7 = .int .i64 (fx : Int) ∧ v8 = .int .i64 (fy : Int) ∧ Below w.heap.size w wx)
  case first =>
    go_region_with (first
      | (go_at_call 10; (with_reducible refine (CX.out _).mono ?_); rintro e w' ⟨rfl, rfl⟩)
      | (go_at_call 10; (with_reducible refine (CY.out _).mono ?_); rintro e w' ⟨rfl, rfl⟩))
    all_goals
      go_wp2_with fail
      go_meet
      exact ⟨rfl, rfl, (((Below.refl _ _).alloc (Nat.le_refl _) _).alloc (by simp) _).drew⟩
  case rest =>
    obtain ⟨rfl, rfl, hb0⟩ := hcut
    clear a1 a2 a3 b1 b2 b3
    have hr := HR.out
    by_cases hxy : x = y
    · obtain rfl : fx = fy := HE.out (by rw [hxy])
      subst hxy
      go_wp2_with fail
      refine (C0.out _).mono ?_
      rintro e w' ⟨rfl, rfl⟩
      go_wp2_with fail
      refine (works_any _).mono ?_
      rintro e w2 ⟨rfl, hb2⟩
      go_wp2_with fail
      go_ret
      exact ⟨rfl, bstep hb0 hb2⟩
    · have h1 : ((fx : Int) == (fy : Int)) = false := by
        rw [beq_eq_false_iff_ne]
        intro e
        exact hxy (UInt8.toNat_inj.1 (HI.out (by omega)))
      have h2 : ((x.toNat : Int) == (y.toNat : Int)) = false := by
        rw [beq_eq_false_iff_ne]
        intro e
        exact hxy (UInt8.toNat_inj.1 (by omega))
      go_wp2_with fail
      refine (C0.out _).mono ?_
      rintro e w' ⟨rfl, rfl⟩
      go_wp2_with fail
      refine (works_any _).mono ?_
      rintro e w2 ⟨rfl, hb2⟩
      go_wp2_with fail
      go_ret
      exact ⟨rfl, bstep hb0 hb2⟩


theorem own : ownKnob Try.prog.godebug = none := by kernel_rfl
theorem laidOut : laidOutB Try.prog = true := by kernel_rfl

set_option maxRecDepth 100000 in
theorem lifted (os : Os) (started : os.Started) (H : Type) (enc : TypeId × Value → H) :
    ReturnsInHanded {} Try.checked os 8 .any (Rows.hashExtendsSpec.pre6 enc Try.prog Try.f8 Rows.hashExtendsRow.domain false) (Rows.hashExtendsSpec.post enc Try.prog Try.f8 false true false false) := by
  refine returnsInHanded_of_change (C := Try.checked) own started (by kernel_rfl) Try.func8
    (ChangeSpec.witness6 (enc := enc) (C := Try.checked) false ⟨#[], #[.string ByteArray.empty, .int .u8 0, .int .u8 0], []⟩ 8 (by kernel_rfl) (by kernel_rfl) (by kernel_rfl) (by kernel_rfl)) ?_
  intro W base args ds gs before hval0 hW hcnd _
  have hval : ∀ (j : Nat) t v, Try.f8.params[j]? = some t → args[j]? = some v → Value.okWide Try.prog W .any base t v := hval0
  have hW' := hW
  obtain ⟨p, q, hA0, hV, rfl, hfz, hnd⟩ := hW
  have hA : DataW.TrodAll enc Try.prog W 0 (fun _ => true) true Try.f8.params.toList args.toList ds p := hA0
  rw [Try.params8] at hA hval
  obtain ⟨v0, vs0, d0, ds0, p0, q0, hargs, rfl, rfl, h0, r0⟩ := trodAll_cons hA
  obtain ⟨v1, vs1, d1, ds1, p1, q1, rfl, rfl, rfl, h1, r1⟩ := trodAll_cons r0
  obtain ⟨v2, vs2, d2, ds2, p2, q2, rfl, rfl, rfl, h2, r2⟩ := trodAll_cons r1
  obtain ⟨rfl, rfl, rfl⟩ := trodAll_nil r2
  obtain rfl : args = #[v0, v1, v2] := by cases args; simp_all
  obtain ⟨rfl, rfl⟩ := trodVars_none hV
  obtain ⟨a0, rfl, rfl, rfl, w0⟩ := open_string Try.underlying9 (hval 0 9 v0 rfl rfl) h0
  obtain ⟨a1, rfl, rfl, rfl, w1⟩ := open_int Try.underlying5 (hval 1 5 v1 rfl rfl) h1
  obtain ⟨a2, rfl, rfl, rfl, w2⟩ := open_int Try.underlying5 (hval 2 5 v2 rfl rfl) h2
  clear hA0 hval0
  refine (walk W a0 w0 a1 w1 a2 w2).mono fun e W' ⟨he, bel⟩ => ?_
  subst he
  exact ⟨_, rfl, _, _, _, [], _, [], hW', trodAll_mk1 (shut_bool Try.underlying4 _), (trodAll_cons_mk (shut_string Try.underlying9 w0) (trodAll_cons_mk (shut_int Try.underlying5 w1) (trodAll_cons_mk (shut_int Try.underlying5 w2) trodAll_mk0))), rfl, bel.frame _, fun h => by cases h⟩

theorem over : Rows.hashExtendsRow.holds Try.pinned (OpenSpec.ofChange Rows.hashExtendsSpec) :=
  OpenClaim.holds_of_wide 8 Try.f8 rfl rfl rfl rfl rfl rfl rfl ⟨rfl, rfl, rfl, rfl, rfl⟩ rfl rfl rfl rfl rfl (by kernel_rfl) Try.func8 (by kernel_rfl)
    (of_decide_eq_true (by kernel_rfl)) (by unfold Func.isWrapper; first | (rw [if_pos (by decide +kernel)]; kernel_rfl) | (rw [if_neg (by decide +kernel)]; exact ⟨rfl, rfl⟩))
    (fun os started H enc _ => lifted os started H enc)

/-- THE STATEMENT. -/
theorem proved : Rows.HashExtendsSaid := over
#print axioms proved
end Go.Proofs.Ythljchcpnbjokaa.hashExtends
