/-
  WHAT IS PROVED: the statement NameGrows of layer 6 (Rows.NameGrowsCardSaid): for every input, of any size, the Go function workflowlaw06.NameGrows returns true, and each argument reads afterwards as it read before. CONDITIONS: the package-level variables that the row lists (two errors and three tables of Go's library) start as the program's text lays them: the card ties them to it. None beyond the row's own.
-/
import Derived.Test.YtcpahiipibpphaaDoorCards
import Derived.Test.YtcpahiipibpphaaDoorTie
import Derived.Test.YtcpahiipibpphaaDoorNLives
import Derived.Test.YtcpahiipibpphaaDoorNLaid
import Derived.ProofKit
import Derived.OpenShut
import Derived.ShutString
import Derived.ChangeOld
import Derived.SevenTiedAt
import Derived.Deep.DeepHandedRow
import Derived.Deep.DeepWitnessRowRef
namespace Go.Proofs.YtcpahiipibpphaaDoor.nameGrows
open Go.ChangeShapes Go.WideShapes Go.ChangeAt Go.RowKit
open Go.ChangeMaps (open_string shut_string)
set_option linter.unusedVariables false

theorem sev_list (s : ByteArray) : ((⟨#[55]⟩ : ByteArray) ++ s).data.toList = [55] ++ s.data.toList := by simp [ByteArray.data_append]
theorem snoc_list (s : ByteArray) (b : UInt8) : (s ++ (⟨#[b]⟩ : ByteArray)).data.toList = s.data.toList ++ [b] := by simp [ByteArray.data_append]
theorem byte_of {x : Int} (h : (Lit.int .u8 x).wf = true) : ∃ c : UInt8, x = (c.toNat : Int) := by
  have := bounds_u8 h
  exact ⟨UInt8.ofNat x.toNat, by rw [Wi.ofNat_toNat (by omega)]; omega⟩
theorem conv_byte (w : World) (b : UInt8) : (convert 32 9 (.slice (some ⟨w.heap.size, 0, none⟩) 1 1)).run Tryd.prog (w.alloc (.cells #[.int .u8 (b.toNat : Int)] 5))
    = .ok (.string ⟨#[b]⟩) (w.alloc (.cells #[.int .u8 (b.toNat : Int)] 5)) := (lit1 w b).conv

set_option maxRecDepth 100000 in
set_option maxHeartbeats 2000000 in
theorem walk (w : World) (hG : Good w) (s : ByteArray) (hs : s.size ≤ maxLen) (c : Int) (hc : (Lit.int .u8 c).wf = true) :
    Calls Tryd.prog 6 #[.string s, .int .u8 c] w fun e w' => e = .returned (.bool true) ∧ Below w.heap.size w w' := by
  obtain ⟨b, rfl⟩ := byte_of hc
  clear hc
  have HG := hid hG
  clear hG
  by_cases h : 1000 < s.size
  · go_enter Tryd.func6, Tryd.ntmps6
    go_wp2_with fail
    refine (lives_any _ HG.out).mono ?_
    rintro e w3 ⟨rfl, hb3⟩
    go_wp2_with fail
    go_ret
    exact ⟨rfl, hb3⟩
  · have C1 := hid (fun W => right_any s W (by omega))
    by_cases hr : Nm.right s.data.toList = true
    · have C2 := hid (fun W => right_any (s ++ ⟨#[b]⟩) W (by rw [ByteArray.size_append]; have : (⟨#[b]⟩ : ByteArray).size = 1 := rfl; omega))
      have C3 := hid (fun W => right_any (⟨#[55]⟩ ++ s) W (by rw [ByteArray.size_append]; have : (⟨#[55]⟩ : ByteArray).size = 1 := rfl; omega))
      rw [sev_list, Nm.right_seven] at C3
      rw [snoc_list, Nm.right_snoc hr] at C2
      rw [hr] at C1
      have hsz1 : (⟨#[b]⟩ : ByteArray).size = 1 := rfl
      have hsz2 : (⟨#[55]⟩ : ByteArray).size = 1 := rfl
      have hb := b.toNat_lt
      have hok : Hid (Nm.okc b = (((decide (97 ≤ b.toNat) && decide (b.toNat ≤ 122)) || (decide (65 ≤ b.toNat) && decide (b.toNat ≤ 90))) || (decide (48 ≤ b.toNat) && decide (b.toNat ≤ 57)) || decide (b.toNat = 95))) := rfl
      have h64 : s.data.toList.length = s.size := (size_list s).symm
      rw [h64] at C2
      clear h64 hr
      generalize Nm.okc b = v at *
      by_cases hlt : s.size < 64
      · rw [decide_eq_true hlt, Bool.and_true] at C2
        have hbands : (b.toNat < 48) ∨ (48 ≤ b.toNat ∧ b.toNat ≤ 57) ∨ (58 ≤ b.toNat ∧ b.toNat ≤ 64) ∨ (65 ≤ b.toNat ∧ b.toNat ≤ 90) ∨ (91 ≤ b.toNat ∧ b.toNat ≤ 94) ∨ (b.toNat = 95) ∨ (b.toNat = 96) ∨ (97 ≤ b.toNat ∧ b.toNat ≤ 122) ∨ (123 ≤ b.toNat) := by omega
        rcases hbands with hx | hx | hx | hx | hx | hx | hx | hx | hx
        · have hv : v = false := by rw [hok.out, Bool.eq_iff_iff]; simp; omega
          subst hv
          clear hok
          go_enter Tryd.func6, Tryd.ntmps6
          go_wp2_with fail
          refine (C1.out _).mono ?_
          rintro e w1 ⟨rfl, hb1⟩
          have hcv := conv_byte w1 b
          go_wp2_with fail
          refine (C2.out _).mono ?_
          rintro e w2 ⟨rfl, hb2⟩
          have hb2 := hid ((below_alloc w1 _).trans (hb2.mono (below_alloc w1 _).size))
          go_wp2_with fail
          refine (C3.out _).mono ?_
          rintro e w3 ⟨rfl, hb3⟩
          have hb3 := hid (bstep hb1 (bstep hb2.out hb3))
          go_wp2_with fail
          refine (lives_any _ (HG.out.below hb3.out)).mono ?_
          rintro e w4 ⟨rfl, hb4⟩
          go_wp2_with fail
          go_ret
          exact ⟨rfl, bstep hb3.out hb4⟩
        · have hv : v = true := by rw [hok.out, Bool.eq_iff_iff]; simp; omega
          subst hv
          clear hok
          go_enter Tryd.func6, Tryd.ntmps6
          go_wp2_with fail
          refine (C1.out _).mono ?_
          rintro e w1 ⟨rfl, hb1⟩
          have hcv := conv_byte w1 b
          go_wp2_with fail
          refine (C2.out _).mono ?_
          rintro e w2 ⟨rfl, hb2⟩
          have hb2 := hid ((below_alloc w1 _).trans (hb2.mono (below_alloc w1 _).size))
          go_wp2_with fail
          refine (C3.out _).mono ?_
          rintro e w3 ⟨rfl, hb3⟩
          have hb3 := hid (bstep hb1 (bstep hb2.out hb3))
          go_wp2_with fail
          refine (lives_any _ (HG.out.below hb3.out)).mono ?_
          rintro e w4 ⟨rfl, hb4⟩
          go_wp2_with fail
          go_ret
          exact ⟨rfl, bstep hb3.out hb4⟩
        · have hv : v = false := by rw [hok.out, Bool.eq_iff_iff]; simp; omega
          subst hv
          clear hok
          go_enter Tryd.func6, Tryd.ntmps6
          go_wp2_with fail
          refine (C1.out _).mono ?_
          rintro e w1 ⟨rfl, hb1⟩
          have hcv := conv_byte w1 b
          go_wp2_with fail
          refine (C2.out _).mono ?_
          rintro e w2 ⟨rfl, hb2⟩
          have hb2 := hid ((below_alloc w1 _).trans (hb2.mono (below_alloc w1 _).size))
          go_wp2_with fail
          refine (C3.out _).mono ?_
          rintro e w3 ⟨rfl, hb3⟩
          have hb3 := hid (bstep hb1 (bstep hb2.out hb3))
          go_wp2_with fail
          refine (lives_any _ (HG.out.below hb3.out)).mono ?_
          rintro e w4 ⟨rfl, hb4⟩
          go_wp2_with fail
          go_ret
          exact ⟨rfl, bstep hb3.out hb4⟩
        · have hv : v = true := by rw [hok.out, Bool.eq_iff_iff]; simp; omega
          subst hv
          clear hok
          go_enter Tryd.func6, Tryd.ntmps6
          go_wp2_with fail
          refine (C1.out _).mono ?_
          rintro e w1 ⟨rfl, hb1⟩
          have hcv := conv_byte w1 b
          go_wp2_with fail
          refine (C2.out _).mono ?_
          rintro e w2 ⟨rfl, hb2⟩
          have hb2 := hid ((below_alloc w1 _).trans (hb2.mono (below_alloc w1 _).size))
          go_wp2_with fail
          refine (C3.out _).mono ?_
          rintro e w3 ⟨rfl, hb3⟩
          have hb3 := hid (bstep hb1 (bstep hb2.out hb3))
          go_wp2_with fail
          refine (lives_any _ (HG.out.below hb3.out)).mono ?_
          rintro e w4 ⟨rfl, hb4⟩
          go_wp2_with fail
          go_ret
          exact ⟨rfl, bstep hb3.out hb4⟩
        · have hv : v = false := by rw [hok.out, Bool.eq_iff_iff]; simp; omega
          subst hv
          clear hok
          go_enter Tryd.func6, Tryd.ntmps6
          go_wp2_with fail
          refine (C1.out _).mono ?_
          rintro e w1 ⟨rfl, hb1⟩
          have hcv := conv_byte w1 b
          go_wp2_with fail
          refine (C2.out _).mono ?_
          rintro e w2 ⟨rfl, hb2⟩
          have hb2 := hid ((below_alloc w1 _).trans (hb2.mono (below_alloc w1 _).size))
          go_wp2_with fail
          refine (C3.out _).mono ?_
          rintro e w3 ⟨rfl, hb3⟩
          have hb3 := hid (bstep hb1 (bstep hb2.out hb3))
          go_wp2_with fail
          refine (lives_any _ (HG.out.below hb3.out)).mono ?_
          rintro e w4 ⟨rfl, hb4⟩
          go_wp2_with fail
          go_ret
          exact ⟨rfl, bstep hb3.out hb4⟩
        · have hv : v = true := by rw [hok.out, Bool.eq_iff_iff]; simp; omega
          subst hv
          clear hok
          go_enter Tryd.func6, Tryd.ntmps6
          go_wp2_with fail
          refine (C1.out _).mono ?_
          rintro e w1 ⟨rfl, hb1⟩
          have hcv := conv_byte w1 b
          rw [show (b.toNat : Int) = 95 by omega] at hcv
          go_wp2_with fail
          refine (C2.out _).mono ?_
          rintro e w2 ⟨rfl, hb2⟩
          have hb2 := hid ((below_alloc w1 _).trans (hb2.mono (below_alloc w1 _).size))
          go_wp2_with fail
          refine (C3.out _).mono ?_
          rintro e w3 ⟨rfl, hb3⟩
          have hb3 := hid (bstep hb1 (bstep hb2.out hb3))
          go_wp2_with fail
          refine (lives_any _ (HG.out.below hb3.out)).mono ?_
          rintro e w4 ⟨rfl, hb4⟩
          go_wp2_with fail
          go_ret
          exact ⟨rfl, bstep hb3.out hb4⟩
        · have hv : v = false := by rw [hok.out, Bool.eq_iff_iff]; simp; omega
          subst hv
          clear hok
          go_enter Tryd.func6, Tryd.ntmps6
          go_wp2_with fail
          refine (C1.out _).mono ?_
          rintro e w1 ⟨rfl, hb1⟩
          have hcv := conv_byte w1 b
          rw [show (b.toNat : Int) = 96 by omega] at hcv
          go_wp2_with fail
          refine (C2.out _).mono ?_
          rintro e w2 ⟨rfl, hb2⟩
          have hb2 := hid ((below_alloc w1 _).trans (hb2.mono (below_alloc w1 _).size))
          go_wp2_with fail
          refine (C3.out _).mono ?_
          rintro e w3 ⟨rfl, hb3⟩
          have hb3 := hid (bstep hb1 (bstep hb2.out hb3))
          go_wp2_with fail
          refine (lives_any _ (HG.out.below hb3.out)).mono ?_
          rintro e w4 ⟨rfl, hb4⟩
          go_wp2_with fail
          go_ret
          exact ⟨rfl, bstep hb3.out hb4⟩
        · have hv : v = true := by rw [hok.out, Bool.eq_iff_iff]; simp; omega
          subst hv
          clear hok
          go_enter Tryd.func6, Tryd.ntmps6
          go_wp2_with fail
          refine (C1.out _).mono ?_
          rintro e w1 ⟨rfl, hb1⟩
          have hcv := conv_byte w1 b
          go_wp2_with fail
          refine (C2.out _).mono ?_
          rintro e w2 ⟨rfl, hb2⟩
          have hb2 := hid ((below_alloc w1 _).trans (hb2.mono (below_alloc w1 _).size))
          go_wp2_with fail
          refine (C3.out _).mono ?_
          rintro e w3 ⟨rfl, hb3⟩
          have hb3 := hid (bstep hb1 (bstep hb2.out hb3))
          go_wp2_with fail
          refine (lives_any _ (HG.out.below hb3.out)).mono ?_
          rintro e w4 ⟨rfl, hb4⟩
          go_wp2_with fail
          go_ret
          exact ⟨rfl, bstep hb3.out hb4⟩
        · have hv : v = false := by rw [hok.out, Bool.eq_iff_iff]; simp; omega
          subst hv
          clear hok
          go_enter Tryd.func6, Tryd.ntmps6
          go_wp2_with fail
          refine (C1.out _).mono ?_
          rintro e w1 ⟨rfl, hb1⟩
          have hcv := conv_byte w1 b
          go_wp2_with fail
          refine (C2.out _).mono ?_
          rintro e w2 ⟨rfl, hb2⟩
          have hb2 := hid ((below_alloc w1 _).trans (hb2.mono (below_alloc w1 _).size))
          go_wp2_with fail
          refine (C3.out _).mono ?_
          rintro e w3 ⟨rfl, hb3⟩
          have hb3 := hid (bstep hb1 (bstep hb2.out hb3))
          go_wp2_with fail
          refine (lives_any _ (HG.out.below hb3.out)).mono ?_
          rintro e w4 ⟨rfl, hb4⟩
          go_wp2_with fail
          go_ret
          exact ⟨rfl, bstep hb3.out hb4⟩
      · rw [decide_eq_false hlt, Bool.and_false] at C2
        have hd64 : decide ((s.size : Int) < 64) = false := decide_eq_false (by omega)
        have hbands : (b.toNat < 48) ∨ (48 ≤ b.toNat ∧ b.toNat ≤ 57) ∨ (58 ≤ b.toNat ∧ b.toNat ≤ 64) ∨ (65 ≤ b.toNat ∧ b.toNat ≤ 90) ∨ (91 ≤ b.toNat ∧ b.toNat ≤ 94) ∨ (b.toNat = 95) ∨ (b.toNat = 96) ∨ (97 ≤ b.toNat ∧ b.toNat ≤ 122) ∨ (123 ≤ b.toNat) := by omega
        rcases hbands with hx | hx | hx | hx | hx | hx | hx | hx | hx
        · have hv : v = false := by rw [hok.out, Bool.eq_iff_iff]; simp; omega
          subst hv
          clear hok
          go_enter Tryd.func6, Tryd.ntmps6
          go_wp2_with fail
          refine (C1.out _).mono ?_
          rintro e w1 ⟨rfl, hb1⟩
          have hcv := conv_byte w1 b
          go_wp2_with fail
          refine (C2.out _).mono ?_
          rintro e w2 ⟨rfl, hb2⟩
          have hb2 := hid ((below_alloc w1 _).trans (hb2.mono (below_alloc w1 _).size))
          go_wp2_with fail
          refine (C3.out _).mono ?_
          rintro e w3 ⟨rfl, hb3⟩
          have hb3 := hid (bstep hb1 (bstep hb2.out hb3))
          go_wp2_with fail
          refine (lives_any _ (HG.out.below hb3.out)).mono ?_
          rintro e w4 ⟨rfl, hb4⟩
          go_wp2_with fail
          go_ret
          exact ⟨rfl, bstep hb3.out hb4⟩
        · have hv : v = true := by rw [hok.out, Bool.eq_iff_iff]; simp; omega
          subst hv
          clear hok
          go_enter Tryd.func6, Tryd.ntmps6
          go_wp2_with fail
          refine (C1.out _).mono ?_
          rintro e w1 ⟨rfl, hb1⟩
          have hcv := conv_byte w1 b
          go_wp2_with fail
          refine (C2.out _).mono ?_
          rintro e w2 ⟨rfl, hb2⟩
          have hb2 := hid ((below_alloc w1 _).trans (hb2.mono (below_alloc w1 _).size))
          go_wp2_with fail
          refine (C3.out _).mono ?_
          rintro e w3 ⟨rfl, hb3⟩
          have hb3 := hid (bstep hb1 (bstep hb2.out hb3))
          go_wp2_with fail
          refine (lives_any _ (HG.out.below hb3.out)).mono ?_
          rintro e w4 ⟨rfl, hb4⟩
          go_wp2_with fail
          go_ret
          exact ⟨rfl, bstep hb3.out hb4⟩
        · have hv : v = false := by rw [hok.out, Bool.eq_iff_iff]; simp; omega
          subst hv
          clear hok
          go_enter Tryd.func6, Tryd.ntmps6
          go_wp2_with fail
          refine (C1.out _).mono ?_
          rintro e w1 ⟨rfl, hb1⟩
          have hcv := conv_byte w1 b
          go_wp2_with fail
          refine (C2.out _).mono ?_
          rintro e w2 ⟨rfl, hb2⟩
          have hb2 := hid ((below_alloc w1 _).trans (hb2.mono (below_alloc w1 _).size))
          go_wp2_with fail
          refine (C3.out _).mono ?_
          rintro e w3 ⟨rfl, hb3⟩
          have hb3 := hid (bstep hb1 (bstep hb2.out hb3))
          go_wp2_with fail
          refine (lives_any _ (HG.out.below hb3.out)).mono ?_
          rintro e w4 ⟨rfl, hb4⟩
          go_wp2_with fail
          go_ret
          exact ⟨rfl, bstep hb3.out hb4⟩
        · have hv : v = true := by rw [hok.out, Bool.eq_iff_iff]; simp; omega
          subst hv
          clear hok
          go_enter Tryd.func6, Tryd.ntmps6
          go_wp2_with fail
          refine (C1.out _).mono ?_
          rintro e w1 ⟨rfl, hb1⟩
          have hcv := conv_byte w1 b
          go_wp2_with fail
          refine (C2.out _).mono ?_
          rintro e w2 ⟨rfl, hb2⟩
          have hb2 := hid ((below_alloc w1 _).trans (hb2.mono (below_alloc w1 _).size))
          go_wp2_with fail
          refine (C3.out _).mono ?_
          rintro e w3 ⟨rfl, hb3⟩
          have hb3 := hid (bstep hb1 (bstep hb2.out hb3))
          go_wp2_with fail
          refine (lives_any _ (HG.out.below hb3.out)).mono ?_
          rintro e w4 ⟨rfl, hb4⟩
          go_wp2_with fail
          go_ret
          exact ⟨rfl, bstep hb3.out hb4⟩
        · have hv : v = false := by rw [hok.out, Bool.eq_iff_iff]; simp; omega
          subst hv
          clear hok
          go_enter Tryd.func6, Tryd.ntmps6
          go_wp2_with fail
          refine (C1.out _).mono ?_
          rintro e w1 ⟨rfl, hb1⟩
          have hcv := conv_byte w1 b
          go_wp2_with fail
          refine (C2.out _).mono ?_
          rintro e w2 ⟨rfl, hb2⟩
          have hb2 := hid ((below_alloc w1 _).trans (hb2.mono (below_alloc w1 _).size))
          go_wp2_with fail
          refine (C3.out _).mono ?_
          rintro e w3 ⟨rfl, hb3⟩
          have hb3 := hid (bstep hb1 (bstep hb2.out hb3))
          go_wp2_with fail
          refine (lives_any _ (HG.out.below hb3.out)).mono ?_
          rintro e w4 ⟨rfl, hb4⟩
          go_wp2_with fail
          go_ret
          exact ⟨rfl, bstep hb3.out hb4⟩
        · have hv : v = true := by rw [hok.out, Bool.eq_iff_iff]; simp; omega
          subst hv
          clear hok
          go_enter Tryd.func6, Tryd.ntmps6
          go_wp2_with fail
          refine (C1.out _).mono ?_
          rintro e w1 ⟨rfl, hb1⟩
          have hcv := conv_byte w1 b
          rw [show (b.toNat : Int) = 95 by omega] at hcv
          go_wp2_with fail
          refine (C2.out _).mono ?_
          rintro e w2 ⟨rfl, hb2⟩
          have hb2 := hid ((below_alloc w1 _).trans (hb2.mono (below_alloc w1 _).size))
          go_wp2_with fail
          refine (C3.out _).mono ?_
          rintro e w3 ⟨rfl, hb3⟩
          have hb3 := hid (bstep hb1 (bstep hb2.out hb3))
          go_wp2_with fail
          refine (lives_any _ (HG.out.below hb3.out)).mono ?_
          rintro e w4 ⟨rfl, hb4⟩
          go_wp2_with fail
          go_ret
          exact ⟨rfl, bstep hb3.out hb4⟩
        · have hv : v = false := by rw [hok.out, Bool.eq_iff_iff]; simp; omega
          subst hv
          clear hok
          go_enter Tryd.func6, Tryd.ntmps6
          go_wp2_with fail
          refine (C1.out _).mono ?_
          rintro e w1 ⟨rfl, hb1⟩
          have hcv := conv_byte w1 b
          rw [show (b.toNat : Int) = 96 by omega] at hcv
          go_wp2_with fail
          refine (C2.out _).mono ?_
          rintro e w2 ⟨rfl, hb2⟩
          have hb2 := hid ((below_alloc w1 _).trans (hb2.mono (below_alloc w1 _).size))
          go_wp2_with fail
          refine (C3.out _).mono ?_
          rintro e w3 ⟨rfl, hb3⟩
          have hb3 := hid (bstep hb1 (bstep hb2.out hb3))
          go_wp2_with fail
          refine (lives_any _ (HG.out.below hb3.out)).mono ?_
          rintro e w4 ⟨rfl, hb4⟩
          go_wp2_with fail
          go_ret
          exact ⟨rfl, bstep hb3.out hb4⟩
        · have hv : v = true := by rw [hok.out, Bool.eq_iff_iff]; simp; omega
          subst hv
          clear hok
          go_enter Tryd.func6, Tryd.ntmps6
          go_wp2_with fail
          refine (C1.out _).mono ?_
          rintro e w1 ⟨rfl, hb1⟩
          have hcv := conv_byte w1 b
          go_wp2_with fail
          refine (C2.out _).mono ?_
          rintro e w2 ⟨rfl, hb2⟩
          have hb2 := hid ((below_alloc w1 _).trans (hb2.mono (below_alloc w1 _).size))
          go_wp2_with fail
          refine (C3.out _).mono ?_
          rintro e w3 ⟨rfl, hb3⟩
          have hb3 := hid (bstep hb1 (bstep hb2.out hb3))
          go_wp2_with fail
          refine (lives_any _ (HG.out.below hb3.out)).mono ?_
          rintro e w4 ⟨rfl, hb4⟩
          go_wp2_with fail
          go_ret
          exact ⟨rfl, bstep hb3.out hb4⟩
        · have hv : v = false := by rw [hok.out, Bool.eq_iff_iff]; simp; omega
          subst hv
          clear hok
          go_enter Tryd.func6, Tryd.ntmps6
          go_wp2_with fail
          refine (C1.out _).mono ?_
          rintro e w1 ⟨rfl, hb1⟩
          have hcv := conv_byte w1 b
          go_wp2_with fail
          refine (C2.out _).mono ?_
          rintro e w2 ⟨rfl, hb2⟩
          have hb2 := hid ((below_alloc w1 _).trans (hb2.mono (below_alloc w1 _).size))
          go_wp2_with fail
          refine (C3.out _).mono ?_
          rintro e w3 ⟨rfl, hb3⟩
          have hb3 := hid (bstep hb1 (bstep hb2.out hb3))
          go_wp2_with fail
          refine (lives_any _ (HG.out.below hb3.out)).mono ?_
          rintro e w4 ⟨rfl, hb4⟩
          go_wp2_with fail
          go_ret
          exact ⟨rfl, bstep hb3.out hb4⟩
    · have hr' : Nm.right s.data.toList = false := by simpa using hr
      rw [hr'] at C1
      clear hr hr'
      go_enter Tryd.func6, Tryd.ntmps6
      go_wp2_with fail
      refine (C1.out _).mono ?_
      rintro e w1 ⟨rfl, hb1⟩
      go_wp2_with fail
      refine (lives_any _ (HG.out.below hb1)).mono ?_
      rintro e w3 ⟨rfl, hb3⟩
      go_wp2_with fail
      go_ret
      exact ⟨rfl, bstep hb1 hb3⟩


theorem own : ownKnob Tryd.prog.godebug = none := by kernel_rfl
theorem laidOut : laidOutB Tryd.prog = true := by kernel_rfl

/-- What the walk gives, for every argument and every world that holds what is listed. -/
theorem contract (H : Type) (enc : TypeId × Value → H) (W : World) (base : Nat) (args : Array Value) (ds gs : List (DataW H)) (before : List MemPlace)
    (hval0 : ∀ (j : Nat) t v, Tryd.f6.params[j]? = some t → args[j]? = some v → Value.okWide Tryd.prog W .any base t v)
    (hW : DataW.Whole enc Tryd.prog Tryd.f6.params.toList Rows.nameGrowsSpec.vars false W args.toList ds gs before) (hG : Good W) :
    Calls Tryd.prog 6 args W fun e W' => ∃ v, e = .returned v ∧ Rows.nameGrowsSpec.post enc Tryd.prog Tryd.f6 false true false false W args v W' := by
  have hval := hval0
  have hW' := hW
  obtain ⟨p, q, hA0, hV, rfl, hfz, hnd⟩ := hW
  have hA : DataW.TrodAll enc Tryd.prog W 0 (fun _ => true) true Tryd.f6.params.toList args.toList ds p := hA0
  rw [Tryd.params6] at hA hval
  obtain ⟨v0, vs0, d0, ds0, p0, q0, hargs, rfl, rfl, h0, r0⟩ := trodAll_cons hA
  obtain ⟨v1, vs1, d1, ds1, p1, q1, rfl, rfl, rfl, h1, r1⟩ := trodAll_cons r0
  obtain ⟨rfl, rfl, rfl⟩ := trodAll_nil r1
  obtain rfl : args = #[v0, v1] := by cases args; simp_all
  obtain ⟨rfl, rfl⟩ := trodVars_none hV
  obtain ⟨a0, rfl, rfl, rfl, w0⟩ := open_string Tryd.underlying9 (hval 0 9 v0 rfl rfl) h0
  obtain ⟨a1, rfl, rfl, rfl, w1⟩ := open_int Tryd.underlying5 (hval 1 5 v1 rfl rfl) h1
  clear hA0 hval0
  refine (walk W hG a0 w0 a1 w1).mono fun e W' ⟨he, bel⟩ => ?_
  subst he
  exact ⟨_, rfl, _, _, _, [], _, [], hW', trodAll_mk1 (shut_bool Tryd.underlying4 _), (trodAll_cons_mk (shut_string Tryd.underlying9 w0) (trodAll_cons_mk (shut_int Tryd.underlying5 w1) trodAll_mk0)), rfl, bel.frame _, fun h => by cases h⟩

theorem reads (os : Os) {H : Type} (enc : TypeId × Value → H) : ∃ places, DataW.whole enc Tryd.prog ((World.doorLaid Tryd.prog 400 os).forCall (fun _ _ => 0) ⟨#[], #[.string ByteArray.empty, .int .u8 0], []⟩).memory Tryd.f6.params.toList Rows.nameGrowsSpec.vars false (#[.string ByteArray.empty, .int .u8 0] : Array Value).toList 8 = some ([.lit (.string []), .lit (.int .u8 0)], [], places) :=
  ⟨[], by kernel_rfl⟩

set_option maxRecDepth 100000 in
theorem lifted (os : Os) (started : os.Started) (H : Type) (enc : TypeId × Value → H) (F : Stop.Interp) :
    ReturnsInHanded {} Tryd.checked os 6 .any ((OpenSpec.ofChange Rows.nameGrowsSpec).preRow enc Tryd.prog Tryd.f6 Rows.nameGrowsRow.domain false Rows.nameGrowsRow.laid) (((OpenSpec.ofChange Rows.nameGrowsSpec).at F).post enc Tryd.prog Tryd.f6 false true false false) := by
  obtain ⟨places, hx⟩ := reads os enc
  refine returnsInHanded_of_row (C := Tryd.checked) (s := OpenSpec.ofChange Rows.nameGrowsSpec) own started (by kernel_rfl) Tryd.func6
    (witness_row_atRef (enc := enc) (C := Tryd.checked) false (World.doorLaid Tryd.prog 400 os) #[.string ByteArray.empty, .int .u8 0] rfl (by kernel_rfl) (by kernel_rfl) (by kernel_rfl)
      (OpenSpec.preRow_of_cond 8 hx (by kernel_rfl) (fun k hk => by cases hk) (by kernel_rfl) (door_met os _))) ?_
  intro W base args ds gs before hval hW _ _ _ hL _ _
  exact contract H enc W base args ds gs before hval hW (good_of hL)

theorem over : Rows.NameGrowsSaid :=
  OpenClaim.holds_of_cond 6 Tryd.f6 rfl rfl rfl rfl rfl rfl rfl ⟨rfl, rfl, rfl, rfl, rfl⟩ rfl rfl rfl rfl rfl (by kernel_rfl) Tryd.func6 (by kernel_rfl)
    (of_decide_eq_true (by kernel_rfl)) (by unfold Func.isWrapper; first | (rw [if_pos (by decide +kernel)]; kernel_rfl) | (rw [if_neg (by decide +kernel)]; exact ⟨rfl, rfl⟩))
    (fun os started H enc _ F => by rw [OpenClaim.pre_eq_preRow]; exact lifted os started H enc F)

theorem plain (f : FuncId) (fn : Func) (hf : Tryd.pinned.checked.prog.funcNamed "workflow/workflowlaw06.NameGrows" = some f) (hfn : Tryd.pinned.checked.prog.funcs[f]? = some fn) :
    true = Tryd.pinned.checked.prog.looks [] ∧ ∀ (j : Nat) t, fn.params[j]? = some t → Tryd.pinned.checked.prog.wantsStandIn t = false := by
  obtain rfl : f = 6 := Option.some.inj ((show Tryd.prog.funcNamed "workflow/workflowlaw06.NameGrows" = some 6 by kernel_rfl).symm.trans hf) |>.symm
  obtain rfl : fn = Tryd.f6 := (Option.some.inj (Tryd.func6.symm.trans hfn)).symm
  refine ⟨by kernel_rfl, fun j t ht => ?_⟩
  rw [Tryd.params6] at ht
  have hm : t ∈ [9, 5] := by simpa using Array.mem_of_getElem? ht
  have hall : ([9, 5].all fun u => !Tryd.prog.wantsStandIn u) = true := by kernel_rfl
  exact (show Tryd.prog.wantsStandIn t = false by simpa using List.all_eq_true.1 hall t hm)

/-- THE STATEMENT: THE CARD. -/
theorem proved : Rows.NameGrowsCardSaid :=
  Claim7.holds_tied_plain_at .later [] _ _ _ _ over (fun _ h => by cases h) (by kernel_rfl) (fun _ h => by cases h) nameGrows_row_tie rfl ⟨rfl, rfl⟩ (by kernel_rfl) rfl plain (by kernel_rfl)
#print axioms proved
end Go.Proofs.YtcpahiipibpphaaDoor.nameGrows
