/-
  The function 'works' of layer 5's statements: the chapter's examples; it returns true, and leaves what was there.
-/
import Derived.Test.YtamdcbleefdphaaDraw
import Derived.Lib.SlBytesConst
namespace Go.Proofs.Ytamdcbleefdphaa
open Go.RowKit

/-- '[]byte("..")' of a constant: the row bears a mark behind its last cell. -/
theorem lit8m (w : World) (l : List UInt8) (fr : Nat × Nat) (h : l.length ≤ maxLen) : Bs (w.alloc (.cells (l.map by8).toArray 5 fr)) (.slice (some ⟨w.heap.size, 0, none⟩) l.length l.length) l := by
  refine ⟨some ⟨w.heap.size, 0, none⟩, l.length, by simp, by simp, h, .inr ⟨_, rfl, fun j u hj => ?_⟩⟩
  rw [show (⟨w.heap.size, 0, none⟩ : Addr).add j = ⟨w.heap.size, j, none⟩ by simp [Addr.add]; omega, World.cell?_alloc_mark]
  simpa using hj
theorem lit_1 (w : World) : Bs (w.alloc (.cells #[.int .u8 47] 5 (1, 2))) (.slice (some ⟨w.heap.size, 0, none⟩) 1 1) [47] := lit8m w [47] (1, 2) (by simp [maxLen])
theorem below_alloc (w : World) (o : Obj) : Below w.heap.size w (w.alloc o) := (Below.refl _ _).alloc (Nat.le_refl _) o
theorem joined_0 : (joined ⟨#[]⟩ ⟨#[]⟩).data.toList = [47] := rfl
theorem below_1 (x : Nat) : Hs.below x 1 = 0 := by unfold Hs.below; rw [if_neg (by omega)]; omega
theorem jit_50 (x : Nat) : Hs.jit x 50 0 = 50 := by
  rw [Hs.jit_in x 50 0 (by omega) (by omega) (by omega) (by omega), show (2 : Int) * 0 + 1 = 1 from rfl, below_1]
  rfl
theorem jit_m5 (x : Nat) : Hs.jit x (-5) 10 = -5 := Hs.jit_out x (-5) 10 (by omega)

set_option maxRecDepth 100000 in
set_option maxHeartbeats 400000 in
theorem works_any (w : World) : Calls Try.prog 11 #[] w fun e w' => e = .returned (.bool true) ∧ Below w.heap.size w w' := by
  have C1 := hid (fun W => below_any 3 4 1 W (by omega) (by omega) (by omega) (by omega) (by omega) (by omega))
  rw [below_1] at C1
  have C2 := hid (fun W => jitter_any 1 2 50 0 W (by omega) (by omega) (by omega) (by omega) (by omega) (by omega) (by omega) (by omega))
  rw [jit_50] at C2
  have C3 := hid (fun W => jitter_any 1 2 (-5) 10 W (by omega) (by omega) (by omega) (by omega) (by omega) (by omega) (by omega) (by omega))
  rw [jit_m5] at C3
  have C4 := hid (fun W => seed_any ⟨#[]⟩ ⟨#[]⟩ W (by decide +kernel) (by decide +kernel))
  rw [joined_0] at C4
  have C5 := hid (fun v W h => rfnv5_any v [47] W h)
  have C6 := hid (fun W => draw_any 1 2 W (by omega) (by omega) (by omega) (by omega))
  have C7 := hid (fun W => rdraw_any 1 2 W (by omega) (by omega) (by omega) (by omega))
  generalize Hs.mix (U 1) (U 2) = m at *
  generalize Hs.fnv [47] = f at *
  have kc := fun (w : World) (C : Array Value) (n c : Nat) => Lib.run_convert_bytes_const (P := Try.prog) w 32 5 C n c Try.underlying32 Try.underlying5
  go_enter Try.func11, Try.ntmps11
  go_wp2_with fail
  refine (C1.out _).mono ?_
  rintro e w' ⟨rfl, rfl⟩
  go_wp2_with fail
  refine (C2.out _).mono ?_
  rintro e w' ⟨rfl, rfl⟩
  go_wp2_with fail
  refine (C3.out _).mono ?_
  rintro e w' ⟨rfl, rfl⟩
  go_wp2_with fail
  refine (C4.out _).mono ?_
  rintro e w' ⟨rfl, rfl⟩
  go_wp2_with fail
  refine (C5.out _ _ (lit_1 _)).mono ?_
  rintro e w' ⟨rfl, rfl⟩
  go_wp2_with fail
  refine (C6.out _).mono ?_
  rintro e w' ⟨rfl, rfl⟩
  go_wp2_with fail
  refine (C7.out _).mono ?_
  rintro e w' ⟨rfl, hb⟩
  go_wp2_with fail
  go_ret
  exact ⟨rfl, bstep (below_alloc _ _) hb⟩
end Go.Proofs.Ytamdcbleefdphaa
