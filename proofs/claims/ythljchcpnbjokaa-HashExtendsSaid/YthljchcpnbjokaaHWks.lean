/-
  The function 'works' of layer 4's statements: the chapter's examples; it returns true, and leaves what was there.
-/
import Derived.Test.YthljchcpnbjokaaHEight
import Derived.Test.YthljchcpnbjokaaHCrc
import Derived.Lib.SlBytesConst
namespace Go.Proofs.Ythljchcpnbjokaa
open Go.RowKit

theorem fnv_0 : Hs.fnv [] = 2166136261 := rfl
theorem fnv_a : Hs.fnv [97] = 3826002220 := by decide +kernel
theorem crc_0 : Hs.crc [] = 0 := by decide +kernel
theorem crc_9 : Hs.crc [49, 50, 51, 52, 53, 54, 55, 56, 57] = 3421780262 := by decide +kernel
theorem lit8s (w : World) (l : List UInt8) (h : l.length ≤ maxLen) : Bs (w.alloc (.cells (l.map by8).toArray 5)) (.slice (some ⟨w.heap.size, 0, none⟩) l.length l.length) l := by
  have := lit_rd w (l.map by8) (by simpa using h)
  simpa [Bs] using this
/-- '[]byte("..")' of a constant: the row bears a mark behind its last cell. -/
theorem lit8m (w : World) (l : List UInt8) (fr : Nat × Nat) (h : l.length ≤ maxLen) : Bs (w.alloc (.cells (l.map by8).toArray 5 fr)) (.slice (some ⟨w.heap.size, 0, none⟩) l.length l.length) l := by
  refine ⟨some ⟨w.heap.size, 0, none⟩, l.length, by simp, by simp, h, .inr ⟨_, rfl, fun j u hj => ?_⟩⟩
  rw [show (⟨w.heap.size, 0, none⟩ : Addr).add j = ⟨w.heap.size, j, none⟩ by simp [Addr.add]; omega, World.cell?_alloc_mark]
  simpa using hj
theorem lit_9 (w : World) : Bs (w.alloc (.cells #[.int .u8 49, .int .u8 50, .int .u8 51, .int .u8 52, .int .u8 53, .int .u8 54, .int .u8 55, .int .u8 56, .int .u8 57] 5 (9, 10))) (.slice (some ⟨w.heap.size, 0, none⟩) 9 9) [49, 50, 51, 52, 53, 54, 55, 56, 57] := lit8m w [49, 50, 51, 52, 53, 54, 55, 56, 57] (9, 10) (by simp [maxLen])
theorem below_alloc (w : World) (o : Obj) : Below w.heap.size w (w.alloc o) := (Below.refl _ _).alloc (Nat.le_refl _) o

set_option maxRecDepth 100000 in
set_option maxHeartbeats 400000 in
theorem works_any (w : World) : Calls Try.prog 9 #[] w fun e w' => e = .returned (.bool true) ∧ Below w.heap.size w w' := by
  have C1 : Hid (∀ W, Calls Try.prog 10 #[.string ⟨#[]⟩] W fun e w' => e = .returned (.int .i64 2166136261) ∧ W = w') := fun W => fnv_any ⟨#[]⟩ W (by decide +kernel)
  have C2 : Hid (∀ W, Calls Try.prog 10 #[.string ⟨#[97]⟩] W fun e w' => e = .returned (.int .i64 3826002220) ∧ W = w') := fun W => by
    have := fnv_any ⟨#[97]⟩ W (by decide +kernel)
    rw [show (⟨#[97]⟩ : ByteArray).data.toList = [97] from rfl, fnv_a] at this
    exact this
  have C3 : Hid (∀ W, Calls Try.prog 12 #[.slice none 0 0] W fun e w' => e = .returned (.int .i64 0) ∧ W = w') := fun W => by
    have := crc_any _ [] W (Bs.nil W)
    rw [crc_0] at this
    exact this
  have C4 : Hid (∀ W v, Bs W v [49, 50, 51, 52, 53, 54, 55, 56, 57] → Calls Try.prog 12 #[v] W fun e w' => e = .returned (.int .i64 3421780262) ∧ W = w') := fun W v h => by
    have := crc_any v _ W h
    rw [crc_9] at this
    exact this
  have C5 : Hid (∀ W, Calls Try.prog 16 #[.string ⟨#[97]⟩, .int .i64 0] W fun e w' => e = .returned (.int .i64 0) ∧ W = w') := fun W => bucket_any ⟨#[97]⟩ 0 W (by decide +kernel) (by omega) (by omega)
  have kc := fun (w : World) (C : Array Value) (n c : Nat) => Lib.run_convert_bytes_const (P := Try.prog) w 25 5 C n c Try.underlying25 Try.underlying5
  go_enter Try.func9, Try.ntmps9
  go_wp2_with fail
  refine (C1.out _).mono ?_
  rintro e w' ⟨rfl, rfl⟩
  go_wp2_with fail
  refine (C2.out _).mono ?_
  rintro e w' ⟨rfl, rfl⟩
  go_wp2_with fail
  refine (C3.out _).mono ?_
  rintro e w' ⟨rfl, rfl⟩
  go_wp2_with fail
  refine (C4.out _ _ (lit_9 _)).mono ?_
  rintro e w' ⟨rfl, rfl⟩
  go_wp2_with fail
  refine (C5.out _).mono ?_
  rintro e w' ⟨rfl, rfl⟩
  go_wp2_with fail
  go_ret
  exact ⟨rfl, below_alloc _ _⟩
end Go.Proofs.Ythljchcpnbjokaa
