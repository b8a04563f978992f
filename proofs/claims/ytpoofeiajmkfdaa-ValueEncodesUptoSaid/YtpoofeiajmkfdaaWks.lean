/-
  The function 'works' of the statements: the chapter's examples; it returns true, and leaves what was there.
-/
import Derived.Test.YtpoofeiajmkfdaaRd4
namespace Go.Proofs.Ytpoofeiajmkfdaa
open Go.RowKit

theorem below_draws {B : Nat} {w : World} (n : Nat) : Below B w (w.drewN n) := ⟨rfl, rfl, rfl, Nat.le_refl _, fun _ _ => rfl⟩

theorem ex_text : rText [4, 97] 0 9 = ([], 4, []) := by decide +kernel
theorem ex_int : rInt [128, 0] 0 (-9223372036854775808) 9223372036854775807 = ([], 3, 0) := by decide +kernel
theorem ex_enc : [7] ++ Wi.enc (-65) = [7, 129, 1] := by
  unfold Wi.enc
  rw [show Wi.zig (-65) = 129 from rfl, Wi.digs_big (by omega), Wi.digs_small (by omega)]
  rfl
theorem ex_str : [] ++ encText [97, 98] = [4, 97, 98] := by
  unfold encText Wi.enc
  rw [show Wi.zig (([97, 98] : List UInt8).length : Int) = 4 from rfl, Wi.digs_small (by omega)]
  rfl

theorem lit8s (w : World) (l : List UInt8) (h : l.length ≤ maxLen) : Bs (w.alloc (.cells (l.map by8).toArray 5)) (.slice (some ⟨w.heap.size, 0, none⟩) l.length l.length) l := by
  have := lit_rd w (l.map by8) (by simpa using h)
  simpa [Bs] using this
theorem lit_4_97 (w : World) : Bs (w.alloc (.cells #[.int .u8 4, .int .u8 97] 5)) (.slice (some ⟨w.heap.size, 0, none⟩) 2 2) [4, 97] := lit8s w [4, 97] (by simp [maxLen])
theorem lit_128_0 (w : World) : Bs (w.alloc (.cells #[.int .u8 128, .int .u8 0] 5)) (.slice (some ⟨w.heap.size, 0, none⟩) 2 2) [128, 0] := lit8s w [128, 0] (by simp [maxLen])
theorem lit_7 (w : World) : Bs (w.alloc (.cells #[.int .u8 7] 5)) (.slice (some ⟨w.heap.size, 0, none⟩) 1 1) [7] := lit8s w [7] (by simp [maxLen])
theorem lit_7_129_1 (w : World) : Bs (w.alloc (.cells #[.int .u8 7, .int .u8 129, .int .u8 1] 5)) (.slice (some ⟨w.heap.size, 0, none⟩) 3 3) [7, 129, 1] := lit8s w [7, 129, 1] (by simp [maxLen])
theorem lit_4_97_98 (w : World) : Bs (w.alloc (.cells #[.int .u8 4, .int .u8 97, .int .u8 98] 5)) (.slice (some ⟨w.heap.size, 0, none⟩) 3 3) [4, 97, 98] := lit8s w [4, 97, 98] (by simp [maxLen])

theorem below_alloc (w : World) (o : Obj) : Below w.heap.size w (w.alloc o) := (Below.refl _ _).alloc (Nat.le_refl _) o

theorem IntPost.at {g : Nat} {l : List UInt8} {e lo hi : Int} {w : World} {en : Ending} {w' : World} (h : IntPost g l e lo hi w en w') {l1 : List UInt8} {e1 n : Int} (hp : rInt l e lo hi = (l1, e1, n)) :
    en = .returned (.int .i64 n) ∧ WR w' g l1 e1 ∧ Ch g w w' := by
  unfold IntPost at h
  rwa [hp] at h
theorem TextPost.at {g : Nat} {l : List UInt8} {e most : Int} {w : World} {en : Ending} {w' : World} (h : TextPost g l e most w en w') {l1 : List UInt8} {e1 : Int} {s : List UInt8} (hp : rText l e most = (l1, e1, s)) :
    en = .returned (strOf s) ∧ WR w' g l1 e1 ∧ Ch g w w' := by
  unfold TextPost at h
  rwa [hp] at h

end Go.Proofs.Ytpoofeiajmkfdaa
