/-
  The reference's eight bytes of a number, and its Mix, by contract.
-/
import Derived.Test.YtamdcbleefdphaaHMix
import Derived.Test.YtamdcbleefdphaaConv
namespace Go.Proofs.Ytamdcbleefdphaa
open Go.RowKit

/-- A slice of the call's own can be written. -/
theorem own_put {w : World} {base g n c : Nat} {xs : List Value} (h : Own w base 5 (.slice (some ⟨g, 0, none⟩) n c) xs) (hn : xs.length = n) (k : Nat) (hk : k < n) :
    base ≤ g ∧ (∃ u, w.cell? ⟨g, k, none⟩ = some u) ∧ w.frozen? ⟨g, k, none⟩ = false ∧
      ∀ x, Own (w.setCell ⟨g, k, none⟩ x) base 5 (.slice (some ⟨g, 0, none⟩) n c) (xs.set k x) ∧ w.grownBy (w.setCell ⟨g, k, none⟩ x) (some g) := by
  subst hn
  have hown : w.ownsRow base 5 1 (.slice (some ⟨g, 0, none⟩) xs.length c) xs.length xs := h
  have hb : base ≤ g := (World.ownsRow.lt hown g rfl).1
  refine ⟨hb, ⟨xs[k], ?_⟩, hown.frozenAt k, fun x => ?_⟩
  · rw [hown.cellAt k (by omega), List.getElem?_eq_getElem hk]
  · have := hown.stored k x
    refine ⟨?_, this.2⟩
    unfold Own
    rw [List.length_set]
    exact this.1

/-- The row when j of its bytes are written, the last ones first. -/
def row8 (l : List UInt8) (j : Nat) : List UInt8 := List.replicate (8 - j) 0 ++ l.drop (8 - j)
theorem row8_len (l : List UInt8) (j : Nat) (hl : l.length = 8) (_hj : j ≤ 8) : (row8 l j).length = 8 := by simp [row8, hl]
theorem row8_set (l : List UInt8) (j : Nat) (hl : l.length = 8) (hj : j < 8) : (row8 l j).set (7 - j) (l.getD (7 - j) 0) = row8 l (j + 1) := by
  obtain ⟨a, b, c, d, e, f, g, h, rfl⟩ : ∃ a b c d e f g h, l = [a, b, c, d, e, f, g, h] := by
    match l, hl with
    | [a, b, c, d, e, f, g, h], _ => exact ⟨a, b, c, d, e, f, g, h, rfl⟩
  have : j = 0 ∨ j = 1 ∨ j = 2 ∨ j = 3 ∨ j = 4 ∨ j = 5 ∨ j = 6 ∨ j = 7 := by omega
  rcases this with rfl | rfl | rfl | rfl | rfl | rfl | rfl | rfl <;> rfl
theorem row8_all (l : List UInt8) : row8 l 8 = l := rfl
theorem row8_none (l : List UInt8) (h : l.length = 8) : row8 l 0 = [0, 0, 0, 0, 0, 0, 0, 0] := by
  unfold row8
  rw [List.drop_of_length_le (by omega)]
  rfl
theorem be8_at (u k : Nat) (hk : k < 8) : (Hs.be8 u).getD k 0 = UInt8.ofNat (Hs.byteAt u k) := by
  unfold Hs.be8
  simp [hk]

def EightRel (w : World) (u : Nat) (vb vu vi : Value) (wr : World) : Prop :=
  ∃ j : Nat, j ≤ 8 ∧ vi = .int .i64 (7 - (j : Int)) ∧ vu = .int .u64 ((u / 256 ^ j : Nat) : Int) ∧ OwnB wr w.heap.size vb (row8 (Hs.be8 u) j) ∧ Below w.heap.size w wr

theorem quo8 (u j : Nat) : ((u / 256 ^ j : Nat) : Int) / 256 = ((u / 256 ^ (j + 1) : Nat) : Int) := by
  rw [Nat.pow_succ, ← Nat.div_div_eq_div_mul]
  omega
theorem rem8 (u j : Nat) (hj : j < 8) : ((u / 256 ^ j : Nat) : Int) % 256 = (Hs.byteAt u (7 - j) : Int) := by
  unfold Hs.byteAt
  rw [show 7 - (7 - j) = j by omega]
  omega

end Go.Proofs.Ytamdcbleefdphaa
