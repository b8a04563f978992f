/-
  Three boxed structs.
-/
import Derived.Test.YtpoofeiajmkfdaaVLaw
namespace Go.Proofs.Ytpoofeiajmkfdaa
open Go.RowKit

def Bx3 (w : World) (cs ds es : Array Value) (wr : World) : Prop := Bx2 (w.alloc (.cells cs 26)) ds es wr
section
variable {w wr w1 : World} {cs ds es : Array Value}
theorem Bx3.refl : Bx3 w cs ds es (((w.alloc (.cells cs 26)).alloc (.cells ds 26)).alloc (.cells es 26)) := Bx2.refl
theorem Bx3.step (h : Bx3 w cs ds es wr) (hb : Below wr.heap.size wr w1) : Bx3 w cs ds es w1 := Bx2.step h hb
theorem Bx3.below (h : Bx3 w cs ds es wr) : Below w.heap.size w wr := bstep (below_box _) (Bx2.below h)
theorem Bx3.one (h : Bx3 w cs ds es wr) : Bx w cs wr := by
  have := Bx2.below h
  unfold Bx
  have e : (w.alloc (.cells cs 26)).heap.size = w.heap.size + 1 := by simp
  rw [← e]; exact this
theorem Bx3.size (h : Bx3 w cs ds es wr) : w.heap.size + 3 ≤ wr.heap.size := by have := Bx2.size h; simp at this; omega
theorem Bx3.cells {a0 a1 a2 a3 a4 b0 b1 b2 b3 b4 c0 c1 c2 c3 c4 : Value} (h : Bx3 w #[a0, a1, a2, a3, a4] #[b0, b1, b2, b3, b4] #[c0, c1, c2, c3, c4] wr) :
    (wr.cell? ⟨w.heap.size, 0, none⟩ = some a0 ∧ wr.cell? ⟨w.heap.size, 1, none⟩ = some a1 ∧ wr.cell? ⟨w.heap.size, 2, none⟩ = some a2 ∧ wr.cell? ⟨w.heap.size, 3, none⟩ = some a3 ∧ wr.cell? ⟨w.heap.size, 4, none⟩ = some a4) ∧
    (wr.cell? ⟨w.heap.size + 1, 0, none⟩ = some b0 ∧ wr.cell? ⟨w.heap.size + 1, 1, none⟩ = some b1 ∧ wr.cell? ⟨w.heap.size + 1, 2, none⟩ = some b2 ∧ wr.cell? ⟨w.heap.size + 1, 3, none⟩ = some b3 ∧ wr.cell? ⟨w.heap.size + 1, 4, none⟩ = some b4) ∧
    (wr.cell? ⟨w.heap.size + 1 + 1, 0, none⟩ = some c0 ∧ wr.cell? ⟨w.heap.size + 1 + 1, 1, none⟩ = some c1 ∧ wr.cell? ⟨w.heap.size + 1 + 1, 2, none⟩ = some c2 ∧ wr.cell? ⟨w.heap.size + 1 + 1, 3, none⟩ = some c3 ∧ wr.cell? ⟨w.heap.size + 1 + 1, 4, none⟩ = some c4) := by
  have h2 := Bx2.cells h
  have e : (w.alloc (.cells #[a0, a1, a2, a3, a4] 26)).heap.size = w.heap.size + 1 := by simp
  rw [e] at h2
  exact ⟨h.one.cells, h2⟩
end

theorem three_vals {w : World} {S : Nat → Prop} {a b c : V} {x y z : List Value} (ha : VC w S a x) (hb : VC w S b y) (hc : VC w S c z) : VsC w S [a, b, c] (x ++ (y ++ z)) := by
  rw [VsC_cons]
  exact ⟨x, y ++ z, rfl, ha, two_vals hb hc⟩

theorem VA.vc {w : World} {S : Nat → Prop} {v : V} {c0 c1 c2 c3 c4 : Value} (h : VA w S (.agg #[c0, c1, c2, c3, c4]) v) : VC w S v [c0, c1, c2, c3, c4] := by
  obtain ⟨cs, e, hc⟩ := h
  injection e with e
  have : cs = [c0, c1, c2, c3, c4] := by
    have := congrArg Array.toList e
    simpa using this.symm
  rw [← this]; exact hc

theorem few300 {v : V} {a : Value} {w : World} {S : Nat → Prop} (h : VA w S a v) : Calls Try.prog 11 #[a, .int .i64 300] w fun e w' => e = .returned (.bool (decide (V.size v ≤ 300))) ∧ Below w.heap.size w w' :=
  Few_any v a 300 w S (by omega) h

theorem same_ord {a b : V} (ha : V.wf a = true) (hb : V.wf b = true) : V.same a b = decide (ord a b = 0) := by
  unfold ord
  rw [if_pos ⟨ha, hb⟩]
  cases h : V.same a b
  · have : V.cmp a b ≠ 0 := fun e => by rw [(V.cmp_zero a b ha hb).1 e, V.same_self] at h; cases h
    simp [this]
  · have := (V.cmp_zero a b ha hb).2 ((V.same_iff a b).1 h)
    simp [this]
theorem ord_anti {a b : V} (ha : V.wf a = true) (hb : V.wf b = true) : ord b a = - ord a b := by
  unfold ord
  rw [if_pos ⟨hb, ha⟩, if_pos ⟨ha, hb⟩]
  exact V.cmp_anti a b ha hb
theorem ord_trans {a b c : V} (ha : V.wf a = true) (hb : V.wf b = true) (hc : V.wf c = true) (h1 : ord a b ≤ 0) (h2 : ord b c ≤ 0) : ord a c ≤ 0 := by
  unfold ord at *
  rw [if_pos ⟨ha, hb⟩] at h1
  rw [if_pos ⟨hb, hc⟩] at h2
  rw [if_pos ⟨ha, hc⟩]
  exact V.cmp_trans a b c ha hb hc h1 h2
theorem ord_range (a b : V) : ord a b = -1 ∨ ord a b = 0 ∨ ord a b = 1 := by
  unfold ord
  split
  · exact V.cmp_range a b
  · exact .inr (.inl rfl)
end Go.Proofs.Ytpoofeiajmkfdaa
