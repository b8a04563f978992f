/-
  Copy of the reference.
-/
import Derived.Test.YtpoofeiajmkfdaaVBx3
import Derived.StillTailTactics
namespace Go.Proofs.Ytpoofeiajmkfdaa
open Go.RowKit

/-- A value that is being built at block gm: its keys and its items are rows of the call's own; the items' memory is new. -/
structure Cp (w2 : World) (gm : Nat) (k n : Int) (s : ByteArray) (kv iv : Value) (ks : List ByteArray) (l : List V) (ic : List Value) (wr : World) : Prop where
  bx : wr.heap[gm]? = some (.cells #[.int .i64 k, .int .i64 n, .string s, iv, kv] 26 (0, 0))
  ko : wr.ownsRow w2.heap.size 9 1 kv ks.length (ks.map Value.string)
  io : wr.ownsRow w2.heap.size 26 5 iv l.length ic
  vs : VsC wr (fun b => w2.heap.size ≤ b ∧ iv.ownBlock ≠ some b) l ic
  ch : Ch gm w2 wr

section
variable {w2 wr w1 w3 : World} {gm : Nat} {k n : Int} {s : ByteArray} {kv iv iv' : Value} {ks : List ByteArray} {l : List V} {ic cs : List Value} {x : V}
theorem Cp.lt (h : Cp w2 gm k n s kv iv ks l ic wr) : gm < wr.heap.size := (Array.getElem?_eq_some_iff.1 h.bx).1
theorem Cp.below (h : Cp w2 gm k n s kv iv ks l ic wr) (hb : Below wr.heap.size wr w1) : Cp w2 gm k n s kv iv ks l ic w1 :=
  ⟨(hb.block gm h.lt).trans h.bx, own_below h.ko hb, own_below h.io hb, h.vs.below hb, h.ch.trans (Ch.of_below hb)⟩
theorem Cp.cell (h : Cp w2 gm k n s kv iv ks l ic wr) : wr.cell? ⟨gm, 0, none⟩ = some (.int .i64 k) ∧ wr.cell? ⟨gm, 1, none⟩ = some (.int .i64 n) ∧ wr.cell? ⟨gm, 2, none⟩ = some (.string s) ∧ wr.cell? ⟨gm, 3, none⟩ = some iv ∧ wr.cell? ⟨gm, 4, none⟩ = some kv := by
  have := fun i => cell_of_row wr gm i _ 26 (0, 0) h.bx
  exact ⟨this 0, this 1, this 2, this 3, this 4⟩
theorem Cp.free (h : Cp w2 gm k n s kv iv ks l ic wr) (i : Nat) : wr.frozen? ⟨gm, i, none⟩ = false := freeOf h.bx i
theorem Cp.iform (h : Cp w2 gm k n s kv iv ks l ic wr) : ∃ A c, iv = .slice A l.length c := by
  obtain ⟨A, c, e, _⟩ := (RdN.of_own h.io (S := fun _ => True) (fun _ _ => trivial)).form
  exact ⟨A, c, e⟩
theorem Cp.kform (h : Cp w2 gm k n s kv iv ks l ic wr) : ∃ A c, kv = .slice A ks.length c := by
  obtain ⟨A, c, e, _⟩ := (RdN.of_own h.ko (S := fun _ => True) (fun _ _ => trivial)).form
  exact ⟨A, c, e⟩
theorem Cp.iown (h : Cp w2 gm k n s kv iv ks l ic wr) : ∀ j, iv.ownBlock = some j → w2.heap.size ≤ j ∧ j < wr.heap.size := fun j hj => World.ownsRow.lt h.io j hj

/-- Behind an append of a new item: the box still stands. -/
theorem Cp.grown (h : Cp w2 gm k n s kv iv ks l ic wr) (hw : gm < w2.heap.size) (hb : Below wr.heap.size wr w1) (hg : w1.grownBy w3 iv.ownBlock) : w3.heap[gm]? = some (.cells #[.int .i64 k, .int .i64 n, .string s, iv, kv] 26 (0, 0)) :=
  (hg.block gm (Nat.lt_of_lt_of_le h.lt hb.size) (fun e => by have := (h.iown gm e.symm).1; omega)).trans ((hb.block gm h.lt).trans h.bx)

theorem Cp.app (h : Cp w2 gm k n s kv iv ks l ic wr) (hw : gm < w2.heap.size) (hb : Below wr.heap.size wr w1) (hx : VC w1 (fun b => wr.heap.size ≤ b) x cs)
    (ho : w3.ownsRow w2.heap.size 26 5 iv' (l.length + 1) (ic ++ cs)) (hg : w1.grownBy w3 iv.ownBlock) (hob : iv'.ownBlock = iv.ownBlock ∨ iv'.ownBlock = some w1.heap.size) :
    Cp w2 gm k n s kv iv' ks (l ++ [x]) (ic ++ cs) (w3.setCell ⟨gm, 3, none⟩ iv') := by
  have h1 := h.below hb
  have hio := h.iown
  have hsz := hb.size
  refine ⟨?_, own_setCell (World.ownsRow.kept h1.ko hg (own_ne h1.io h1.ko (by decide))) (p := ⟨gm, 3, none⟩) hw _, ?_, ?_, ?_⟩
  · have := heap_setCell_same w3 gm 3 _ 26 iv' (h.grown hw hb hg)
    simpa using this
  · have := own_setCell ho (p := ⟨gm, 3, none⟩) hw iv'
    simpa using this
  · have old : VsC w3 (fun b => w2.heap.size ≤ b ∧ iv'.ownBlock ≠ some b) l ic := by
      refine h1.vs.keep (fun b hS hlt => ⟨hS.1, fun e => ?_⟩) (fun p u hp hc => World.grownBy.cell hg hc (fun e => hp.2 e.symm))
      rcases hob with e' | e'
      · exact hS.2 (e' ▸ e)
      · rw [e'] at e; injection e with e; omega
    have new : VC w3 (fun b => w2.heap.size ≤ b ∧ iv'.ownBlock ≠ some b) x cs := by
      have g1 : ∀ b, wr.heap.size ≤ b → b < w1.heap.size → w2.heap.size ≤ b ∧ iv'.ownBlock ≠ some b := fun b hS hlt => by
        refine ⟨by have := h.ch.size; omega, fun e => ?_⟩
        rcases hob with e' | e'
        · have := (hio b (e' ▸ e)).2; omega
        · rw [e'] at e; injection e with e; omega
      have g2 : ∀ (p : Addr) u, wr.heap.size ≤ p.block → w1.cell? p = some u → w3.cell? p = some u := fun p u hp hc =>
        World.grownBy.cell hg hc (fun e => by have := (hio p.block e.symm).2; omega)
      exact VC.keep g1 g2 _ _ hx
    exact VsC_setCell (VsC.app old (VsC.one new)) _ _ (fun b hb' e => by have := hb'.1; simp at e; omega)
  · exact ch_set (ch_grown h1.ch hg (fun j hj => (hio j hj).1)) 3 iv'
end

end Go.Proofs.Ytpoofeiajmkfdaa
