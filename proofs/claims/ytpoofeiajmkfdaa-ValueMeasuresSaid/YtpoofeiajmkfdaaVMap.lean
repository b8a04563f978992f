/-
  Map of the program: words for the map that is built, and the contract.
-/
import Derived.Test.YtpoofeiajmkfdaaVPairs2
namespace Go.Proofs.Ytpoofeiajmkfdaa
open Go.RowKit

/-- A map that is being built at block gm: its keys and its items are rows of the call's own. -/
def Mp (w2 : World) (gm : Nat) (kv iv : Value) (nk ni : Nat) (kc ic : List Value) (wr : World) : Prop :=
  wr.heap[gm]? = some (.cells #[.int .i64 5, .int .i64 0, .string ⟨#[]⟩, iv, kv] 26 (0, 0)) ∧ wr.ownsRow w2.heap.size 9 1 kv nk kc ∧ wr.ownsRow w2.heap.size 26 5 iv ni ic ∧ Ch gm w2 wr

theorem own_below {w w' : World} {base : Nat} {e : TypeId} {size n : Nat} {v : Value} {xs : List Value} (h : w.ownsRow base e size v n xs) (hb : Below w.heap.size w w') : w'.ownsRow base e size v n xs := by
  rcases h.2 with ⟨rfl, h0⟩ | ⟨g', cap, cur, hv, hbg, hg, hrest⟩
  · exact ⟨h.1, .inl ⟨rfl, h0⟩⟩
  · exact ⟨h.1, .inr ⟨g', cap, cur, hv, hbg, (hb.block g' (Array.getElem?_eq_some_iff.1 hg).1).trans hg, hrest⟩⟩
theorem own_ne {w : World} {b b' : Nat} {e e' : TypeId} {s s' n n' : Nat} {v v' : Value} {xs xs' : List Value} (h : w.ownsRow b e s v n xs) (h' : w.ownsRow b' e' s' v' n' xs') (hne : e ≠ e') : v'.ownBlock = none ∨ v'.ownBlock ≠ v.ownBlock := by
  rcases h'.2 with ⟨rfl, _⟩ | ⟨g', cap', cur', rfl, _, hg', _⟩
  · exact .inl rfl
  · refine .inr fun he => ?_
    rcases h.2 with ⟨rfl, _⟩ | ⟨g, cap, cur, rfl, _, hg, _⟩
    · simp [Value.ownBlock] at he
    · simp [Value.ownBlock] at he
      subst he
      rw [hg] at hg'
      injection hg' with hg'
      injection hg' with _ ht
      exact hne ht
theorem own_setCell {w : World} {base : Nat} {e : TypeId} {size n : Nat} {v : Value} {xs : List Value} (h : w.ownsRow base e size v n xs) {p : Addr} (hp : p.block < base) (u : Value) : (w.setCell p u).ownsRow base e size v n xs :=
  ownsRow_setCell_below h hp u

section
variable {w2 wr w1 : World} {gm nk ni : Nat} {kv iv : Value} {kc ic : List Value}
theorem Mp.lt (h : Mp w2 gm kv iv nk ni kc ic wr) : gm < wr.heap.size := (Array.getElem?_eq_some_iff.1 h.1).1
theorem Mp.below (h : Mp w2 gm kv iv nk ni kc ic wr) (hb : Below wr.heap.size wr w1) : Mp w2 gm kv iv nk ni kc ic w1 :=
  ⟨(hb.block gm h.lt).trans h.1, own_below h.2.1 hb, own_below h.2.2.1 hb, h.2.2.2.trans (Ch.of_below hb)⟩
theorem Mp.cell (h : Mp w2 gm kv iv nk ni kc ic wr) : wr.cell? ⟨gm, 0, none⟩ = some (.int .i64 5) ∧ wr.cell? ⟨gm, 1, none⟩ = some (.int .i64 0) ∧ wr.cell? ⟨gm, 2, none⟩ = some (.string ⟨#[]⟩) ∧ wr.cell? ⟨gm, 3, none⟩ = some iv ∧ wr.cell? ⟨gm, 4, none⟩ = some kv := by
  have := fun i => cell_of_row wr gm i _ 26 (0, 0) h.1
  exact ⟨this 0, this 1, this 2, this 3, this 4⟩
theorem Mp.free (h : Mp w2 gm kv iv nk ni kc ic wr) (i : Nat) : wr.frozen? ⟨gm, i, none⟩ = false := freeOf h.1 i
theorem Mp.kform (h : Mp w2 gm kv iv nk ni kc ic wr) : ∃ A c, kv = .slice A nk c := by
  obtain ⟨A, c, e, _⟩ := (RdN.of_own h.2.1 (S := fun _ => True) (fun _ _ => trivial)).form
  exact ⟨A, c, e⟩
theorem Mp.iform (h : Mp w2 gm kv iv nk ni kc ic wr) : ∃ A c, iv = .slice A ni c := by
  obtain ⟨A, c, e, _⟩ := (RdN.of_own h.2.2.1 (S := fun _ => True) (fun _ _ => trivial)).form
  exact ⟨A, c, e⟩

/-- What an append to a row of the call's own leaves of the first world. -/
theorem ch_grown {row : Option Nat} (h : Ch gm w2 wr) (hg : wr.grownBy w1 row) (hr : ∀ k, row = some k → w2.heap.size ≤ k) : Ch gm w2 w1 := by
  refine ⟨hg.os.trans h.os, hg.tape.trans h.tape, hg.output.trans h.output, Nat.le_trans h.size hg.size, fun k hk hne => ?_⟩
  exact (hg.block k (Nat.lt_of_lt_of_le hk h.size) (fun e => by have := hr k e.symm; omega)).trans (h.block k hk hne)
theorem ch_set (h : Ch gm w2 wr) (i : Nat) (u : Value) : Ch gm w2 (wr.setCell ⟨gm, i, none⟩ u) := h.trans (Ch.set wr gm i u)

/-- Behind an append to the keys: all but the keys' own row stands. -/
theorem Mp.grownK (h : Mp w2 gm kv iv nk ni kc ic wr) (hg : wr.grownBy w1 kv.ownBlock) (hw : gm < w2.heap.size) : w1.heap[gm]? = some (.cells #[.int .i64 5, .int .i64 0, .string ⟨#[]⟩, iv, kv] 26 (0, 0)) ∧ w1.ownsRow w2.heap.size 26 5 iv ni ic ∧ Ch gm w2 w1 := by
  have hk : ∀ k, kv.ownBlock = some k → w2.heap.size ≤ k := fun k hk => (World.ownsRow.lt h.2.1 k hk).1
  exact ⟨(hg.block gm h.lt (fun e => by have := hk gm e.symm; omega)).trans h.1, World.ownsRow.kept h.2.2.1 hg (own_ne h.2.1 h.2.2.1 (by decide)), ch_grown h.2.2.2 hg hk⟩
theorem Mp.grownI (h : Mp w2 gm kv iv nk ni kc ic wr) (hg : wr.grownBy w1 iv.ownBlock) (hw : gm < w2.heap.size) : w1.heap[gm]? = some (.cells #[.int .i64 5, .int .i64 0, .string ⟨#[]⟩, iv, kv] 26 (0, 0)) ∧ w1.ownsRow w2.heap.size 9 1 kv nk kc ∧ Ch gm w2 w1 := by
  have hk : ∀ k, iv.ownBlock = some k → w2.heap.size ≤ k := fun k hk => (World.ownsRow.lt h.2.2.1 k hk).1
  exact ⟨(hg.block gm h.lt (fun e => by have := hk gm e.symm; omega)).trans h.1, World.ownsRow.kept h.2.1 hg (own_ne h.2.2.1 h.2.1 (by decide)), ch_grown h.2.2.2 hg hk⟩

/-- Once the new keys are stored. -/
theorem Mp.storeK {kv' : Value} {nk' : Nat} {kc' : List Value} (h : Mp w2 gm kv iv nk ni kc ic wr) (hg : wr.grownBy w1 kv.ownBlock) (hw : gm < w2.heap.size) (ho : w1.ownsRow w2.heap.size 9 1 kv' nk' kc') : Mp w2 gm kv' iv nk' ni kc' ic (w1.setCell ⟨gm, 4, none⟩ kv') := by
  obtain ⟨h1, h2, h3⟩ := h.grownK hg hw
  refine ⟨?_, own_setCell ho (p := ⟨gm, 4, none⟩) hw _, own_setCell h2 (p := ⟨gm, 4, none⟩) hw _, ch_set h3 4 kv'⟩
  have := heap_setCell_same w1 gm 4 _ 26 kv' h1
  simpa using this
theorem Mp.storeI {iv' : Value} {ni' : Nat} {ic' : List Value} (h : Mp w2 gm kv iv nk ni kc ic wr) (hg : wr.grownBy w1 iv.ownBlock) (hw : gm < w2.heap.size) (ho : w1.ownsRow w2.heap.size 26 5 iv' ni' ic') : Mp w2 gm kv iv' nk ni' kc ic' (w1.setCell ⟨gm, 3, none⟩ iv') := by
  obtain ⟨h1, h2, h3⟩ := h.grownI hg hw
  refine ⟨?_, own_setCell h2 (p := ⟨gm, 3, none⟩) hw _, own_setCell ho (p := ⟨gm, 3, none⟩) hw _, ch_set h3 3 iv'⟩
  have := heap_setCell_same w1 gm 3 _ 26 iv' h1
  simpa using this
end

theorem keys_take {ps : List (PD × V)} {i : Nat} (h : i < ps.length) : (ps.take (i + 1)).map (fun p => Value.string p.1.1) = (ps.take i).map (fun p => Value.string p.1.1) ++ [Value.string ps[i].1.1] := by
  rw [take_succ_l ps i h, List.map_append, List.map_singleton]
theorem items_take {ps : List (PD × V)} {i : Nat} (h : i < ps.length) : (ps.take (i + 1)).flatMap (fun p => encI p.1.2) = (ps.take i).flatMap (fun p => encI p.1.2) ++ encI ps[i].1.2 := by
  rw [take_succ_l ps i h, List.flatMap_append, List.flatMap_singleton]

/-- One value in a block of its own, as a source of an append. -/
theorem src_key (w : World) (x : ByteArray) (S : Nat → Prop) (hS : S w.heap.size) : RdN (w.alloc (.cells #[.string x] 9)) S 1 (.slice (some ⟨w.heap.size, 0, none⟩) 1 1) 1 [.string x] := by
  refine ⟨_, 1, rfl, Nat.le_refl _, by unfold maxLen; omega, rfl, .inr ⟨_, 0, rfl, hS, fun j u hj => ?_⟩⟩
  rw [cell_of_row _ _ _ _ 9 (0, 0) (heap_alloc_new w _), Nat.zero_add]
  simpa using hj
theorem src_item (w : World) (c0 c1 c2 c3 c4 : Value) (S : Nat → Prop) (hS : S w.heap.size) : RdN (w.alloc (.cells #[c0, c1, c2, c3, c4] 26)) S 5 (.slice (some ⟨w.heap.size, 0, none⟩) 1 1) 1 [c0, c1, c2, c3, c4] := by
  refine ⟨_, 1, rfl, Nat.le_refl _, by unfold maxLen; omega, rfl, .inr ⟨_, 0, rfl, hS, fun j u hj => ?_⟩⟩
  rw [cell_of_row _ _ _ _ 26 (0, 0) (heap_alloc_new w _), Nat.zero_add]
  simpa using hj

/-- The pairs in memory, while only block gm and new memory change. -/
def Ps (S : Nat → Prop) (g : Nat) (ps : List (PD × V)) (w : World) : Prop :=
  (∀ i (h : i < ps.length) (c : Nat), c < 6 → w.cell? ⟨g, i * 6 + c, none⟩ = (encD ps[i].1)[c]?) ∧ (∀ p ∈ ps, VC w S p.2 (encI p.1.2))
theorem Ps.ch {S : Nat → Prop} {g gm : Nat} {ps : List (PD × V)} {w w' : World} (h : Ps S g ps w) (hc : Ch gm w w') (hg : 0 < ps.length → g ≠ gm) (hS : ∀ b, S b → b ≠ gm) : Ps S g ps w' := by
  refine ⟨fun i hi c hcc => ?_, fun p hp => VC.keep (fun _ h _ => h) (keepCh hc hS) _ _ (h.2 p hp)⟩
  have h1 := h.1 i hi c hcc
  have hl6 : c < (encD ps[i].1).length := by rw [encD_len]; exact hcc
  rw [List.getElem?_eq_getElem hl6] at h1 ⊢
  exact World.grownBy.cell hc h1 (fun e => hg (by omega) (by injection e))
theorem Ps.at_ {S : Nat → Prop} {g : Nat} {ps : List (PD × V)} {w : World} (h : Ps S g ps w) (i : Nat) (hi : i < ps.length) :
    ∃ (x : ByteArray) (k n : Int) (s : ByteArray) (A : Option Addr) (m1 c1 : Nat) (A' : Option Addr) (m2 c2 : Nat), ps[i].1 = (x, k, n, s, (A, m1, c1), (A', m2, c2)) ∧
      w.cell? ⟨g, i * 6, none⟩ = some (.string x) ∧ w.cell? ⟨g, i * 6 + 1, none⟩ = some (.int .i64 k) ∧ w.cell? ⟨g, i * 6 + 2, none⟩ = some (.int .i64 n) ∧ w.cell? ⟨g, i * 6 + 3, none⟩ = some (.string s) ∧ w.cell? ⟨g, i * 6 + 4, none⟩ = some (.slice A m1 c1) ∧ w.cell? ⟨g, i * 6 + 5, none⟩ = some (.slice A' m2 c2) := by
  have f := h.1 i hi
  rcases hx : ps[i].1 with ⟨x, k, n, s, ⟨A1, m1, c1⟩, ⟨A2, m2, c2⟩⟩
  rw [hx] at f
  exact ⟨x, k, n, s, A1, m1, c1, A2, m2, c2, rfl, f 0 (by omega), f 1 (by omega), f 2 (by omega), f 3 (by omega), f 4 (by omega), f 5 (by omega)⟩
end Go.Proofs.Ytpoofeiajmkfdaa
