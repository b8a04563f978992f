/-
  For WireReads: an argument of a list of calls, opened: each call's three numbers lie in memory.
-/
import Derived.Test.YtimphdnnnhgcgaaPlay
import Derived.Deep.Slices
import Derived.Deep.Fields
namespace Go.Proofs.Ytimphdnnnhgcgaa
open Go.ChangeShapes Go.WideShapes Go.ChangeAt Go.RowKit Go.Deep

/-- The slice v of calls has n elements; each one's three numbers can be read. -/
def Rs (w : World) (v : Value) (n : Nat) : Prop :=
  ∃ (A : Option Addr) (c : Nat), v = .slice A n c ∧ n ≤ c ∧ c ≤ maxLen ∧
    ∀ i, i < n → ∃ b o k lo hi, A = some ⟨b, o, none⟩ ∧ w.cell? ⟨b, o + i * 3, none⟩ = some (.int .i64 k) ∧ w.cell? ⟨b, o + i * 3 + 1, none⟩ = some (.int .i64 lo) ∧ w.cell? ⟨b, o + i * 3 + 2, none⟩ = some (.int .i64 hi)

theorem Rs.below {w w' : World} {v : Value} {n : Nat} (h : Rs w v n) (hb : Below w.heap.size w w') : Rs w' v n := by
  obtain ⟨A, c, rfl, h1, h2, h3⟩ := h
  refine ⟨A, c, rfl, h1, h2, fun i hi => ?_⟩
  obtain ⟨b, o, k, lo, hi', e, x, y, z⟩ := h3 i hi
  have keep : ∀ a u, w.cell? a = some u → w'.cell? a = some u := fun a u hc => (hb.cell (World.block_lt_of_cell? w a hc)).trans hc
  exact ⟨b, o, k, lo, hi', e, keep _ _ x, keep _ _ y, keep _ _ z⟩

theorem addr_plain (b o n : Nat) : (⟨b, o, none⟩ : Addr).add n = ⟨b, o + n, none⟩ := by unfold Addr.add; split <;> simp_all

/-- One element: its three cells. -/
theorem open_read {H : Type} {enc : TypeId × Value → H} {W : World} {base : Nat} {sp : Nat → Bool} {hd : Bool} {fuel : Nat} {x : Addr} {cs : List Value} {y : DataW H × List MemPlace}
    (hc : W.cells? base x 3 = some cs) (ht : DataW.trod enc Try.prog W base sp hd fuel 35 cs = some y) :
    ∃ k lo hi, W.cell? (x.add 0) = some (.int .i64 k) ∧ W.cell? (x.add 1) = some (.int .i64 lo) ∧ W.cell? (x.add 2) = some (.int .i64 hi) := by
  obtain ⟨_, hcl, hat⟩ := World.cells?_some hc
  obtain ⟨ys, n', _, _, _, hyl, hfs⟩ := DataW.trod_struct Try.underlying35 ht
  have h3 : Try.prog.cellsOf 3 = 1 := by kernel_rfl
  have e0 : DataW.trod enc Try.prog W base sp hd n' 3 ((cs.drop 0).take (Try.prog.cellsOf 3)) = ys[0]? := hfs 0 _ rfl
  have e1 : DataW.trod enc Try.prog W base sp hd n' 3 ((cs.drop 1).take (Try.prog.cellsOf 3)) = ys[1]? := hfs 1 _ rfl
  have e2 : DataW.trod enc Try.prog W base sp hd n' 3 ((cs.drop 2).take (Try.prog.cellsOf 3)) = ys[2]? := hfs 2 _ rfl
  rw [h3] at e0 e1 e2
  match cs, hcl with
  | [c0, c1, c2], _ =>
    match ys, hyl with
    | [y0, y1, y2], _ =>
      simp at e0 e1 e2
      obtain ⟨k, hk, _, _⟩ := DataW.trod_int Try.underlying3 e0
      obtain ⟨lo, hlo, _, _⟩ := DataW.trod_int Try.underlying3 e1
      obtain ⟨hi, hhi, _, _⟩ := DataW.trod_int Try.underlying3 e2
      simp at hk hlo hhi
      subst hk hlo hhi
      exact ⟨k, lo, hi, hat 0 (by omega), hat 1 (by omega), hat 2 (by omega)⟩

theorem open_reads {H : Type} {enc : TypeId × Value → H} {W : World} {base base' : Nat} {sp : Nat → Bool} {hd : Bool} {r : Reach} {v : Value} {d : DataW H} {ps : List MemPlace}
    (hval : Value.okWide Try.prog W r base' 29 v) (h : DataW.Trod enc Try.prog W base sp hd 29 v d ps) : ∃ n, Rs W v n := by
  obtain ⟨A, len, cap, rfl⟩ := okWide_slice Try.underlying29 hval
  obtain ⟨fuel, hf⟩ := h
  rcases open_slice Try.underlying29 hf with ⟨hcs, _⟩ | ⟨x, l, c, m, n, D, Pl, hcs, _, hl, hm, hmm, _, hi⟩
  · simp [Value.cells] at hcs
    obtain ⟨rfl, rfl, rfl⟩ := hcs
    exact ⟨0, none, 0, rfl, Nat.le_refl _, Nat.zero_le _, fun i hi => absurd hi (by omega)⟩
  · simp [Value.cells] at hcs
    obtain ⟨rfl, rfl, rfl⟩ := hcs
    have hlm : len ≤ m := by rw [hmm]; split <;> omega
    have h35 : Try.prog.cellsOf 35 = 3 := by kernel_rfl
    have each : ∀ i, i < len → ∃ k lo hi, W.cell? ((x.add (i * 3)).add 0) = some (.int .i64 k) ∧ W.cell? ((x.add (i * 3)).add 1) = some (.int .i64 lo) ∧ W.cell? ((x.add (i * 3)).add 2) = some (.int .i64 hi) := fun i hil => by
      obtain ⟨cs', hc, ht⟩ := hi i (by omega)
      rw [h35] at hc
      exact open_read hc ht
    refine ⟨len, some x, cap, rfl, hl, hm, fun i hil => ?_⟩
    have hspot : x.spot = none := by
      obtain ⟨k, _, _, h0, _, _⟩ := each 0 (by omega)
      have e : (x.add (0 * 3)).add 0 = x := by simp [Addr.add]
      rw [e] at h0
      unfold World.cell? at h0
      split at h0
      · split at h0
        · cases h0
        · rename_i hs; simpa using hs
      · cases h0
    obtain ⟨b, o, s⟩ := x
    subst hspot
    obtain ⟨k, lo, hi', h0, h1, h2⟩ := each i hil
    rw [addr_plain, addr_plain] at h0 h1 h2
    exact ⟨b, o, k, lo, hi', rfl, h0, h1, h2⟩
end Go.Proofs.Ytimphdnnnhgcgaa
