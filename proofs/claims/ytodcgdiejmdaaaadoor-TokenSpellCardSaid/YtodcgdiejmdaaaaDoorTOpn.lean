/-
  An argument of type []api.Token, opened.
-/
import Derived.Test.YtodcgdiejmdaaaaDoorTEq
import Derived.ProofKit
import Derived.OpenShut
import Derived.ShutString
import Derived.Deep.Slices
import Derived.Deep.Fields
namespace Go.Proofs.YtodcgdiejmdaaaaDoor
open Go.ChangeShapes Go.WideShapes Go.ChangeAt Go.RowKit Go.Deep

section
variable {H : Type} {enc : TypeId × Value → H} {W : World} {base : Nat} {sp : Nat → Bool} {hd : Bool}

theorem spot_none {x : Addr} {u : Value} (h : W.cell? x = some u) : x.spot = none := by
  unfold World.cell? at h
  split at h
  · split at h
    · cases h
    · rename_i hs; simpa using hs
  · cases h
theorem addr_add (b o j : Nat) : (⟨b, o, none⟩ : Addr).add j = ⟨b, o + j, none⟩ := by unfold Addr.add; split <;> simp_all
theorem cellsTok : Tryd.prog.cellsOf 30 = 4 := by kernel_rfl
theorem cellsInt : Tryd.prog.cellsOf 3 = 1 := by kernel_rfl
theorem cellsString : Tryd.prog.cellsOf 9 = 1 := by kernel_rfl

set_option maxRecDepth 100000 in
/-- The four cells of a token. -/
theorem open_tok {fuel : Nat} {cs : List Value} {x : DataW H × List MemPlace} (h : DataW.trod enc Tryd.prog W base sp hd fuel 30 cs = some x) :
    ∃ t : Tk.T, cs = tkC t ∧ -9223372036854775808 ≤ t.n ∧ t.n ≤ 9223372036854775807 ∧ t.t.length ≤ maxLen := by
  obtain ⟨ys, n', hfuel, hx, hcl, hyl, hfs⟩ := DataW.trod_struct Tryd.underlying30 h
  rw [cellsTok] at hcl
  have e0 : DataW.trod enc Tryd.prog W base sp hd n' 3 ((cs.drop 0).take (Tryd.prog.cellsOf 3)) = ys[0]? := hfs 0 _ rfl
  have e1 : DataW.trod enc Tryd.prog W base sp hd n' 3 ((cs.drop 1).take (Tryd.prog.cellsOf 3)) = ys[1]? := hfs 1 _ rfl
  have e2 : DataW.trod enc Tryd.prog W base sp hd n' 9 ((cs.drop 2).take (Tryd.prog.cellsOf 9)) = ys[2]? := hfs 2 _ rfl
  have e3 : DataW.trod enc Tryd.prog W base sp hd n' 3 ((cs.drop 3).take (Tryd.prog.cellsOf 3)) = ys[3]? := hfs 3 _ rfl
  rw [cellsInt] at e0 e1 e3
  rw [cellsString] at e2
  match cs, hcl with
  | [c0, c1, c2, c3], _ =>
    match ys, hyl with
    | [y0, y1, y2, y3], _ =>
      simp at e0 e1 e2 e3
      obtain ⟨k, hk, _, wk⟩ := DataW.trod_int Tryd.underlying3 e0
      obtain ⟨a, ha, _, wa⟩ := DataW.trod_int Tryd.underlying3 e1
      obtain ⟨s, hs, _, ws⟩ := DataW.trod_string Tryd.underlying9 e2
      obtain ⟨n, hn, _, wn⟩ := DataW.trod_int Tryd.underlying3 e3
      simp at hk ha hs hn
      subst hk ha hs hn
      have hb := bounds_i64 wn
      exact ⟨⟨k, a, s.data.toList, n⟩, rfl, hb.1, hb.2, by simpa using ws⟩

set_option maxRecDepth 100000 in
theorem open_toks {base' : Nat} {r : Reach} {v : Value} {d : DataW H} {ps : List MemPlace} (hval : Value.okWide Tryd.prog W r base' 23 v) (h : DataW.Trod enc Tryd.prog W base sp hd 23 v d ps) :
    ∃ l : List Tk.T, RdT W v l ∧ ∀ t ∈ l, -9223372036854775808 ≤ t.n ∧ t.n ≤ 9223372036854775807 ∧ t.t.length ≤ maxLen := by
  obtain ⟨A, len, cap, rfl⟩ := okWide_slice Tryd.underlying23 hval
  obtain ⟨fuel, hf⟩ := h
  rcases open_slice Tryd.underlying23 hf with ⟨hcs, _⟩ | ⟨a, len', cap', m, n, D, Pl, hcs, _, hl, hm, hmm, _, hi⟩
  · simp [Value.cells] at hcs
    obtain ⟨rfl, rfl, rfl⟩ := hcs
    exact ⟨[], ⟨none, 0, rfl, Nat.le_refl _, Nat.zero_le _, .inl rfl⟩, by simp⟩
  · simp [Value.cells] at hcs
    obtain ⟨rfl, rfl, rfl⟩ := hcs
    have hlm : len ≤ m := by rw [hmm]; split <;> omega
    have each : ∀ i, ∃ t : Tk.T, i < len → (∀ k, k < 4 → W.cell? ((a.add (i * 4)).add k) = (tkC t)[k]?) ∧ -9223372036854775808 ≤ t.n ∧ t.n ≤ 9223372036854775807 ∧ t.t.length ≤ maxLen := fun i => by
      by_cases hil : i < len
      · obtain ⟨cs', h1, h2⟩ := hi i (by omega)
        rw [cellsTok] at h1
        obtain ⟨t, rfl, b1, b2, b3⟩ := open_tok h2
        obtain ⟨_, hcl', hat⟩ := World.cells?_some h1
        exact ⟨t, fun _ => ⟨fun k hk => hat k (by simpa [tkC] using hk), b1, b2, b3⟩⟩
      · exact ⟨⟨0, 0, [], 0⟩, fun h => absurd h hil⟩
    obtain ⟨t, ht⟩ := Classical.axiomOfChoice each
    refine ⟨(List.range len).map t, ⟨some a, cap, by simp, by simpa using hl, hm, ?_⟩, ?_⟩
    · rcases Nat.eq_zero_or_pos len with h0 | h0
      · exact .inl (by simp [h0])
      · have hsp : a.spot = none := by
          have := (ht 0 h0).1 0 (by omega)
          have e : (a.add (0 * 4)).add 0 = a := by simp [Addr.add]
          rw [e] at this
          exact spot_none (u := .int .i64 (t 0).k) (this.trans rfl)
        obtain ⟨b, o, sp'⟩ := a
        subst hsp
        refine .inr ⟨b, o, rfl, fun i u hu => ?_⟩
        rw [List.getElem?_map, Option.map_eq_some_iff] at hu
        obtain ⟨j, hj, rfl⟩ := hu
        have hjj := List.getElem?_eq_some_iff.1 hj
        simp at hjj
        obtain ⟨hil, rfl⟩ := hjj
        have key := (ht i hil).1
        have k0 := key 0 (by omega)
        have k1 := key 1 (by omega)
        have k2 := key 2 (by omega)
        have k3 := key 3 (by omega)
        rw [addr_add, addr_add] at k0 k1 k2 k3
        exact ⟨k0.trans rfl, k1.trans rfl, k2.trans rfl, k3.trans rfl⟩
    · intro u hu
      simp only [List.mem_map, List.mem_range] at hu
      obtain ⟨i, hi, rfl⟩ := hu
      exact (ht i hi).2
end
end Go.Proofs.YtodcgdiejmdaaaaDoor
