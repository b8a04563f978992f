/-
  An argument of type api.Value, opened.
-/
import Derived.Test.YtpoofeiajmkfdaaVWks
import Derived.ProofKit
import Derived.OpenShut
import Derived.Deep.Slices
import Derived.Deep.Fields
import Derived.SizedLaws
namespace Go.Proofs.Ytpoofeiajmkfdaa
open Go.ChangeShapes Go.WideShapes Go.ChangeAt Go.RowKit Go.Deep

section
variable {H : Type} {enc : TypeId × Value → H} {W : World} {base : Nat} {sp : Nat → Bool} {hd : Bool}

theorem weights_all {P : Program} {e : TypeId} {d : DataW H} : ∀ {l : List (DataW H)}, d ∈ l → ∀ n ∈ d.weights P e, n ∈ DataW.weightsAll P e l
  | [], h, _, _ => by cases h
  | x :: l, h, n, hn => by
    simp only [DataW.weightsAll, List.mem_append]
    rcases List.mem_cons.1 h with rfl | h
    · exact .inl hn
    · exact .inr (weights_all h n hn)

/-- Elements of five cells, gathered. -/
theorem each_vals {a : Addr} (n : Nat) (h : ∀ i, i < n → ∃ cs : List Value, (∀ k, k < 5 → W.cell? ((a.add (i * 5)).add k) = cs[k]?) ∧ ∃ v, VC W (fun _ => True) v cs) :
    ∃ l ics, l.length = n ∧ VsC W (fun _ => True) l ics ∧ ∀ i, i < n → ∀ k, k < 5 → W.cell? ((a.add (i * 5)).add k) = ics[i * 5 + k]? := by
  induction n with
  | zero => exact ⟨[], [], rfl, VsC.nil_, fun i hi => absurd hi (by omega)⟩
  | succ n ih =>
    obtain ⟨l, ics, h1, h2, h3⟩ := ih fun i hi => h i (by omega)
    obtain ⟨cs, hc, v, hv⟩ := h n (by omega)
    have hl := h2.len
    have h5 := hv.len5
    refine ⟨l ++ [v], ics ++ cs, by simp [h1], VsC.app h2 (VsC.one hv), fun i hi k hk => ?_⟩
    by_cases e : i = n
    · subst e
      rw [hc k hk, List.getElem?_append_right (by omega)]
      congr 1
      omega
    · rw [h3 i (by omega) k hk, List.getElem?_append_left (by omega)]

theorem spot_none {x : Addr} {u : Value} (h : W.cell? x = some u) : x.spot = none := by
  unfold World.cell? at h
  split at h
  · split at h
    · cases h
    · rename_i hs; simpa using hs
  · cases h

theorem bytes26 : Try.prog.bytesOf 26 = 80 := by kernel_rfl
theorem bytes9 : Try.prog.bytesOf 9 = 16 := by kernel_rfl
theorem cells26 : Try.prog.cellsOf 26 = 5 := by kernel_rfl
theorem cells9 : Try.prog.cellsOf 9 = 1 := by kernel_rfl
theorem cells3 : Try.prog.cellsOf 3 = 1 := by kernel_rfl
theorem cells22 : Try.prog.cellsOf 22 = 1 := by kernel_rfl
theorem cells23 : Try.prog.cellsOf 23 = 1 := by kernel_rfl

theorem open_keys {fuel : Nat} {c : Value} {x : DataW H × List MemPlace} (h : DataW.trod enc Try.prog W base sp hd fuel 22 [c] = some x) (hw : ∀ n ∈ x.1.weights Try.prog 22, n ≤ reachBytes) :
    ∃ ks : List ByteArray, RdN W (fun _ => True) 1 c ks.length (ks.map Value.string) ∧ (∀ s ∈ ks, s.size ≤ 9223372036854775807) ∧ ks.length * 16 ≤ 140737488351232 := by
  rcases open_slice1 Try.underlying22 cells9 h with ⟨hcs, _⟩ | ⟨a, len, cap, m, n, V, D, Pl, hcs, _, hl, hm, hmm, hx, hi⟩
  · simp at hcs
    subst hcs
    exact ⟨[], RdN.none_, by simp, by simp⟩
  · simp at hcs
    subst hcs
    have hlm : len ≤ m := by rw [hmm]; split <;> omega
    have hwt : len * 16 ≤ 140737488351232 := by
      have := hw ((len + (m - len)) * Try.prog.bytesOf 9) (by rw [hx]; simp [DataW.weights, Try.underlying22])
      rw [bytes9] at this
      simp only [reachBytes] at this
      omega
    have hs : ∀ i, ∃ s : ByteArray, i < len → W.cell? (a.add i) = some (.string s) ∧ s.size ≤ maxLen := fun i => by
      by_cases hil : i < len
      · obtain ⟨h1, h2⟩ := hi i (by omega)
        obtain ⟨s, h3, _, h4⟩ := DataW.trod_string Try.underlying9 h2
        simp at h3
        exact ⟨s, fun _ => ⟨by rw [h1, h3], h4⟩⟩
      · exact ⟨⟨#[]⟩, fun h => absurd h hil⟩
    obtain ⟨s, hs⟩ := Classical.axiomOfChoice hs
    refine ⟨(List.range len).map s, ?_, ?_, by simpa using hwt⟩
    · refine ⟨some a, cap, by simp, by simpa using hl, hm, by simp, ?_⟩
      rcases Nat.eq_zero_or_pos len with h0 | h0
      · exact .inl (by simp [h0])
      · have hsp : a.spot = none := by
          have := (hs 0 h0).1
          have e : a.add 0 = a := by simp [Addr.add]
          rw [e] at this
          exact spot_none this
        obtain ⟨b, o, sp'⟩ := a
        subst hsp
        refine .inr ⟨b, o, rfl, trivial, fun j u hj => ?_⟩
        simp only [List.map_map, List.getElem?_map, Option.map_eq_some_iff] at hj
        obtain ⟨j', hj', rfl⟩ := hj
        have hjj := List.getElem?_eq_some_iff.1 hj'
        simp at hjj
        obtain ⟨hjl, rfl⟩ := hjj
        have := (hs j hjl).1
        rwa [addr_add] at this
    · intro t ht
      simp only [List.mem_map, List.mem_range] at ht
      obtain ⟨i, hi, rfl⟩ := ht
      have := (hs i hi).2
      unfold maxLen at this
      omega

set_option maxRecDepth 100000 in
theorem open_VC (fuel : Nat) : ∀ (cs : List Value) (x : DataW H × List MemPlace), DataW.trod enc Try.prog W base sp hd fuel 26 cs = some x → (∀ n ∈ x.1.weights Try.prog 26, n ≤ reachBytes) → ∃ v, VC W (fun _ => True) v cs := by
  induction fuel using Nat.strongRecOn with
  | ind fuel ih =>
  intro cs x h hw
  obtain ⟨ys, n', hfuel, hx, hcl, hyl, hfs⟩ := DataW.trod_struct Try.underlying26 h
  rw [cells26] at hcl
  have e0 : DataW.trod enc Try.prog W base sp hd n' 3 ((cs.drop 0).take (Try.prog.cellsOf 3)) = ys[0]? := hfs 0 _ rfl
  have e1 : DataW.trod enc Try.prog W base sp hd n' 3 ((cs.drop 1).take (Try.prog.cellsOf 3)) = ys[1]? := hfs 1 _ rfl
  have e2 : DataW.trod enc Try.prog W base sp hd n' 9 ((cs.drop 2).take (Try.prog.cellsOf 9)) = ys[2]? := hfs 2 _ rfl
  have e3 : DataW.trod enc Try.prog W base sp hd n' 23 ((cs.drop 3).take (Try.prog.cellsOf 23)) = ys[3]? := hfs 3 _ rfl
  have e4 : DataW.trod enc Try.prog W base sp hd n' 22 ((cs.drop 4).take (Try.prog.cellsOf 22)) = ys[4]? := hfs 4 _ rfl
  rw [cells3] at e0 e1
  rw [cells9] at e2
  rw [cells23] at e3
  rw [cells22] at e4
  match cs, hcl with
  | [c0, c1, c2, c3, c4], _ =>
    match ys, hyl with
    | [y0, y1, y2, y3, y4], _ =>
      simp at e0 e1 e2 e3 e4
      have hwx : ∀ n ∈ DataW.weightsEach Try.prog [3, 3, 9, 23, 22] [y0.1, y1.1, y2.1, y3.1, y4.1], n ≤ reachBytes := fun n hn => hw n (by rw [hx]; simpa [DataW.weights, Try.underlying26] using hn)
      obtain ⟨k, hk, _, wk⟩ := DataW.trod_int Try.underlying3 e0
      obtain ⟨n, hn, _, wn⟩ := DataW.trod_int Try.underlying3 e1
      obtain ⟨s, hs, _, ws⟩ := DataW.trod_string Try.underlying9 e2
      simp at hk hn hs
      subst hk hn hs
      obtain ⟨ks, hks, hk1, hk2⟩ := open_keys e4 (fun n hn => hwx n (by simp only [DataW.weightsEach, List.mem_append]; exact .inr (.inr (.inr (.inr (.inl hn))))))
      have hw3 : ∀ n ∈ y3.1.weights Try.prog 23, n ≤ reachBytes := fun n hn => hwx n (by simp only [DataW.weightsEach, List.mem_append]; exact .inr (.inr (.inr (.inl hn))))
      have hok : Ok k n s ks := by
        simp [Lit.wf, IntKind.min, IntKind.max, IntKind.signed, IntKind.bits] at wk wn
        unfold maxLen at ws
        exact ⟨by omega, by omega, by omega, by omega, by omega, hk1, hk2⟩
      rcases DataW.trod_slice Try.underlying23 e3 with ⟨hcs, _⟩ | ⟨a, len, cap, elems, rest, n2, hf2, hcs, hx3, _, hl, hm, hel, hi, _, _⟩
      · simp at hcs
        subst hcs
        exact ⟨.mk k n s [] ks, by rw [VC_mk]; exact ⟨_, _, [], rfl, hok, RdN.none_, VsC.nil_, hks⟩⟩
      · simp at hcs
        subst hcs
        have each : ∀ i, i < len → ∃ cs : List Value, (∀ k, k < 5 → W.cell? ((a.add (i * 5)).add k) = cs[k]?) ∧ ∃ v, VC W (fun _ => True) v cs := fun i hil => by
          have hb := hi i hil
          rw [cells26] at hb
          have hlt : i < elems.length := by omega
          rw [List.getElem?_eq_getElem hlt] at hb
          obtain ⟨cs', hc, ht⟩ := Option.bind_eq_some_iff.1 hb
          obtain ⟨_, hcl', hat⟩ := World.cells?_some hc
          refine ⟨cs', fun k hk => ?_, ih n2 (by omega) cs' _ ht fun m hm => ?_⟩
          · exact hat k (by omega)
          · refine hw3 m ?_
            rw [hx3]
            simp only [DataW.weights, Try.underlying23, List.mem_cons, List.mem_append]
            exact .inr (.inl (weights_all (List.mem_map.2 ⟨_, List.getElem_mem hlt, rfl⟩) m hm))
        obtain ⟨l, ics, hll, hvs, hat⟩ := each_vals len each
        have hil := hvs.len
        refine ⟨.mk k n s l ks, ?_⟩
        rw [VC_mk]
        refine ⟨_, _, ics, rfl, hok, ?_, hvs, hks⟩
        refine ⟨some a, cap, by rw [hll], by omega, hm, hil, ?_⟩
        rcases Nat.eq_zero_or_pos len with h0 | h0
        · exact .inl (by omega)
        · have hsp : a.spot = none := by
            have := hat 0 h0 0 (by omega)
            have e : (a.add (0 * 5)).add 0 = a := by simp [Addr.add]
            rw [e, List.getElem?_eq_getElem (by omega)] at this
            exact spot_none this
          obtain ⟨b, o, sp'⟩ := a
          subst hsp
          refine .inr ⟨b, o, rfl, trivial, fun j u hj => ?_⟩
          have hjl : j < ics.length := (List.getElem?_eq_some_iff.1 hj).1
          have := hat (j / 5) (by omega) (j % 5) (by omega)
          rw [addr_add, addr_add, show j / 5 * 5 + j % 5 = j by omega, show o + j / 5 * 5 + j % 5 = o + j by omega, hj] at this
          exact this

set_option maxRecDepth 100000 in
theorem open_value {base' : Nat} {r : Reach} {v : Value} {d : DataW H} {ps : List MemPlace} (hval : Value.okWide Try.prog W r base' 26 v) (h : DataW.Trod enc Try.prog W base sp hd 26 v d ps) (hw : ∀ n ∈ d.weights Try.prog 26, n ≤ reachBytes) :
    ∃ x : V, VA W (fun _ => True) v x := by
  obtain ⟨fuel, hf⟩ := h
  obtain ⟨x, hx⟩ := open_VC fuel _ _ hf hw
  have : ∃ cs, v = .agg cs := by
    unfold Value.okWide at hval
    rw [Try.underlying26] at hval
    obtain ⟨cs, h, _⟩ := hval
    exact ⟨cs, h⟩
  obtain ⟨cs, rfl⟩ := this
  exact ⟨x, cs.toList, by simp, by simpa [Value.cells] using hx⟩
end
end Go.Proofs.Ytpoofeiajmkfdaa
