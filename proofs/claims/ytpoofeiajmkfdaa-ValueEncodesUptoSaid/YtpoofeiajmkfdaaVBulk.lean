/-
  The mass of a value, and what a bound on the bulk of an argument gives.
-/
import Derived.Test.YtpoofeiajmkfdaaRows
import Derived.Test.YtpoofeiajmkfdaaVLaw
import Derived.Test.YtpoofeiajmkfdaaVRput
namespace Go.Proofs.Ytpoofeiajmkfdaa
open Go.ChangeShapes Go.WideShapes Go.ChangeAt Go.RowKit Go.Deep

namespace V
def massK (ks : List ByteArray) : Nat := (ks.map fun s => s.size + 1).sum
mutual
def mass : V → Nat
  | mk _ _ s l ks => 1 + s.size + massL l + massK ks
def massL : List V → Nat
  | [] => 0
  | v :: l => mass v + massL l
end
theorem mass_mk (k n : Int) (s : ByteArray) (l : List V) (ks : List ByteArray) : mass (mk k n s l ks) = 1 + s.size + massL l + massK ks := by rw [mass]
theorem massL_nil : massL [] = 0 := by rw [massL]
theorem massL_cons (v : V) (l : List V) : massL (v :: l) = mass v + massL l := by rw [massL]
theorem massK_cons (s : ByteArray) (l : List ByteArray) : massK (s :: l) = s.size + 1 + massK l := by simp [massK]
theorem massL_app (a b : List V) : massL (a ++ b) = massL a + massL b := by
  induction a with
  | nil => simp [massL_nil]
  | cons v a ih => simp only [List.cons_append, massL_cons, ih]; omega
theorem massL_len (l : List V) : l.length ≤ massL l := by
  induction l with
  | nil => simp [massL_nil]
  | cons v a ih =>
    rw [massL_cons, List.length_cons]
    cases v
    rw [mass_mk]
    omega
end V

theorem enc_any_len {n : Int} (h : -9223372036854775808 ≤ n ∧ n ≤ 9223372036854775807) : (Wi.enc n).length ≤ 10 := (Wi.enc_len n h.1 h.2).2
theorem encText_len {s : ByteArray} (h : s.size ≤ 9223372036854775807) : (V.encText s).length ≤ 10 + s.size := by
  have := enc_any_len (n := (s.size : Int)) (by omega)
  unfold V.encText
  simp
  omega
theorem encL_mass {l : List V} (h : ∀ v ∈ l, (V.enc v).length ≤ 30 * V.mass v) : (V.encL l).length ≤ 30 * V.massL l := by
  induction l with
  | nil => simp [V.encL_nil]
  | cons v l ih =>
    have h1 := h v (by simp)
    have h2 := ih fun u hu => h u (by simp [hu])
    rw [V.encL_cons, V.massL_cons, List.length_append]
    omega
theorem encP_mass : ∀ {l : List V} {ks : List ByteArray}, (∀ v ∈ l, (V.enc v).length ≤ 30 * V.mass v) → (∀ x ∈ ks, x.size ≤ 9223372036854775807) → (V.encP l ks).length ≤ 30 * V.massL l + 30 * V.massK ks
  | [], ks, _, _ => by simp [V.encP_nil]
  | v :: l, [], _, _ => by simp [V.encP]
  | v :: l, k :: ks, h, h' => by
    have h1 := h v (by simp)
    have h2 := encP_mass (l := l) (ks := ks) (fun u hu => h u (by simp [hu])) (fun u hu => h' u (by simp [hu]))
    have h3 := encText_len (h' k (by simp))
    rw [V.encP_cons, V.massL_cons, V.massK_cons, List.length_append, List.length_append]
    omega
theorem VsC.each_ok {w : World} {S : Nat → Prop} {P : V → Prop} : ∀ {l : List V} {cs : List Value}, VsC w S l cs → (∀ u ∈ l, ∀ cs, VC w S u cs → P u) → ∀ u ∈ l, P u
  | [], _, _, _ => fun u hu => by cases hu
  | v :: l, cs, h, H => fun u hu => by
    rw [VsC_cons] at h
    obtain ⟨c1, c2, _, h1, h2⟩ := h
    rcases List.mem_cons.1 hu with rfl | hu
    · exact H _ (by simp) c1 h1
    · exact VsC.each_ok h2 (fun x hx => H x (by simp [hx])) u hu
theorem enc_mass {w : World} {S : Nat → Prop} (v : V) : ∀ cs, VC w S v cs → (V.enc v).length ≤ 30 * V.mass v := by
  induction v using V.ind with
  | h k n s l ks ih =>
    intro cs h
    rw [VC_mk] at h
    obtain ⟨iv, kv, ics, _, ho, h1, h2, _⟩ := h
    have hl := VsC.each_ok h2 ih
    have a1 := enc_any_len ⟨ho.1, ho.2.1⟩
    have a2 := enc_any_len ⟨ho.2.2.1, ho.2.2.2.1⟩
    have a3 := encText_len ho.2.2.2.2.1
    have hlen : l.length ≤ 9223372036854775807 := by
      obtain ⟨A, c, _, q1, q2, _⟩ := h1
      unfold maxLen at q2; omega
    have a4 := enc_any_len (n := (l.length : Int)) (by omega)
    have a5 := encL_mass hl
    have a6 := encP_mass (ks := ks) hl ho.2.2.2.2.2.1
    rw [V.enc_mk, V.mass_mk, List.length_append]
    split
    · omega
    · split
      · omega
      · split
        · rw [List.length_append]; omega
        · split
          · rw [List.length_append]; omega
          · simp; omega

section
variable {H : Type} {enc : TypeId × Value → H} {W : World} {base : Nat} {sp : Nat → Bool} {hd : Bool}

theorem bulk_len (s : ByteArray) : s.data.toList.length = s.size := by rw [Array.length_toList]; rfl
theorem bulk_str {s : ByteArray} : Rows.uptoBulk (DataW.lit (H := H) (.string s.data.toList)) = s.size + 1 := by
  simp only [Rows.uptoBulk, bulk_len]
theorem bulk_app (l r : List (DataW H)) : Rows.uptoBulkAll (l ++ r) = Rows.uptoBulkAll l + Rows.uptoBulkAll r := by
  induction l with
  | nil => simp [Rows.uptoBulkAll]
  | cons x l ih => simp only [List.cons_append, Rows.uptoBulkAll, ih]; omega
theorem massK_le {s : Nat → ByteArray} {D : Nat → DataW H} (L : List Nat) (h : ∀ i ∈ L, (s i).size + 1 ≤ Rows.uptoBulk (D i)) : V.massK (L.map s) ≤ Rows.uptoBulkAll (L.map D) := by
  induction L with
  | nil => simp [V.massK, Rows.uptoBulkAll]
  | cons i L ih =>
    have h1 := h i (by simp)
    have h2 := ih fun j hj => h j (by simp [hj])
    rw [List.map_cons, List.map_cons, V.massK_cons]
    simp only [Rows.uptoBulkAll]
    omega

/-- Elements of five cells, gathered, with their mass. -/
theorem each_valsM {a : Addr} (ds : List (DataW H)) (n : Nat) (h : ∀ i, i < n → ∃ cs : List Value, (∀ k, k < 5 → W.cell? ((a.add (i * 5)).add k) = cs[k]?) ∧ ∃ v, VC W (fun _ => True) v cs ∧ ∃ d, ds[i]? = some d ∧ V.mass v ≤ Rows.uptoBulk d) :
    ∃ l ics, l.length = n ∧ VsC W (fun _ => True) l ics ∧ (∀ i, i < n → ∀ k, k < 5 → W.cell? ((a.add (i * 5)).add k) = ics[i * 5 + k]?) ∧ V.massL l ≤ Rows.uptoBulkAll (ds.take n) := by
  induction n with
  | zero => exact ⟨[], [], rfl, VsC.nil_, fun i hi => absurd hi (by omega), by simp [V.massL_nil]⟩
  | succ n ih =>
    obtain ⟨l, ics, h1, h2, h3, h4⟩ := ih fun i hi => h i (by omega)
    obtain ⟨cs, hc, v, hv, d, hd, hm⟩ := h n (by omega)
    have hl := h2.len
    have h5 := hv.len5
    refine ⟨l ++ [v], ics ++ cs, by simp [h1], VsC.app h2 (VsC.one hv), fun i hi k hk => ?_, ?_⟩
    · by_cases e : i = n
      · subst e
        rw [hc k hk, List.getElem?_append_right (by omega)]
        congr 1
        omega
      · rw [h3 i (by omega) k hk, List.getElem?_append_left (by omega)]
    · rw [List.take_add_one, hd, V.massL_app, V.massL_cons, V.massL_nil, bulk_app]
      simp only [Option.toList, Rows.uptoBulkAll]
      omega

theorem open_keysM {fuel : Nat} {c : Value} {x : DataW H × List MemPlace} (h : DataW.trod enc Try.prog W base sp hd fuel 22 [c] = some x) (hw : ∀ n ∈ x.1.weights Try.prog 22, n ≤ reachBytes) :
    ∃ ks : List ByteArray, RdN W (fun _ => True) 1 c ks.length (ks.map Value.string) ∧ (∀ s ∈ ks, s.size ≤ 9223372036854775807) ∧ ks.length * 16 ≤ 140737488351232 ∧ V.massK ks ≤ Rows.uptoBulk x.1 := by
  rcases open_slice1 Try.underlying22 cells9 h with ⟨hcs, _⟩ | ⟨a, len, cap, m, n, V, D, Pl, hcs, _, hl, hm, hmm, hx, hi⟩
  · simp at hcs
    subst hcs
    exact ⟨[], RdN.none_, by simp, by simp, by simp [V.massK]⟩
  · simp at hcs
    subst hcs
    have hlm : len ≤ m := by rw [hmm]; split <;> omega
    have hwt : len * 16 ≤ 140737488351232 := by
      have := hw ((len + (m - len)) * Try.prog.bytesOf 9) (by rw [hx]; simp [DataW.weights, Try.underlying22])
      rw [bytes9] at this
      simp only [reachBytes] at this
      omega
    have hs : ∀ i, ∃ s : ByteArray, i < len → W.cell? (a.add i) = some (.string s) ∧ s.size ≤ maxLen ∧ s.size + 1 ≤ Rows.uptoBulk (D i) := fun i => by
      by_cases hil : i < len
      · obtain ⟨h1, h2⟩ := hi i (by omega)
        obtain ⟨s, h3, h5, h4⟩ := DataW.trod_string Try.underlying9 h2
        simp at h3
        have h6 : D i = .lit (.string s.data.toList) := congrArg Prod.fst h5
        exact ⟨s, fun _ => ⟨by rw [h1, h3], h4, by rw [h6, bulk_str]; omega⟩⟩
      · exact ⟨⟨#[]⟩, fun h => absurd h hil⟩
    obtain ⟨s, hs⟩ := Classical.axiomOfChoice hs
    refine ⟨(List.range len).map s, ?_, ?_, by simpa using hwt, ?_⟩
    · refine ⟨some a, cap, by simp, by simpa using hl, hm, by simp, ?_⟩
      rcases Nat.eq_zero_or_pos len with h0 | h0
      · exact .inl (by simp [h0])
      · have hsp : a.spot = none := by
          have := (hs 0 h0).1
          have e : a.add 0 = a := by simp [Addr.add]
          rw [e] at this
          exact spot_none this
        obtain ⟨b, o, sp'⟩ := a
        subst hsp
        refine .inr ⟨b, o, rfl, trivial, fun j u hj => ?_⟩
        simp only [List.map_map, List.getElem?_map, Option.map_eq_some_iff] at hj
        obtain ⟨j', hj', rfl⟩ := hj
        have hjj := List.getElem?_eq_some_iff.1 hj'
        simp at hjj
        obtain ⟨hjl, rfl⟩ := hjj
        have := (hs j hjl).1
        rwa [addr_add] at this
    · intro t ht
      simp only [List.mem_map, List.mem_range] at ht
      obtain ⟨i, hi, rfl⟩ := ht
      have := (hs i hi).2.1
      unfold maxLen at this
      omega
    · have := massK_le (s := s) (D := D) (List.range len) (fun i hi => (hs i (by simpa using hi)).2.2)
      rw [hx]
      simp only [Rows.uptoBulk]
      omega

set_option maxRecDepth 100000 in
theorem open_VCM (fuel : Nat) : ∀ (cs : List Value) (x : DataW H × List MemPlace), DataW.trod enc Try.prog W base sp hd fuel 26 cs = some x → (∀ n ∈ x.1.weights Try.prog 26, n ≤ reachBytes) → ∃ v, VC W (fun _ => True) v cs ∧ V.mass v ≤ Rows.uptoBulk x.1 := by
  induction fuel using Nat.strongRecOn with
  | ind fuel ih =>
  intro cs x h hw
  obtain ⟨ys, n', hfuel, hx, hcl, hyl, hfs⟩ := DataW.trod_struct Try.underlying26 h
  rw [cells26] at hcl
  have e0 : DataW.trod enc Try.prog W base sp hd n' 3 ((cs.drop 0).take (Try.prog.cellsOf 3)) = ys[0]? := hfs 0 _ rfl
  have e1 : DataW.trod enc Try.prog W base sp hd n' 3 ((cs.drop 1).take (Try.prog.cellsOf 3)) = ys[1]? := hfs 1 _ rfl
  have e2 : DataW.trod enc Try.prog W base sp hd n' 9 ((cs.drop 2).take (Try.prog.cellsOf 9)) = ys[2]? := hfs 2 _ rfl
  have e3 : DataW.trod enc Try.prog W base sp hd n' 23 ((cs.drop 3).take (Try.prog.cellsOf 23)) = ys[3]? := hfs 3 _ rfl
  have e4 : DataW.trod enc Try.prog W base sp hd n' 22 ((cs.drop 4).take (Try.prog.cellsOf 22)) = ys[4]? := hfs 4 _ rfl
  rw [cells3] at e0 e1
  rw [cells9] at e2
  rw [cells23] at e3
  rw [cells22] at e4
  match cs, hcl with
  | [c0, c1, c2, c3, c4], _ =>
    match ys, hyl with
    | [y0, y1, y2, y3, y4], _ =>
      simp at e0 e1 e2 e3 e4
      have hwx : ∀ n ∈ DataW.weightsEach Try.prog [3, 3, 9, 23, 22] [y0.1, y1.1, y2.1, y3.1, y4.1], n ≤ reachBytes := fun n hn => hw n (by rw [hx]; simpa [DataW.weights, Try.underlying26] using hn)
      obtain ⟨k, hk, _, wk⟩ := DataW.trod_int Try.underlying3 e0
      obtain ⟨n, hn, _, wn⟩ := DataW.trod_int Try.underlying3 e1
      obtain ⟨s, hs, hy2, ws⟩ := DataW.trod_string Try.underlying9 e2
      simp at hk hn hs
      subst hk hn hs
      obtain ⟨ks, hks, hk1, hk2, hk3⟩ := open_keysM e4 (fun n hn => hwx n (by simp only [DataW.weightsEach, List.mem_append]; exact .inr (.inr (.inr (.inr (.inl hn))))))
      have hw3 : ∀ n ∈ y3.1.weights Try.prog 23, n ≤ reachBytes := fun n hn => hwx n (by simp only [DataW.weightsEach, List.mem_append]; exact .inr (.inr (.inr (.inl hn))))
      have hok : Ok k n s ks := by
        simp [Lit.wf, IntKind.min, IntKind.max, IntKind.signed, IntKind.bits] at wk wn
        unfold maxLen at ws
        exact ⟨by omega, by omega, by omega, by omega, by omega, hk1, hk2⟩
      have hy2' : y2.1 = .lit (.string s.data.toList) := by rw [hy2]
      have hbx : Rows.uptoBulk x.1 = Rows.uptoBulk y0.1 + (Rows.uptoBulk y1.1 + (s.size + 1 + (Rows.uptoBulk y3.1 + (Rows.uptoBulk y4.1 + 0)))) + 1 := by
        rw [hx]
        simp only [List.map_cons, List.map_nil, Rows.uptoBulk, Rows.uptoBulkAll, hy2', bulk_len]
      rcases DataW.trod_slice Try.underlying23 e3 with ⟨hcs, _⟩ | ⟨a, len, cap, elems, rest, n2, hf2, hcs, hx3, _, hl, hm, hel, hi, _, _⟩
      · simp at hcs
        subst hcs
        exact ⟨.mk k n s [] ks, by rw [VC_mk]; exact ⟨_, _, [], rfl, hok, RdN.none_, VsC.nil_, hks⟩, by rw [V.mass_mk, V.massL_nil]; omega⟩
      · simp at hcs
        subst hcs
        have each : ∀ i, i < len → ∃ cs : List Value, (∀ k, k < 5 → W.cell? ((a.add (i * 5)).add k) = cs[k]?) ∧ ∃ v, VC W (fun _ => True) v cs ∧ ∃ d, (elems.map (·.1))[i]? = some d ∧ V.mass v ≤ Rows.uptoBulk d := fun i hil => by
          have hb := hi i hil
          rw [cells26] at hb
          have hlt : i < elems.length := by omega
          rw [List.getElem?_eq_getElem hlt] at hb
          obtain ⟨cs', hc, ht⟩ := Option.bind_eq_some_iff.1 hb
          obtain ⟨_, hcl', hat⟩ := World.cells?_some hc
          refine ⟨cs', fun k hk => ?_, ?_⟩
          · exact hat k (by omega)
          · obtain ⟨v, hv, hmv⟩ := ih n2 (by omega) cs' _ ht fun m hm => by
              refine hw3 m ?_
              rw [hx3]
              simp only [DataW.weights, Try.underlying23, List.mem_cons, List.mem_append]
              exact .inr (.inl (weights_all (List.mem_map.2 ⟨_, List.getElem_mem hlt, rfl⟩) m hm))
            exact ⟨v, hv, _, by rw [List.getElem?_map, List.getElem?_eq_getElem hlt]; rfl, hmv⟩
        obtain ⟨l, ics, hll, hvs, hat, hml⟩ := each_valsM (elems.map (·.1)) len each
        have hb3 : Rows.uptoBulkAll (elems.map (·.1)) + 1 ≤ Rows.uptoBulk y3.1 := by
          rw [hx3]
          simp only [Rows.uptoBulk]
          omega
        rw [List.take_of_length_le (by simp; omega)] at hml
        have hil := hvs.len
        refine ⟨.mk k n s l ks, ?_, by rw [V.mass_mk]; omega⟩
        rw [VC_mk]
        refine ⟨_, _, ics, rfl, hok, ?_, hvs, hks⟩
        refine ⟨some a, cap, by rw [hll], by omega, hm, hil, ?_⟩
        rcases Nat.eq_zero_or_pos len with h0 | h0
        · exact .inl (by omega)
        · have hsp : a.spot = none := by
            have := hat 0 h0 0 (by omega)
            have e : (a.add (0 * 5)).add 0 = a := by simp [Addr.add]
            rw [e, List.getElem?_eq_getElem (by omega)] at this
            exact spot_none this
          obtain ⟨b, o, sp'⟩ := a
          subst hsp
          refine .inr ⟨b, o, rfl, trivial, fun j u hj => ?_⟩
          have hjl : j < ics.length := (List.getElem?_eq_some_iff.1 hj).1
          have := hat (j / 5) (by omega) (j % 5) (by omega)
          rw [addr_add, addr_add, show j / 5 * 5 + j % 5 = j by omega, show o + j / 5 * 5 + j % 5 = o + j by omega, hj] at this
          exact this

set_option maxRecDepth 100000 in
theorem open_valueM {base' : Nat} {r : Reach} {v : Value} {d : DataW H} {ps : List MemPlace} (hval : Value.okWide Try.prog W r base' 26 v) (h : DataW.Trod enc Try.prog W base sp hd 26 v d ps) (hw : ∀ n ∈ d.weights Try.prog 26, n ≤ reachBytes) :
    ∃ x : V, VA W (fun _ => True) v x ∧ V.mass x ≤ Rows.uptoBulk d := by
  obtain ⟨fuel, hf⟩ := h
  obtain ⟨x, hx, hm⟩ := open_VCM fuel _ _ hf hw
  have : ∃ cs, v = .agg cs := by
    unfold Value.okWide at hval
    rw [Try.underlying26] at hval
    obtain ⟨cs, h, _⟩ := hval
    exact ⟨cs, h⟩
  obtain ⟨cs, rfl⟩ := this
  exact ⟨x, ⟨cs.toList, by simp, by simpa [Value.cells] using hx⟩, hm⟩
end
end Go.Proofs.Ytpoofeiajmkfdaa
