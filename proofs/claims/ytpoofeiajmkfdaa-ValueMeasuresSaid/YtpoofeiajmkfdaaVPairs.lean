/-
  sortedPairs of the program: contract.
-/
import Derived.Test.YtpoofeiajmkfdaaVSort2
import Derived.Test.YtpoofeiajmkfdaaVFits2
namespace Go.Proofs.Ytpoofeiajmkfdaa
open Go.RowKit

theorem Try.info67 : (Try.prog.info? 67).map (fun i => (i.zero, i.size, i.bytes)) = some (some (.agg #[.string ⟨#[]⟩, .int .i64 0, .int .i64 0, .string ⟨#[]⟩, .slice none 0 0, .slice none 0 0]), 6, 96) := by kernel_rfl
theorem make67 (n : Nat) (hn : n ≤ 1099511627776) : ∃ Z : Array Value, Z.size = n * 6 ∧ ∀ w : World, (Instr.makeSlice 64 (.int .i64 (n : Int)) (.int .i64 (n : Int))).run Try.prog w = .ok (.slice (some ⟨w.heap.size, 0, none⟩) n n) (w.alloc (.cells Z 67)) := by
  obtain ⟨i0, hi, hz0, hz1, hz2⟩ := info_parts Try.info67
  refine ⟨madeCells (Value.cells (.agg #[.string ⟨#[]⟩, .int .i64 0, .int .i64 0, .string ⟨#[]⟩, .slice none 0 0, .slice none 0 0])) (n * i0.size), by rw [size_madeCells, hz1], fun w => ?_⟩
  exact run_make_rowN 64 67 i0 _ Try.underlying64 hi hz0 .i64 .i64 n n (Nat.le_refl _) (by rw [hz2]; omega) (by omega) w

/-- The items' cells as data. -/
theorem VsC.data {w : World} {S : Nat → Prop} : ∀ {l : List V} {ics : List Value}, VsC w S l ics → ∃ ds : List ID, ds.length = l.length ∧ ics = ds.flatMap encI ∧ ∀ i (h : i < l.length) (h' : i < ds.length), VC w S l[i] (encI ds[i])
  | [], ics, h => by rw [VsC_nil] at h; exact ⟨[], rfl, h, fun i h => absurd h (by simp)⟩
  | v :: l, ics, h => by
    rw [VsC_cons] at h
    obtain ⟨c1, c2, rfl, h1, h2⟩ := h
    obtain ⟨ds, e1, rfl, e3⟩ := VsC.data h2
    obtain ⟨k, n, s, A, m, c, A', m', c', rfl⟩ := h1.form
    refine ⟨(k, n, s, (A, m, c), (A', m', c')) :: ds, by simp [e1], by simp [encI], fun i hi hi' => ?_⟩
    cases i with
    | zero => exact h1
    | succ i => exact e3 i (by simpa using hi) (by simpa using hi')

theorem get!_eq (l : List Value) (c : Nat) (h : c < l.length) : l[c]! = l[c] := getElem!_pos l c h
theorem getP!_eq (l : List PD) (c : Nat) (h : c < l.length) : l[c]! = l[c] := getElem!_pos l c h
theorem flat6 : ∀ (xs : List PD) (i c : Nat) (hi : i < xs.length) (_hc : c < 6), (xs.flatMap encD)[i * 6 + c]? = (encD xs[i])[c]?
  | [], i, c, hi, _ => absurd hi (by simp)
  | x :: xs, 0, c, _, hc => by
    rw [List.flatMap_cons, List.getElem?_append_left (by rw [encD_len]; omega)]; simp
  | x :: xs, i + 1, c, hi, hc => by
    have ih := flat6 xs i c (by simpa using hi) hc
    rw [List.flatMap_cons, List.getElem?_append_right (by rw [encD_len]; omega), encD_len]
    rw [show (i + 1) * 6 + c - 6 = i * 6 + c by omega, ih]
    simp
theorem flat6_len : ∀ xs : List PD, (xs.flatMap encD).length = xs.length * 6
  | [] => rfl
  | x :: xs => by rw [List.flatMap_cons, List.length_append, flat6_len xs, encD_len]; simp; omega

theorem set6 (cs tail : List Value) (t0 t1 t2 t3 t4 t5 c0 c1 c2 c3 c4 c5 : Value) (i : Nat) (h : cs.length = i * 6) :
    ((((((cs ++ t0 :: t1 :: t2 :: t3 :: t4 :: t5 :: tail).set (i * 6) c0).set (i * 6 + 1) c1).set (i * 6 + 2) c2).set (i * 6 + 3) c3).set (i * 6 + 4) c4).set (i * 6 + 5) c5 = cs ++ [c0, c1, c2, c3, c4, c5] ++ tail := by
  rw [← h]
  have e : ∀ (j : Nat) (xs : List Value) (u : Value), (cs ++ xs).set (cs.length + j) u = cs ++ xs.set j u := by
    intro j xs u
    rw [List.set_append_right _ _ (by omega)]
    congr 2
    omega
  have e0 := e 0
  simp only [Nat.add_zero] at e0
  rw [e0, e, e, e, e, e]
  simp

/-- A row of n pairs at block g, the first i of them filled. -/
def PartP (w0 wr : World) (g n : Nat) (xs : List PD) (i : Nat) : Prop :=
  ∃ tail, wr.ownsRow w0.heap.size 67 6 (.slice (some ⟨g, 0, none⟩) n n) n ((xs.take i).flatMap encD ++ tail) ∧ w0.heap.size ≤ g ∧ Below w0.heap.size w0 wr

section
variable {w0 wr w1 : World} {g n i : Nat} {xs : List PD}
theorem PartP.start (w : World) (n : Nat) (xs : List PD) (hn : n ≤ 1099511627776) (Z : Array Value) (hZ : Z.size = n * 6) : PartP w (w.alloc (.cells Z 67)) w.heap.size n xs 0 := by
  refine ⟨Z.toList, ?_, Nat.le_refl _, below_box _⟩
  exact World.ownsRow_lit w _ n (Nat.le_refl _) (by unfold maxLen; omega) hZ
theorem PartP.below (h : PartP w0 wr g n xs i) : Below w0.heap.size w0 wr := by obtain ⟨_, _, _, h⟩ := h; exact h
theorem PartP.ge (h : PartP w0 wr g n xs i) : w0.heap.size ≤ g := by obtain ⟨_, _, h, _⟩ := h; exact h
theorem PartP.lt (h : PartP w0 wr g n xs i) : g < wr.heap.size := by
  obtain ⟨tail, h1, _⟩ := h
  exact (World.ownsRow.lt h1 g rfl).2
theorem PartP.spare (h : PartP w0 wr g n xs i) (hi : i < n) : ∃ t0 t1 t2 t3 t4 t5, wr.cell? ⟨g, i * 6, none⟩ = some t0 ∧ wr.cell? ⟨g, i * 6 + 1, none⟩ = some t1 ∧ wr.cell? ⟨g, i * 6 + 2, none⟩ = some t2 ∧ wr.cell? ⟨g, i * 6 + 3, none⟩ = some t3 ∧ wr.cell? ⟨g, i * 6 + 4, none⟩ = some t4 ∧ wr.cell? ⟨g, i * 6 + 5, none⟩ = some t5 ∧ ∀ j, wr.frozen? ⟨g, j, none⟩ = false := by
  obtain ⟨tail, h1, _⟩ := h
  have hlen := h1.1
  have hc : ∀ j, j < 6 → ∃ t, wr.cell? ⟨g, i * 6 + j, none⟩ = some t := fun j hj => by
    rw [World.ownsRow.cellAt h1 (i * 6 + j) (by omega)]
    exact ⟨_, List.getElem?_eq_getElem (by omega)⟩
  obtain ⟨t0, q0⟩ := hc 0 (by omega)
  obtain ⟨t1, q1⟩ := hc 1 (by omega)
  obtain ⟨t2, q2⟩ := hc 2 (by omega)
  obtain ⟨t3, q3⟩ := hc 3 (by omega)
  obtain ⟨t4, q4⟩ := hc 4 (by omega)
  obtain ⟨t5, q5⟩ := hc 5 (by omega)
  exact ⟨t0, t1, t2, t3, t4, t5, q0, q1, q2, q3, q4, q5, fun j => World.ownsRow.frozenAt h1 j⟩

def put6 (w : World) (g o : Nat) (c0 c1 c2 c3 c4 c5 : Value) : World :=
  (((((w.setCell ⟨g, o, none⟩ c0).setCell ⟨g, o + 1, none⟩ c1).setCell ⟨g, o + 2, none⟩ c2).setCell ⟨g, o + 3, none⟩ c3).setCell ⟨g, o + 4, none⟩ c4).setCell ⟨g, o + 5, none⟩ c5

theorem PartP.next {c0 c1 c2 c3 c4 c5 : Value} (h : PartP w0 wr g n xs i) (hn : n = xs.length) (hi : i < n) (he : encD (xs[i]'(by omega)) = [c0, c1, c2, c3, c4, c5]) : PartP w0 (put6 wr g (i * 6) c0 c1 c2 c3 c4 c5) g n xs (i + 1) := by
  obtain ⟨tail, h1, h3, h4⟩ := h
  have hl := flat6_len (xs.take i)
  rw [List.length_take, Nat.min_eq_left (by omega)] at hl
  have hlen := h1.1
  rw [List.length_append, hl] at hlen
  obtain ⟨t0, t1, t2, t3, t4, t5, tail', rfl⟩ : ∃ t0 t1 t2 t3 t4 t5 tail', tail = t0 :: t1 :: t2 :: t3 :: t4 :: t5 :: tail' := by
    match tail, hlen with
    | t0 :: t1 :: t2 :: t3 :: t4 :: t5 :: tail', _ => exact ⟨t0, t1, t2, t3, t4, t5, tail', rfl⟩
    | [], h => simp at h; omega
    | [_], h => simp at h; omega
    | [_, _], h => simp at h; omega
    | [_, _, _], h => simp at h; omega
    | [_, _, _, _], h => simp at h; omega
    | [_, _, _, _, _], h => simp at h; omega
  have s0 := (World.ownsRow.stored h1 (i * 6) c0)
  have s1 := (World.ownsRow.stored s0.1 (i * 6 + 1) c1)
  have s2 := (World.ownsRow.stored s1.1 (i * 6 + 2) c2)
  have s3 := (World.ownsRow.stored s2.1 (i * 6 + 3) c3)
  have s4 := (World.ownsRow.stored s3.1 (i * 6 + 4) c4)
  have s5 := (World.ownsRow.stored s4.1 (i * 6 + 5) c5)
  have hrow := s5.1
  rw [set6 _ tail' t0 t1 t2 t3 t4 t5 c0 c1 c2 c3 c4 c5 i hl] at hrow
  refine ⟨tail', ?_, h3, ?_⟩
  · rw [take_succ_l xs i (by omega), List.flatMap_append, List.flatMap_singleton, he]
    exact hrow
  · exact (((((h4.setCell (p := ⟨g, i * 6, none⟩) h3 _).setCell (p := ⟨g, i * 6 + 1, none⟩) h3 _).setCell (p := ⟨g, i * 6 + 2, none⟩) h3 _).setCell (p := ⟨g, i * 6 + 3, none⟩) h3 _).setCell (p := ⟨g, i * 6 + 4, none⟩) h3 _).setCell (p := ⟨g, i * 6 + 5, none⟩) h3 _

theorem PartP.holds (h : PartP w0 wr g n xs i) (hn : n = xs.length) (hi : ¬ i < n) : Go.Sort.HoldsK encD 6 wr g 0 xs.toArray := by
  obtain ⟨tail, h1, _⟩ := h
  have ht : xs.take i = xs := List.take_of_length_le (by omega)
  rw [ht] at h1
  have hlen := h1.1
  rw [List.length_append, flat6_len] at hlen
  have : tail = [] := List.eq_nil_of_length_eq_zero (by omega)
  subst this
  rw [List.append_nil] at h1
  intro j hj
  rw [Go.Sort.size_flatK, List.size_toArray] at hj
  have hq : j / 6 < xs.length := by omega
  refine ⟨?_, World.ownsRow.frozenAt h1 _⟩
  rw [World.ownsRow.cellAt h1 _ (by omega), Nat.zero_add, Go.Sort.get_flatK _ _ _ _ (by simpa using hj)]
  have e : j = j / 6 * 6 + j % 6 := by omega
  have := flat6 xs (j / 6) (j % 6) hq (by omega)
  rw [← e] at this
  rw [this]
  simp only [List.getElem!_toArray, id]
  rw [getP!_eq xs (j / 6) hq]
  have hl6 : j % 6 < (encD xs[j / 6]).length := by rw [encD_len]; omega
  rw [List.getElem?_eq_getElem hl6, get!_eq _ _ hl6]
end

/-- What sortedPairs leaves. -/
def SortedPost (w : World) (S : Nat → Prop) (ks : List ByteArray) (l : List V) (e : Ending) (w' : World) : Prop :=
  ∃ (g : Nat) (ps : List (PD × V)), e = .returned (.slice (some ⟨g, 0, none⟩) ks.length ks.length) ∧ w.heap.size ≤ g ∧ ps.length = ks.length ∧
    (∀ i (h : i < ps.length) (c : Nat), c < 6 → w'.cell? ⟨g, i * 6 + c, none⟩ = (encD ps[i].1)[c]?) ∧ (∀ p ∈ ps, VC w' S p.2 (encI p.1.2)) ∧ (ps.map fun p => ((p.1.1, p.2) : KV)).Perm (ks.zip l) ∧
    (∀ i j (hij : i < j) (h : j < ps.length), V.lt ps[j].1.1 (ps[i]'(Nat.lt_trans hij h)).1.1 = false) ∧ Below w.heap.size w w'

theorem ch_sorted (w : World) (g n : Nat) (d : Array PD) (os : Array Obj) : Ch g w (Go.Proofs.sortWorldK encD 6 w g 0 n d os) := by
  unfold Go.Proofs.sortWorldK Go.Sort.putRowK
  refine ⟨rfl, rfl, rfl, ?_, fun k hk hne => ?_⟩
  · simp [Go.Sort.putRow, Go.Sort.mapBlock, Go.Sort.ahead]
  · rw [Go.Sort.heap_grow_old _ _ (by simpa [Go.Sort.putRow, Go.Sort.mapBlock, Go.Sort.ahead] using hk)]
    have : g ≠ k := fun e => hne (by rw [e])
    simp [Go.Sort.putRow, Go.Sort.mapBlock, Go.Sort.ahead, Array.getElem?_modify, this]

/-- What the sort makes of a filled row. -/
theorem sorted_post {w0 wr : World} {S : Nat → Prop} {ks : List ByteArray} {l : List V} {ds : List ID} {g : Nat} (hlen : ks.length = l.length) (hd : ds.length = l.length)
    (hv : ∀ i (h : i < l.length) (h' : i < ds.length), VC wr S l[i] (encI ds[i])) (hS : ∀ b, S b → b ≠ g) (hg : w0.heap.size ≤ g) (hb : Below w0.heap.size w0 wr) (hH : Go.Sort.HoldsK encD 6 wr g 0 (ks.zip ds).toArray) (hlt : g < wr.heap.size)
    {d' : Array PD} {n : Nat} {os : Array Obj} (hp : Go.Sort.PermIn 0 (ks.zip ds).toArray.size (ks.zip ds).toArray d') (hs : Go.Sort.SortedIn (Go.Proofs.ltOf cfD) 0 (ks.zip ds).toArray.size d') :
    SortedPost w0 S ks l (.returned (.slice (some ⟨g, 0, none⟩) ks.length ks.length)) (Go.Proofs.sortWorldK encD 6 wr g 0 n d' os) := by
  have hzl : (ks.zip ds).length = ks.length := by simp; omega
  obtain ⟨p1, _, p3⟩ := hp
  have hsz : (ks.zip ds).toArray.size = ks.length := hzl
  rw [hsz] at p1 p3 hs
  have p4 : d'.toList.Perm (ks.zip ds) := by
    have e1 : d'.extract 0 ks.length = d' := by rw [← p1]; simp
    have e2 : (ks.zip ds).toArray.extract 0 ks.length = (ks.zip ds).toArray := by rw [← hsz]; exact Array.extract_size
    rw [e1, e2] at p3
    exact p3
  -- each pair beside its value
  have hmap : ((ks.zip ds).zip l).map Prod.fst = ks.zip ds := List.map_fst_zip (by rw [hzl]; omega)
  obtain ⟨ps, q1, q2⟩ := perm_map p4 ((ks.zip ds).zip l) hmap.symm
  have hpl : ps.length = ks.length := by rw [q1.length_eq]; simp; omega
  have hch := ch_sorted wr g n d' os
  have hHd := Go.Proofs.holdsK_sortWorldK_c encD 6 wr g 0 _ d' n os hH hlt (by rw [p1, List.size_toArray, hzl])
  have hget : ∀ i (h : i < ps.length), d'[i]! = ps[i].1 := fun i h => by
    have : d'.toList[i]? = (ps.map Prod.fst)[i]? := by rw [q2]
    rw [List.getElem?_map, List.getElem?_eq_getElem h, Array.getElem?_toList] at this
    have h' : i < d'.size := by omega
    rw [getElem!_pos d' i h']
    rw [Array.getElem?_eq_getElem h'] at this
    simpa using this
  refine ⟨g, ps, rfl, hg, hpl, fun i h c hc => ?_, fun p hpm => ?_, ?_, fun i j hij h => ?_, ?_⟩
  · have := (Go.Sort.HoldsK.cell hHd (i := i) (c := c) (by omega) hc).1
    rw [hget i h, Nat.zero_add] at this
    rw [this]
    have hl6 : c < (encD ps[i].1).length := by rw [encD_len]; exact hc
    rw [List.getElem?_eq_getElem hl6, get!_eq _ _ hl6]
  · have hm : p ∈ (ks.zip ds).zip l := q1.subset hpm
    obtain ⟨i, hi, e⟩ := List.getElem_of_mem hm
    have hi' : i < l.length := by simp at hi; omega
    have hi2 : i < ds.length := by omega
    rw [List.getElem_zip, List.getElem_zip] at e
    subst e
    exact VC.keep (fun _ h _ => h) (keepCh hch hS) _ _ (hv i hi' hi2)
  · have e : ((ks.zip ds).zip l).map (fun p => ((p.1.1, p.2) : KV)) = ks.zip l := by
      refine List.ext_getElem (by simp; omega) fun i h1 h2 => ?_
      simp [List.getElem_zip]
    rw [← e]
    exact q1.map _
  · have := hs i j (Nat.zero_le _) hij (by omega)
    rw [hget i (Nat.lt_trans hij h), hget j h, ltD] at this
    exact this
  · exact hb.trans (hch.below hg hb.size)
end Go.Proofs.Ytpoofeiajmkfdaa
