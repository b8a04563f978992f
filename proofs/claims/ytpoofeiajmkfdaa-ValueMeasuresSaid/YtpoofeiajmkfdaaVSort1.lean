/-
  Sorted lists of pairs, plain: what a permutation that is sorted by its keys is. It imports nothing of the program.
-/
import Derived.Test.YtpoofeiajmkfdaaVOrd
namespace Go.Proofs.Ytpoofeiajmkfdaa

/-- A permutation of an image is the image of a permutation. -/
theorem perm_map {α β : Type} {f : α → β} {a b : List β} (h : a.Perm b) : ∀ ys : List α, b = ys.map f → ∃ zs : List α, zs.Perm ys ∧ zs.map f = a := by
  induction h with
  | nil =>
    intro ys e
    have : ys = [] := List.map_eq_nil_iff.1 e.symm
    subst this
    exact ⟨[], .nil, rfl⟩
  | cons x h ih =>
    intro ys e
    cases ys with
    | nil => simp at e
    | cons y ys =>
      simp only [List.map_cons, List.cons.injEq] at e
      obtain ⟨zs, h1, h2⟩ := ih ys e.2
      exact ⟨y :: zs, .cons y h1, by simp [h2, e.1]⟩
  | swap x y l =>
    intro ys e
    match ys, e with
    | p :: q :: ys, e =>
      simp only [List.map_cons, List.cons.injEq] at e
      exact ⟨q :: p :: ys, List.Perm.swap p q ys, by simp [e.1, e.2.1, e.2.2]⟩
    | [], e => simp at e
    | [_], e => simp at e
  | trans h1 h2 ih1 ih2 =>
    intro ys e
    obtain ⟨zs, p1, q1⟩ := ih2 ys e
    obtain ⟨us, p2, q2⟩ := ih1 zs q1.symm
    exact ⟨us, p2.trans p1, q2⟩

abbrev KV := ByteArray × V

/-- Strictly ascending keys. -/
def Asc (zs : List KV) : Prop := zs.Pairwise fun a b => V.lt a.1 b.1 = true

theorem Asc.mem_lt {z : KV} {zs : List KV} (h : Asc (z :: zs)) : ∀ y ∈ zs, V.lt z.1 y.1 = true := (List.pairwise_cons.1 h).1
theorem Asc.tail {z : KV} {zs : List KV} (h : Asc (z :: zs)) : Asc zs := (List.pairwise_cons.1 h).2

/-- Two ascending lists of the same pairs are one. -/
theorem Asc.unique : ∀ {xs ys : List KV}, Asc xs → Asc ys → xs.Perm ys → xs = ys
  | [], ys, _, _, h => (List.Perm.nil_eq h)
  | x :: xs, [], _, _, h => by have := h.length_eq; simp at this
  | x :: xs, y :: ys, hx, hy, h => by
    have e : x = y := by
      have m1 : x ∈ y :: ys := h.subset (by simp)
      have m2 : y ∈ x :: xs := h.symm.subset (by simp)
      rcases List.mem_cons.1 m1 with e | m1
      · exact e
      · rcases List.mem_cons.1 m2 with e | m2
        · exact e.symm
        · have a := hy.mem_lt x m1
          have b := hx.mem_lt y m2
          have := V.lt_asymm a
          rw [b] at this
          cases this
    subst e
    rw [Asc.unique hx.tail hy.tail (List.Perm.cons_inv h)]

/-- One pair put into its place. -/
def insK (z : KV) : List KV → List KV
  | [] => [z]
  | y :: ys => if V.lt z.1 y.1 = true then z :: y :: ys else y :: insK z ys
def srtK (zs : List KV) : List KV := zs.foldr insK []

theorem insK_perm (z : KV) : ∀ ys, (insK z ys).Perm (z :: ys)
  | [] => .refl _
  | y :: ys => by
    unfold insK
    split
    · exact .refl _
    · exact ((insK_perm z ys).cons y).trans (List.Perm.swap z y ys)
theorem srtK_perm : ∀ zs, (srtK zs).Perm zs
  | [] => .refl _
  | z :: zs => (insK_perm z (srtK zs)).trans ((srtK_perm zs).cons z)
theorem insK_asc (z : KV) : ∀ ys, Asc ys → (∀ y ∈ ys, y.1 ≠ z.1) → Asc (insK z ys)
  | [], _, _ => by simp [insK, Asc]
  | y :: ys, h, hn => by
    unfold insK
    split
    · rename_i hlt
      refine List.pairwise_cons.2 ⟨fun u hu => ?_, h⟩
      rcases List.mem_cons.1 hu with rfl | hu
      · exact hlt
      · exact V.lt_trans hlt (h.mem_lt u hu)
    · rename_i hlt
      refine List.pairwise_cons.2 ⟨fun u hu => ?_, insK_asc z ys h.tail (fun u hu => hn u (by simp [hu]))⟩
      rcases List.mem_cons.1 ((insK_perm z ys).subset hu) with rfl | hu
      · cases e : V.lt y.1 u.1 with
        | true => rfl
        | false => exact absurd (V.lt_total e (by simpa using hlt)) (hn y (by simp))
      · exact h.mem_lt u hu
theorem srtK_asc : ∀ zs : List KV, (zs.map Prod.fst).Nodup → Asc (srtK zs)
  | [], _ => List.Pairwise.nil
  | z :: zs, h => by
    simp only [List.map_cons, List.nodup_cons] at h
    refine insK_asc z (srtK zs) (srtK_asc zs h.2) fun y hy e => h.1 ?_
    rw [← e]
    exact List.mem_map.2 ⟨y, (srtK_perm zs).subset hy, rfl⟩

/-- A list that is ascending place by place. -/
theorem asc_of_steps : ∀ (zs : List KV), (∀ i (h : i + 1 < zs.length), V.lt zs[i].1 zs[i + 1].1 = true) → Asc zs
  | [], _ => List.Pairwise.nil
  | [z], _ => List.pairwise_singleton _ _
  | z :: y :: zs, h => by
    have ih := asc_of_steps (y :: zs) (fun i hi => h (i + 1) (by simpa using hi))
    refine List.pairwise_cons.2 ⟨fun u hu => ?_, ih⟩
    have h0 : V.lt z.1 y.1 = true := h 0 (by simp)
    rcases List.mem_cons.1 hu with rfl | hu
    · exact h0
    · exact V.lt_trans h0 (ih.mem_lt u hu)
theorem Asc.nodup {zs : List KV} (h : Asc zs) : (zs.map Prod.fst).Nodup := by
  induction zs with
  | nil => simp
  | cons z zs ih =>
    simp only [List.map_cons, List.nodup_cons]
    refine ⟨fun hm => ?_, ih h.tail⟩
    obtain ⟨y, hy, e⟩ := List.mem_map.1 hm
    have := h.mem_lt y hy
    rw [e, V.lt_irrefl] at this
    cases this

/-- What a permutation sorted by 'not less' is, once its neighbours differ; and that two equal neighbours are two equal keys. -/
theorem sorted_srtK {zs ys : List KV} (hp : zs.Perm ys) (hs : ∀ i j (hij : i < j) (h : j < zs.length), V.lt zs[j].1 (zs[i]'(Nat.lt_trans hij h)).1 = false) (hne : ∀ i (h : i + 1 < zs.length), zs[i].1 ≠ zs[i + 1].1) :
    zs = srtK ys ∧ (ys.map Prod.fst).Nodup := by
  have ha : Asc zs := asc_of_steps zs fun i h => by
    cases e : V.lt zs[i].1 zs[i + 1].1 with
    | true => rfl
    | false => exact absurd (V.lt_total e (hs i (i + 1) (by omega) h)) (hne i h)
  have hn : (ys.map Prod.fst).Nodup := ((hp.map Prod.fst).nodup_iff).1 ha.nodup
  exact ⟨ha.unique (srtK_asc ys hn) (hp.trans (srtK_perm ys).symm), hn⟩
theorem not_nodup {zs ys : List KV} (hp : zs.Perm ys) {i : Nat} (h : i + 1 < zs.length) (e : zs[i].1 = zs[i + 1].1) : ¬ (ys.map Prod.fst).Nodup := by
  intro hn
  have hn' := ((hp.map Prod.fst).nodup_iff).2 hn
  rw [List.nodup_iff_pairwise_ne, List.pairwise_iff_getElem] at hn'
  exact hn' i (i + 1) (by simp; omega) (by simpa using h) (by omega) (by simpa using e)

def kvV (zs : List KV) : V := .mk 5 0 ⟨#[]⟩ (zs.map Prod.snd) (zs.map Prod.fst)
/-- Map, of either side: the value and the error. -/
def mapV (ks : List ByteArray) (l : List V) : V × Int :=
  if ks.length ≠ l.length then (.mk 0 0 ⟨#[]⟩ [] [], 6) else if ¬ ks.Nodup then (.mk 0 0 ⟨#[]⟩ [] [], 9) else if V.within (kvV (srtK (ks.zip l))) = true then (kvV (srtK (ks.zip l)), 0) else (.mk 0 0 ⟨#[]⟩ [] [], 6)
end Go.Proofs.Ytpoofeiajmkfdaa
