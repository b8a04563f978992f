/-
  What 'spoil' changes: numbers become 99, strings become another string, in memory of S alone.
-/
import Derived.Test.YtpoofeiajmkfdaaVCopyS
namespace Go.Proofs.Ytpoofeiajmkfdaa
open Go.RowKit

/-- A cell before and behind. -/
def SimV (u u' : Value) : Prop := u' = u ∨ (∃ a, u = .int .i64 a ∧ u' = .int .i64 99) ∨ (∃ a, u = .string a ∧ u' = .string ⟨#[115, 112, 111, 105, 108, 116]⟩)
theorem SimV.refl (u : Value) : SimV u u := .inl rfl
theorem SimV.int_ {a : Int} {u : Value} (h : SimV (.int .i64 a) u) (h1 : -9223372036854775808 ≤ a) (h2 : a ≤ 9223372036854775807) : ∃ b, u = .int .i64 b ∧ -9223372036854775808 ≤ b ∧ b ≤ 9223372036854775807 := by
  rcases h with rfl | ⟨_, _, rfl⟩ | ⟨_, h, _⟩
  · exact ⟨a, rfl, h1, h2⟩
  · exact ⟨99, rfl, by omega, by omega⟩
  · cases h
theorem SimV.str_ {a : ByteArray} {u : Value} (h : SimV (.string a) u) (h1 : a.size ≤ 9223372036854775807) : ∃ b : ByteArray, u = .string b ∧ b.size ≤ 9223372036854775807 := by
  rcases h with rfl | ⟨_, h, _⟩ | ⟨_, _, rfl⟩
  · exact ⟨a, rfl, h1⟩
  · cases h
  · exact ⟨_, rfl, by decide⟩
theorem SimV.slice_ {A : Option Addr} {n c : Nat} {u : Value} (h : SimV (.slice A n c) u) : u = .slice A n c := by
  rcases h with rfl | ⟨_, h, _⟩ | ⟨_, h, _⟩
  · rfl
  · cases h
  · cases h
theorem SimV.trans {a b c : Value} (h : SimV a b) (k : SimV b c) : SimV a c := by
  rcases h with rfl | ⟨x, rfl, rfl⟩ | ⟨x, rfl, rfl⟩
  · exact k
  · rcases k with rfl | ⟨_, _, rfl⟩ | ⟨_, h, _⟩
    · exact .inr (.inl ⟨x, rfl, rfl⟩)
    · exact .inr (.inl ⟨x, rfl, rfl⟩)
    · cases h
  · rcases k with rfl | ⟨_, h, _⟩ | ⟨_, _, rfl⟩
    · exact .inr (.inr ⟨x, rfl, rfl⟩)
    · cases h
    · exact .inr (.inr ⟨x, rfl, rfl⟩)

inductive SimL : List Value → List Value → Prop where
  | nil : SimL [] []
  | cons {u u' : Value} {l l' : List Value} : SimV u u' → SimL l l' → SimL (u :: l) (u' :: l')
theorem SimL.length : ∀ {l l' : List Value}, SimL l l' → l'.length = l.length
  | _, _, .nil => rfl
  | _, _, .cons _ h => by simp [h.length]
theorem SimL.split : ∀ {a b c : List Value}, SimL (a ++ b) c → ∃ c1 c2, c = c1 ++ c2 ∧ SimL a c1 ∧ SimL b c2
  | [], b, c, h => ⟨[], c, rfl, .nil, h⟩
  | x :: a, b, _, .cons hx h => by
    obtain ⟨c1, c2, rfl, h1, h2⟩ := SimL.split h
    exact ⟨_ :: c1, c2, rfl, .cons hx h1, h2⟩
theorem SimL.strs : ∀ {ks : List ByteArray} {c : List Value}, SimL (ks.map Value.string) c → (∀ x ∈ ks, x.size ≤ 9223372036854775807) → ∃ ks' : List ByteArray, c = ks'.map Value.string ∧ ks'.length = ks.length ∧ ∀ x ∈ ks', x.size ≤ 9223372036854775807
  | [], _, .nil, _ => ⟨[], rfl, rfl, by simp⟩
  | x :: ks, _, .cons hx h, hk => by
    obtain ⟨ks', rfl, h1, h2⟩ := SimL.strs h (fun y hy => hk y (by simp [hy]))
    obtain ⟨b, rfl, hb⟩ := hx.str_ (hk x (by simp))
    exact ⟨b :: ks', rfl, by simp [h1], fun y hy => by
      rcases List.mem_cons.1 hy with rfl | hy
      · exact hb
      · exact h2 y hy⟩
theorem SimL.build : ∀ (xs : List Value) (Q : Nat → Value → Prop), (∀ j u, xs[j]? = some u → ∃ u', Q j u' ∧ SimV u u') → ∃ xs', SimL xs xs' ∧ ∀ j u', xs'[j]? = some u' → Q j u'
  | [], _, _ => ⟨[], .nil, fun j u h => by simp at h⟩
  | x :: xs, Q, h => by
    obtain ⟨u', hq, hs⟩ := h 0 x rfl
    obtain ⟨xs', h1, h2⟩ := SimL.build xs (fun j u => Q (j + 1) u) (fun j u hj => h (j + 1) u (by simpa using hj))
    refine ⟨u' :: xs', .cons hs h1, fun j v hj => ?_⟩
    cases j with
    | zero => simp at hj; subst hj; exact hq
    | succ j => exact h2 j v (by simpa using hj)

/-- From w to w': only memory of S has changed, and only as spoil changes it. -/
structure Spo (S : Nat → Prop) (w w' : World) : Prop where
  os : w'.os = w.os
  tape : w'.tape = w.tape
  output : w'.output = w.output
  size : w.heap.size ≤ w'.heap.size
  block : ∀ b, b < w.heap.size → ¬ S b → w'.heap[b]? = w.heap[b]?
  cell : ∀ p u, w.cell? p = some u → ∃ u', w'.cell? p = some u' ∧ SimV u u'
  frozen : ∀ b, b < w.heap.size → Unf w b → Unf w' b

section
variable {S : Nat → Prop} {w w1 w' : World}
theorem Spo.refl : Spo S w w := ⟨rfl, rfl, rfl, Nat.le_refl _, fun _ _ _ => rfl, fun _ u h => ⟨u, h, .refl u⟩, fun _ _ h => h⟩
theorem Spo.trans (h : Spo S w w1) (k : Spo S w1 w') : Spo S w w' :=
  ⟨k.os.trans h.os, k.tape.trans h.tape, k.output.trans h.output, Nat.le_trans h.size k.size, fun b hb hs => (k.block b (Nat.lt_of_lt_of_le hb h.size) hs).trans (h.block b hb hs),
    fun p u hc => by
      obtain ⟨u1, h1, s1⟩ := h.cell p u hc
      obtain ⟨u2, h2, s2⟩ := k.cell p u1 h1
      exact ⟨u2, h2, s1.trans s2⟩, fun b hb hu => k.frozen b (Nat.lt_of_lt_of_le hb h.size) (h.frozen b hb hu)⟩
theorem Spo.of_below (h : Below w.heap.size w w') : Spo S w w' :=
  ⟨h.os, h.tape, h.output, h.size, fun b hb _ => h.block b hb, fun p u hc => ⟨u, (h.cell (World.block_lt_of_cell? w p hc)).trans hc, .refl u⟩, fun _ hb hu => hu.below h hb⟩
theorem Spo.below (h : Spo S w w') {B : Nat} (hS : ∀ b, b < w.heap.size → S b → B ≤ b) (hB : B ≤ w.heap.size) : Below B w w' :=
  ⟨h.os, h.tape, h.output, h.size, fun b hb => h.block b (by omega) (fun hs => by have := hS b (by omega) hs; omega)⟩
theorem Spo.set {p : Addr} {u u' : Value} (hp : p.spot = none) (hS : S p.block) (hc : w.cell? p = some u) (hs : SimV u u') : Spo S w (w.setCell p u') := by
  refine ⟨rfl, rfl, rfl, by simp [World.setCell], fun b _ hs => Below.heap_setCell w p u' b (fun e => hs (e ▸ hS)), fun q v hq => ?_, fun _ _ hu => hu.setCell _ _⟩
  by_cases e : q = p
  · subst e
    rw [hc] at hq
    injection hq with hq
    subst hq
    exact ⟨u', World.cell?_setCell_same w q u' (by rw [hc]), hs⟩
  · exact ⟨v, (World.cell?_setCell_other w p q u' (fun h => e h.symm)).trans hq, .refl v⟩

theorem RdN.sim {size n : Nat} {v : Value} {xs : List Value} (h : RdN w S size v n xs) (_hz : 0 < size) {T : Nat → Prop} (hs : Spo T w w') : ∃ xs', SimL xs xs' ∧ RdN w' S size v n xs' := by
  obtain ⟨A, c, rfl, h1, h2, h3, h4⟩ := h
  rcases h4 with h4 | ⟨b, o, rfl, hb, hc⟩
  · subst h4
    have : xs = [] := List.eq_nil_of_length_eq_zero (by simpa using h3)
    subst this
    exact ⟨[], .nil, A, c, rfl, h1, h2, h3, .inl rfl⟩
  · obtain ⟨xs', k1, k2⟩ := SimL.build xs (fun j u => w'.cell? ⟨b, o + j, none⟩ = some u) (fun j u hj => by
      obtain ⟨u', e1, e2⟩ := hs.cell _ _ (hc j u hj)
      exact ⟨u', e1, e2⟩)
    exact ⟨xs', k1, _, c, rfl, h1, h2, by rw [k1.length, h3], .inr ⟨b, o, rfl, hb, k2⟩⟩

theorem VsC.sim {T : Nat → Prop} : ∀ {l : List V} {cs cs' : List Value}, VsC w S l cs → (∀ v ∈ l, ∀ c c', VC w S v c → SimL c c' → ∃ v', VC w' S v' c' ∧ V.size v' = V.size v) → SimL cs cs' → Spo T w w' → ∃ l', VsC w' S l' cs' ∧ l'.map V.size = l.map V.size
  | [], cs, cs', h, _, hs, _ => by
    rw [VsC_nil] at h
    subst h
    cases hs
    exact ⟨[], VsC.nil_, rfl⟩
  | v :: l, cs, cs', h, H, hs, hw => by
    rw [VsC_cons] at h
    obtain ⟨c1, c2, rfl, h1, h2⟩ := h
    obtain ⟨d1, d2, rfl, s1, s2⟩ := hs.split
    obtain ⟨v', k1, k2⟩ := H v (by simp) c1 d1 h1 s1
    obtain ⟨l', k3, k4⟩ := VsC.sim h2 (fun u hu => H u (by simp [hu])) s2 hw
    exact ⟨v' :: l', by rw [VsC_cons]; exact ⟨d1, d2, rfl, k1, k3⟩, by simp [k2, k4]⟩

theorem sizeL_map (l l' : List V) (h : l'.map V.size = l.map V.size) : V.sizeL l' = V.sizeL l := by
  induction l generalizing l' with
  | nil => simp at h; subst h; rfl
  | cons v l ih =>
    cases l' with
    | nil => simp at h
    | cons v' l' =>
      simp only [List.map_cons, List.cons.injEq] at h
      rw [V.sizeL_cons, V.sizeL_cons, h.1, ih l' h.2]

theorem VC.sim {T : Nat → Prop} (hw : Spo T w w') (v : V) : ∀ c c', VC w S v c → SimL c c' → ∃ v', VC w' S v' c' ∧ V.size v' = V.size v := by
  induction v using V.ind with
  | h k n s l ks ih =>
    intro c c' h hs
    rw [VC_mk] at h
    obtain ⟨iv, kv, ics, rfl, ho, h1, h2, h3⟩ := h
    obtain ⟨A, cc, rfl, _⟩ := h1.form
    obtain ⟨A', cc', rfl, _⟩ := h3.form
    cases hs with
    | cons s0 hs =>
    cases hs with
    | cons s1 hs =>
    cases hs with
    | cons s2 hs =>
    cases hs with
    | cons s3 hs =>
    cases hs with
    | cons s4 hs =>
    cases hs
    obtain ⟨k', rfl, a1, a2⟩ := s0.int_ ho.1 ho.2.1
    obtain ⟨n', rfl, a3, a4⟩ := s1.int_ ho.2.2.1 ho.2.2.2.1
    obtain ⟨t, rfl, a5⟩ := s2.str_ ho.2.2.2.2.1
    have e3 := s3.slice_
    have e4 := s4.slice_
    subst e3 e4
    obtain ⟨ics', q1, q2⟩ := h1.sim (by omega) hw
    obtain ⟨l', q3, q4⟩ := VsC.sim h2 ih q1 hw
    obtain ⟨kcs', q5, q6⟩ := h3.sim (by omega) hw
    obtain ⟨ks', rfl, q7, q8⟩ := q5.strs ho.2.2.2.2.2.1
    have hl : l'.length = l.length := by have := congrArg List.length q4; simpa using this
    refine ⟨.mk k' n' t l' ks', ?_, ?_⟩
    · rw [VC_mk]
      exact ⟨_, _, ics', rfl, ⟨a1, a2, a3, a4, a5, q8, by rw [q7]; exact ho.2.2.2.2.2.2⟩, by rw [hl]; exact q2, q3, by rw [q7]; exact q6⟩
    · rw [V.size_mk, V.size_mk, sizeL_map l l' q4]
end
end Go.Proofs.Ytpoofeiajmkfdaa
