/-
  Words for memory, of layer 2: a slice of elements of several cells that reads as a list of cells ('RdN'), a value in memory ('VC', 'VsC', 'VA'), and what is kept when memory grows. S says in which blocks the memory of a value may lie.
-/
import Derived.Test.YtpoofeiajmkfdaaMem
import Derived.Test.YtpoofeiajmkfdaaVPlain
namespace Go.Proofs.Ytpoofeiajmkfdaa
open Go.RowKit

/-- The slice v of n elements of so many cells reads as the cells xs; where it has elements, its block is one of S. -/
def RdN (w : World) (S : Nat → Prop) (size : Nat) (v : Value) (n : Nat) (xs : List Value) : Prop :=
  ∃ (A : Option Addr) (c : Nat), v = .slice A n c ∧ n ≤ c ∧ c ≤ maxLen ∧ xs.length = n * size ∧
    (n = 0 ∨ ∃ b o, A = some ⟨b, o, none⟩ ∧ S b ∧ ∀ j u, xs[j]? = some u → w.cell? ⟨b, o + j, none⟩ = some u)

/-- The numbers that Go's own types bound. -/
def Ok (k n : Int) (s : ByteArray) (ks : List ByteArray) : Prop :=
  -9223372036854775808 ≤ k ∧ k ≤ 9223372036854775807 ∧ -9223372036854775808 ≤ n ∧ n ≤ 9223372036854775807 ∧ s.size ≤ 9223372036854775807 ∧ (∀ x ∈ ks, x.size ≤ 9223372036854775807) ∧
    ks.length * 16 ≤ 140737488351232

mutual
/-- The five cells cs hold the value. -/
def VC (w : World) (S : Nat → Prop) : V → List Value → Prop
  | .mk k n s l ks, cs => ∃ iv kv ics, cs = [.int .i64 k, .int .i64 n, .string s, iv, kv] ∧ Ok k n s ks ∧ RdN w S 5 iv l.length ics ∧ VsC w S l ics ∧ RdN w S 1 kv ks.length (ks.map Value.string)
def VsC (w : World) (S : Nat → Prop) : List V → List Value → Prop
  | [], cs => cs = []
  | v :: l, cs => ∃ c1 c2, cs = c1 ++ c2 ∧ VC w S v c1 ∧ VsC w S l c2
end

/-- The Go value a (a struct) is the value v. -/
def VA (w : World) (S : Nat → Prop) (a : Value) (v : V) : Prop := ∃ cs, a = .agg cs.toArray ∧ VC w S v cs

section
variable {w w' : World} {S S' : Nat → Prop} {size n : Nat} {v : Value} {xs cs : List Value}

theorem VC_mk (k n : Int) (s : ByteArray) (l : List V) (ks : List ByteArray) (cs : List Value) :
    VC w S (.mk k n s l ks) cs = ∃ iv kv ics, cs = [.int .i64 k, .int .i64 n, .string s, iv, kv] ∧ Ok k n s ks ∧ RdN w S 5 iv l.length ics ∧ VsC w S l ics ∧ RdN w S 1 kv ks.length (ks.map Value.string) := by
  rw [VC]
theorem VsC_nil : VsC w S [] cs = (cs = []) := by rw [VsC]
theorem VsC_cons (u : V) (l : List V) : VsC w S (u :: l) cs = ∃ c1 c2, cs = c1 ++ c2 ∧ VC w S u c1 ∧ VsC w S l c2 := by rw [VsC]

theorem RdN.keep (h : RdN w S size v n xs) (hS : ∀ b, S b → b < w.heap.size → S' b) (hk : ∀ (p : Addr) u, S p.block → w.cell? p = some u → w'.cell? p = some u) (hz : 0 < size) : RdN w' S' size v n xs := by
  obtain ⟨A, c, rfl, h1, h2, h3, h4⟩ := h
  refine ⟨A, c, rfl, h1, h2, h3, ?_⟩
  rcases h4 with h4 | ⟨b, o, rfl, hb, hc⟩
  · exact .inl h4
  · rcases Nat.eq_zero_or_pos n with h0 | h0
    · exact .inl h0
    · have hp : 0 < xs.length := by rw [h3]; exact Nat.mul_pos h0 hz
      have := hc 0 xs[0] (List.getElem?_eq_getElem hp)
      have hlt : b < w.heap.size := World.block_lt_of_cell? w _ this
      exact .inr ⟨b, o, rfl, hS b hb hlt, fun j u hj => hk _ u hb (hc j u hj)⟩

theorem RdN.none_ : RdN w S size (.slice none 0 0) 0 [] := ⟨none, 0, rfl, Nat.le_refl _, Nat.zero_le _, by simp, .inl rfl⟩

theorem RdN.of_own {base : Nat} {e : TypeId} (h : w.ownsRow base e size v n xs) (hS : ∀ k, v.ownBlock = some k → S k) : RdN w S size v n xs := by
  have hform := h.2
  rcases hform with ⟨rfl, h0⟩ | ⟨g, cap, cur, rfl, hb, hg, h1, h2, h3, h4⟩
  · subst h0
    have : xs = [] := List.eq_nil_of_length_eq_zero (by rw [h.1]; simp)
    subst this
    exact RdN.none_
  · refine ⟨_, cap, rfl, h1, h2, h.1, .inr ⟨g, 0, rfl, hS g rfl, fun j u hj => ?_⟩⟩
    have := World.ownsRow.cells h rfl j u hj
    have e : (⟨g, 0, none⟩ : Addr).add j = ⟨g, 0 + j, none⟩ := by unfold Addr.add; split <;> simp_all
    rw [e] at this
    exact this

theorem VsC_keep {l : List V} (h : ∀ u ∈ l, ∀ cs, VC w S u cs → VC w' S' u cs) : ∀ cs, VsC w S l cs → VsC w' S' l cs := by
  induction l with
  | nil => intro cs hc; rw [VsC_nil] at hc ⊢; exact hc
  | cons u l ih =>
    intro cs hc
    rw [VsC_cons] at hc ⊢
    obtain ⟨c1, c2, e, h1, h2⟩ := hc
    exact ⟨c1, c2, e, h u (by simp) c1 h1, ih (fun x hx => h x (by simp [hx])) c2 h2⟩

theorem VC.keep (hS : ∀ b, S b → b < w.heap.size → S' b) (hk : ∀ (p : Addr) u, S p.block → w.cell? p = some u → w'.cell? p = some u) (v : V) : ∀ cs, VC w S v cs → VC w' S' v cs := by
  induction v using V.ind with
  | h k n s l ks ih =>
    intro cs h
    rw [VC_mk] at h ⊢
    obtain ⟨iv, kv, ics, e, ho, h1, h2, h3⟩ := h
    exact ⟨iv, kv, ics, e, ho, h1.keep hS hk (by omega), VsC_keep ih ics h2, h3.keep hS hk (by omega)⟩
theorem VsC.keep {l : List V} (hS : ∀ b, S b → b < w.heap.size → S' b) (hk : ∀ (p : Addr) u, S p.block → w.cell? p = some u → w'.cell? p = some u) {cs : List Value} (h : VsC w S l cs) : VsC w' S' l cs :=
  VsC_keep (fun u _ => VC.keep hS hk u) cs h

theorem keepB (hb : Below w.heap.size w w') : ∀ (p : Addr) u, S p.block → w.cell? p = some u → w'.cell? p = some u :=
  fun p _ _ hc => (hb.cell (World.block_lt_of_cell? w p hc)).trans hc

theorem RdN.below (h : RdN w S size v n xs) (hb : Below w.heap.size w w') (hz : 0 < size) : RdN w' S size v n xs := h.keep (fun _ hs _ => hs) (keepB hb) hz
theorem VC.below {v : V} (h : VC w S v cs) (hb : Below w.heap.size w w') : VC w' S v cs := VC.keep (fun _ hs _ => hs) (keepB hb) v cs h
theorem VsC.below {l : List V} (h : VsC w S l cs) (hb : Below w.heap.size w w') : VsC w' S l cs := VsC.keep (fun _ hs _ => hs) (keepB hb) h
theorem VA.below {a : Value} {v : V} (h : VA w S a v) (hb : Below w.heap.size w w') : VA w' S a v := by
  obtain ⟨cs, rfl, hc⟩ := h
  exact ⟨cs, rfl, hc.below hb⟩
theorem VC.more {v : V} (h : VC w S v cs) (hS : ∀ b, S b → b < w.heap.size → S' b) : VC w S' v cs := VC.keep hS (fun _ _ _ hc => hc) v cs h
theorem VsC.more {l : List V} (h : VsC w S l cs) (hS : ∀ b, S b → b < w.heap.size → S' b) : VsC w S' l cs := VsC.keep hS (fun _ _ _ hc => hc) h
theorem VA.more {a : Value} {v : V} (h : VA w S a v) (hS : ∀ b, S b → b < w.heap.size → S' b) : VA w S' a v := by
  obtain ⟨cs, rfl, hc⟩ := h
  exact ⟨cs, rfl, hc.more hS⟩
theorem RdN.more (h : RdN w S size v n xs) (hS : ∀ b, S b → b < w.heap.size → S' b) (hz : 0 < size) : RdN w S' size v n xs := h.keep hS (fun _ _ _ hc => hc) hz

theorem VC.len5 {v : V} (h : VC w S v cs) : cs.length = 5 := by
  match v with
  | .mk k n s l ks =>
    rw [VC_mk] at h
    obtain ⟨iv, kv, ics, rfl, _⟩ := h
    rfl
theorem VsC.len : ∀ {l : List V} {cs : List Value}, VsC w S l cs → cs.length = l.length * 5
  | [], cs, h => by rw [VsC_nil] at h; subst h; rfl
  | u :: l, cs, h => by
    rw [VsC_cons] at h
    obtain ⟨c1, c2, rfl, h1, h2⟩ := h
    have := VC.len5 h1
    have := VsC.len h2
    simp; omega
theorem VsC.app : ∀ {l : List V} {cs : List Value} {l' : List V} {cs' : List Value}, VsC w S l cs → VsC w S l' cs' → VsC w S (l ++ l') (cs ++ cs')
  | [], cs, l', cs', h, h' => by rw [VsC_nil] at h; subst h; exact h'
  | u :: l, cs, l', cs', h, h' => by
    rw [VsC_cons] at h
    obtain ⟨c1, c2, rfl, h1, h2⟩ := h
    rw [List.cons_append, VsC_cons]
    exact ⟨c1, c2 ++ cs', by simp, h1, VsC.app h2 h'⟩
theorem VsC.one {u : V} {cs : List Value} (h : VC w S u cs) : VsC w S [u] cs := by
  rw [VsC_cons]
  exact ⟨cs, [], by simp, h, by rw [VsC_nil]⟩
theorem VsC.nil_ : VsC w S [] [] := by rw [VsC_nil]

/-- One element: its five cells. -/
theorem VsC.at_ : ∀ {l : List V} {cs : List Value}, VsC w S l cs → ∀ (i : Nat) (hi : i < l.length), ∃ c0 c1 c2 c3 c4, cs[i * 5]? = some c0 ∧ cs[i * 5 + 1]? = some c1 ∧ cs[i * 5 + 2]? = some c2 ∧ cs[i * 5 + 3]? = some c3 ∧ cs[i * 5 + 4]? = some c4 ∧ VC w S l[i] [c0, c1, c2, c3, c4]
  | [], _, _, i, hi => absurd hi (by simp)
  | u :: l, cs, h, i, hi => by
    rw [VsC_cons] at h
    obtain ⟨d1, d2, rfl, h1, h2⟩ := h
    have h5 := VC.len5 h1
    match d1, h5 with
    | [c0, c1, c2, c3, c4], _ =>
      match i, hi with
      | 0, _ => exact ⟨c0, c1, c2, c3, c4, rfl, rfl, rfl, rfl, rfl, h1⟩
      | i + 1, hi =>
        obtain ⟨e0, e1, e2, e3, e4, q0, q1, q2, q3, q4, hv⟩ := VsC.at_ h2 i (by simpa using hi)
        refine ⟨e0, e1, e2, e3, e4, ?_, ?_, ?_, ?_, ?_, hv⟩
        · rw [show (i + 1) * 5 = i * 5 + 5 by omega]; simpa using q0
        · rw [show (i + 1) * 5 + 1 = (i * 5 + 1) + 5 by omega]; simpa using q1
        · rw [show (i + 1) * 5 + 2 = (i * 5 + 2) + 5 by omega]; simpa using q2
        · rw [show (i + 1) * 5 + 3 = (i * 5 + 3) + 5 by omega]; simpa using q3
        · rw [show (i + 1) * 5 + 4 = (i * 5 + 4) + 5 by omega]; simpa using q4

theorem VC.form {v : V} (h : VC w S v cs) : ∃ (k n : Int) (s : ByteArray) (A : Option Addr) (m c : Nat) (A' : Option Addr) (m' c' : Nat), cs = [.int .i64 k, .int .i64 n, .string s, .slice A m c, .slice A' m' c'] := by
  match v with
  | .mk k n s l ks =>
    rw [VC_mk] at h
    obtain ⟨iv, kv, ics, rfl, _, h1, _, h3⟩ := h
    obtain ⟨A, c, rfl, _⟩ := h1
    obtain ⟨A', c', rfl, _⟩ := h3
    exact ⟨k, n, s, A, _, c, A', _, c', rfl⟩
/-- An element of a slice of values: where its cells lie, and what they hold. -/
theorem items_at {l : List V} {iv : Value} {ics : List Value} (hr : RdN w S 5 iv l.length ics) (hv : VsC w S l ics) (i : Nat) (hi : i < l.length) :
    ∃ (b o c : Nat) (k n : Int) (s : ByteArray) (A : Option Addr) (m1 c1 : Nat) (A' : Option Addr) (m2 c2 : Nat), iv = .slice (some ⟨b, o, none⟩) l.length c ∧
      w.cell? ⟨b, o + i * 5, none⟩ = some (.int .i64 k) ∧ w.cell? ⟨b, o + i * 5 + 1, none⟩ = some (.int .i64 n) ∧ w.cell? ⟨b, o + i * 5 + 2, none⟩ = some (.string s) ∧ w.cell? ⟨b, o + i * 5 + 3, none⟩ = some (.slice A m1 c1) ∧ w.cell? ⟨b, o + i * 5 + 4, none⟩ = some (.slice A' m2 c2) ∧
      VA w S (.agg #[.int .i64 k, .int .i64 n, .string s, .slice A m1 c1, .slice A' m2 c2]) l[i] := by
  obtain ⟨A, c, rfl, _, _, _, h4⟩ := hr
  rcases h4 with h4 | ⟨b, o, rfl, hS, hc⟩
  · omega
  · obtain ⟨c0, c1, c2, c3, c4, q0, q1, q2, q3, q4, hv⟩ := hv.at_ i hi
    obtain ⟨k, n, s, A, m, c1, A', m', c', he⟩ := hv.form
    simp only [List.cons.injEq, and_true] at he
    obtain ⟨rfl, rfl, rfl, rfl, rfl⟩ := he
    exact ⟨b, o, c, k, n, s, A, m, c1, A', m', c', rfl, hc _ _ q0, hc _ _ q1, hc _ _ q2, hc _ _ q3, hc _ _ q4, _, rfl, hv⟩

theorem keys_at {ks : List ByteArray} {kv : Value} (hr : RdN w S 1 kv ks.length (ks.map Value.string)) (i : Nat) (hi : i < ks.length) :
    ∃ b o c, kv = .slice (some ⟨b, o, none⟩) ks.length c ∧ w.cell? ⟨b, o + i, none⟩ = some (.string ks[i]) := by
  obtain ⟨A, c, rfl, _, _, _, h4⟩ := hr
  rcases h4 with h4 | ⟨b, o, rfl, hS, hc⟩
  · omega
  · exact ⟨b, o, c, rfl, hc i _ (by simp [List.getElem?_eq_getElem hi])⟩

theorem keys_all {ks : List ByteArray} {kv : Value} (hr : RdN w S 1 kv ks.length (ks.map Value.string)) (h0 : 0 < ks.length) :
    ∃ b o c, kv = .slice (some ⟨b, o, none⟩) ks.length c ∧ ∀ i (hi : i < ks.length), w.cell? ⟨b, o + i, none⟩ = some (.string ks[i]) := by
  obtain ⟨A, c, rfl, _, _, _, h4⟩ := hr
  rcases h4 with h4 | ⟨b, o, rfl, hS, hc⟩
  · omega
  · exact ⟨b, o, c, rfl, fun i hi => hc i _ (by simp [List.getElem?_eq_getElem hi])⟩

theorem RdN.form (h : RdN w S size v n xs) : ∃ A c, v = .slice A n c ∧ n ≤ c ∧ c ≤ 9223372036854775807 := by
  obtain ⟨A, c, rfl, h1, h2, _⟩ := h
  exact ⟨A, c, rfl, h1, by unfold maxLen at h2; omega⟩

/-- A value opened. -/
theorem VA.open_ {a : Value} {k n : Int} {s : ByteArray} {l : List V} {ks : List ByteArray} (h : VA w S a (.mk k n s l ks)) :
    ∃ A c A' c' ics, a = .agg #[.int .i64 k, .int .i64 n, .string s, .slice A l.length c, .slice A' ks.length c'] ∧ Ok k n s ks ∧ l.length ≤ 9223372036854775807 ∧ RdN w S 5 (.slice A l.length c) l.length ics ∧ VsC w S l ics ∧ RdN w S 1 (.slice A' ks.length c') ks.length (ks.map Value.string) := by
  obtain ⟨cs, rfl, hc⟩ := h
  rw [VC_mk] at hc
  obtain ⟨iv, kv, ics, rfl, ho, h1, h2, h3⟩ := hc
  obtain ⟨A, c, rfl, h4, h5⟩ := h1.form
  obtain ⟨A', c', rfl, _⟩ := h3.form
  exact ⟨A, c, A', c', ics, rfl, ho, by omega, h1, h2, h3⟩
theorem VA.mk_ {k n : Int} {s : ByteArray} {l : List V} {ks : List ByteArray} {iv kv : Value} {ics : List Value} (ho : Ok k n s ks) (h1 : RdN w S 5 iv l.length ics) (h2 : VsC w S l ics) (h3 : RdN w S 1 kv ks.length (ks.map Value.string)) :
    VA w S (.agg #[.int .i64 k, .int .i64 n, .string s, iv, kv]) (.mk k n s l ks) :=
  ⟨[.int .i64 k, .int .i64 n, .string s, iv, kv], rfl, by rw [VC_mk]; exact ⟨iv, kv, ics, rfl, ho, h1, h2, h3⟩⟩
theorem VA.ok {a : Value} {v : V} (h : VA w S a v) : Ok v.k v.n v.s v.ks := by
  match v with
  | .mk k n s l ks =>
    obtain ⟨_, _, _, _, _, _, ho, _⟩ := h.open_
    exact ho
end

/-- The world wr behind a boxed struct: the box stands, and all that was there before it. -/
def Bx (w : World) (cs : Array Value) (wr : World) : Prop := Below (w.heap.size + 1) (w.alloc (.cells cs 26)) wr
section
variable {w wr w1 : World} {cs : Array Value}
theorem below_box {w : World} (o : Obj) : Below w.heap.size w (w.alloc o) := (Below.refl _ _).alloc (Nat.le_refl _) o
theorem Bx.refl : Bx w cs (w.alloc (.cells cs 26)) := Below.refl _ _
theorem Bx.below (h : Bx w cs wr) : Below w.heap.size w wr := (below_box _).trans (Below.mono h (by omega))
theorem Bx.size (h : Bx w cs wr) : w.heap.size < wr.heap.size := by have := Below.size h; simp at this; omega
theorem Bx.step (h : Bx w cs wr) (hb : Below wr.heap.size wr w1) : Bx w cs w1 := Below.trans h (hb.mono h.size)
theorem Bx.block (h : Bx w cs wr) : wr.heap[w.heap.size]? = some (.cells cs 26 (0, 0)) := (Below.block h _ (by omega)).trans (heap_alloc_new w _)
theorem Bx.cell (h : Bx w cs wr) (i : Nat) : wr.cell? ⟨w.heap.size, i, none⟩ = cs[i]? := cell_of_row wr w.heap.size i cs 26 (0, 0) h.block
theorem Bx.cells {a0 a1 a2 a3 a4 : Value} (h : Bx w #[a0, a1, a2, a3, a4] wr) : wr.cell? ⟨w.heap.size, 0, none⟩ = some a0 ∧ wr.cell? ⟨w.heap.size, 1, none⟩ = some a1 ∧ wr.cell? ⟨w.heap.size, 2, none⟩ = some a2 ∧ wr.cell? ⟨w.heap.size, 3, none⟩ = some a3 ∧ wr.cell? ⟨w.heap.size, 4, none⟩ = some a4 :=
  ⟨h.cell 0, h.cell 1, h.cell 2, h.cell 3, h.cell 4⟩
theorem Bx.free (h : Bx w cs wr) (i : Nat) : wr.frozen? ⟨w.heap.size, i, none⟩ = false := frozen_of_row wr w.heap.size i cs 26 h.block
end
theorem take_succ_l {α : Type} (l : List α) (i : Nat) (h : i < l.length) : l.take (i + 1) = l.take i ++ [l[i]] := by
  rw [List.take_succ_eq_append_getElem h]
end Go.Proofs.Ytpoofeiajmkfdaa
