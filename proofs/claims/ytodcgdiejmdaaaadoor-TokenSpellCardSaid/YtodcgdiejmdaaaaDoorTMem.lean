/-
  The scanner in memory, its small methods, and the classes of bytes.
-/
import Derived.Test.YtodcgdiejmdaaaaDoorTPlain
import Derived.Test.YtodcgdiejmdaaaaDoorConv
import Derived.Laws.Runes
import Derived.LoopN
import Derived.BigQuiet
namespace Go.Proofs.YtodcgdiejmdaaaaDoor
open Go.RowKit

/-- Only block g, and what is new, has changed. -/
def Ch (g : Nat) (w w' : World) : Prop := w.grownBy w' (some g)
section
variable {w w' w1 w2 : World} {g h : Nat}
theorem Ch.refl : Ch g w w := World.grownBy.refl w _
theorem Ch.trans (a : Ch g w w1) (b : Ch g w1 w2) : Ch g w w2 :=
  ⟨b.os.trans a.os, b.tape.trans a.tape, b.output.trans a.output, Nat.le_trans a.size b.size, fun k hk hne => (b.block k (Nat.lt_of_lt_of_le hk a.size) hne).trans (a.block k hk hne)⟩
theorem Ch.of_below (a : Below w.heap.size w w') : Ch g w w' := ⟨a.os, a.tape, a.output, a.size, fun k hk _ => a.block k hk⟩
theorem Ch.set (w : World) (g j : Nat) (u : Value) : Ch g w (w.setCell ⟨g, j, none⟩ u) :=
  ⟨rfl, rfl, rfl, by simp [World.setCell], fun k _ hne => Below.heap_setCell w ⟨g, j, none⟩ u k (fun e => hne (by rw [e]))⟩
theorem Ch.alloc (o : Obj) : Ch g w (w.alloc o) := Ch.of_below ((Below.refl _ _).alloc (Nat.le_refl _) o)
/-- A scanner that the call made itself: all that was there stays. -/
theorem Ch.below {B : Nat} (a : Ch g w w') (hg : B ≤ g) (hB : B ≤ w.heap.size) : Below B w w' :=
  ⟨a.os, a.tape, a.output, a.size, fun k hk => a.block k (by omega) (fun e => by injection e; omega)⟩
theorem Ch.cell {a : Addr} {u : Value} (c : Ch g w w') (h : w.cell? a = some u) (hne : a.block ≠ g) : w'.cell? a = some u :=
  World.grownBy.cell c h (fun e => hne (by injection e))
theorem Ch.obj {k : Nat} {o : Obj} (c : Ch g w w') (h : w.heap[k]? = some o) (hne : k ≠ g) : w'.heap[k]? = some o :=
  (c.block k (Array.getElem?_eq_some_iff.1 h).1 (fun e => hne (by injection e))).trans h
end

theorem cellAt {w : World} {g : Nat} {cs : Array Value} {t : TypeId} {fr : Nat × Nat} (h : w.heap[g]? = some (.cells cs t fr)) (i : Nat) : w.cell? ⟨g, i, none⟩ = cs[i]? := cell_of_row w g i cs t fr h
theorem freeAt {w : World} {g : Nat} {cs : Array Value} {t : TypeId} (h : w.heap[g]? = some (.cells cs t (0, 0))) (i : Nat) : w.frozen? ⟨g, i, none⟩ = false := frozen_of_row w g i cs t h

/-- The scanner at block g has the text s and stands at n, where l is left. -/
def Sc (w : World) (g : Nat) (s : ByteArray) (n : Nat) (l : List UInt8) : Prop :=
  w.heap[g]? = some (.cells #[.string s, .int .i64 (n : Int)] 36 (0, 0)) ∧ n ≤ s.size ∧ s.data.toList.drop n = l ∧ s.size ≤ 16384

section
variable {w w' : World} {g n : Nat} {s : ByteArray} {l : List UInt8}
theorem Sc.lt (h : Sc w g s n l) : g < w.heap.size := (Array.getElem?_eq_some_iff.1 h.1).1
theorem Sc.len (h : Sc w g s n l) : l.length + n = s.size := by
  have h1 := h.2.1
  have h2 := congrArg List.length h.2.2.1
  simp only [List.length_drop, Array.length_toList] at h2
  have : s.data.size = s.size := rfl
  omega
theorem Sc.below (h : Sc w g s n l) (hb : Below w.heap.size w w') : Sc w' g s n l := ⟨(hb.block g h.lt).trans h.1, h.2⟩
theorem Sc.cell0 (h : Sc w g s n l) : w.cell? ⟨g, 0, none⟩ = some (.string s) := by have := cellAt h.1 0; simpa using this
theorem Sc.cell1 (h : Sc w g s n l) : w.cell? ⟨g, 1, none⟩ = some (.int .i64 (n : Int)) := by have := cellAt h.1 1; simpa using this
theorem Sc.free (h : Sc w g s n l) (i : Nat) : w.frozen? ⟨g, i, none⟩ = false := freeAt h.1 i
theorem Sc.get {c : UInt8} {r : List UInt8} (h : Sc w g s n (c :: r)) : ∃ hn : n < s.size, s[n] = c := by
  have hl := h.len
  simp only [List.length_cons] at hl
  refine ⟨by omega, ?_⟩
  have h1 : (s.data.toList.drop n)[0]? = some c := by rw [h.2.2.1]; rfl
  rw [List.getElem?_drop, Nat.add_zero, List.getElem?_eq_some_iff] at h1
  obtain ⟨hi, h1⟩ := h1
  rw [← h1]; rfl
theorem Sc.step {c : UInt8} {r : List UInt8} (h : Sc w g s n (c :: r)) : Sc (w.setCell ⟨g, 1, none⟩ (.int .i64 ((n : Int) + 1))) g s (n + 1) r := by
  obtain ⟨h1, h2, h3, h4⟩ := h
  have hl : (c :: r).length + n = s.size := Sc.len ⟨h1, h2, h3, h4⟩
  simp only [List.length_cons] at hl
  refine ⟨?_, by omega, ?_, h4⟩
  · have hlt := (Array.getElem?_eq_some_iff.1 h1).1
    have he := (Array.getElem?_eq_some_iff.1 h1).2
    simp only [World.setCell]
    rw [Array.getElem?_modify]
    simp only [if_true]
    rw [h1]
    simp
  · rw [← List.drop_drop, h3]; rfl
end

theorem drewN_drewN (w : World) (a b : Nat) : (w.drewN a).drewN b = w.drewN (a + b) := by simp [World.drewN, Nat.add_assoc]
theorem below_draws {B : Nat} {w : World} (n : Nat) : Below B w (w.drewN n) := ⟨rfl, rfl, rfl, Nat.le_refl _, fun _ _ => rfl⟩
/-- The rune that is read. -/
def rn (l : List UInt8) : Int := match l with
  | [] => -1
  | c :: _ => (c.toNat : Int)
/-- The class of the next byte. -/
def hdp (p : UInt8 → Bool) (l : List UInt8) : Bool := match l with
  | [] => false
  | c :: _ => p c

set_option maxRecDepth 100000 in
theorem peek_any (g n : Nat) (s : ByteArray) (l : List UInt8) (w : World) (h : Sc w g s n l) :
    Calls Tryd.prog 30 #[.pointer (some ⟨g, 0, none⟩)] w fun e w' => e = .returned (.int .i32 (rn l)) ∧ ∃ q, w' = w.drewN q := by
  have hc0 := h.cell0
  have hc1 := h.cell1
  have hlen := h.len
  have hsz := h.2.2.2
  cases l with
  | nil =>
    simp only [List.length_nil] at hlen
    have hn : n = s.size := by omega
    subst hn
    clear h hlen
    go_enter Tryd.func30, Tryd.ntmps30
    go_wp2_with fail
    go_quiet (fail)
    go_wp2_with fail
    go_ret
    exact ⟨rfl, _, rfl⟩
  | cons c r =>
    obtain ⟨hn, hg⟩ := h.get
    have hne : ((n : Int) == (s.size : Int)) = false := by simp; omega
    have hr : Hid (rn (c :: r) = (c.toNat : Int)) := rfl
    have hg2 := hid hg
    have hcn := c.toNat_lt
    clear h hlen
    go_enter Tryd.func30, Tryd.ntmps30
    go_wp2_with fail
    go_quiet (fail)
    go_wp2_with fail
    go_quiet (fail)
    go_wp2_with fail
    go_ret
    exact ⟨rfl, _, drewN_drewN _ _ _⟩

theorem Sc.draws {w : World} {g n : Nat} {s : ByteArray} {l : List UInt8} (h : Sc w g s n l) (q : Nat) : Sc (w.drewN q) g s n l := h
theorem Ch.draws {w : World} {g : Nat} (q : Nat) : Ch g w (w.drewN q) := Ch.of_below (below_draws q)

set_option maxRecDepth 100000 in
theorem read_end (g n : Nat) (s : ByteArray) (w : World) (h : Sc w g s n []) :
    Calls Tryd.prog 48 #[.pointer (some ⟨g, 0, none⟩)] w fun e w' => e = .returned (.int .i32 (-1)) ∧ Sc w' g s n [] ∧ Ch g w w' := by
  have C := hid (peek_any g n s [] w h)
  have H := hid h
  clear h
  go_enter Tryd.func48, Tryd.ntmps48
  go_wp2_with fail
  refine C.out.mono ?_
  rintro e w' ⟨rfl, q, rfl⟩
  simp only [rn]
  go_wp2_with fail
  go_ret
  exact ⟨rfl, H.out.draws _, Ch.draws _⟩

set_option maxRecDepth 100000 in
theorem read_at (g n : Nat) (s : ByteArray) (c : UInt8) (r : List UInt8) (w : World) (h : Sc w g s n (c :: r)) :
    Calls Tryd.prog 48 #[.pointer (some ⟨g, 0, none⟩)] w fun e w' => e = .returned (.int .i32 (c.toNat : Int)) ∧ Sc w' g s (n + 1) r ∧ Ch g w w' := by
  have C := hid (peek_any g n s (c :: r) w h)
  have H := hid h
  have hc1 := h.cell1
  have hf := h.free 1
  have hcn := c.toNat_lt
  have hne : ((c.toNat : Int) != -1) = true := by simp
  have hsz : (n : Int) ≤ 16384 := by have := h.2.1; have := h.2.2.2; omega
  clear h
  go_enter Tryd.func48, Tryd.ntmps48
  go_wp2_with fail
  refine C.out.mono ?_
  rintro e w' ⟨rfl, q, rfl⟩
  simp only [rn]
  have hc2 : (w.drewN q).cell? ⟨g, 1, none⟩ = some (.int .i64 (n : Int)) := hc1
  have hf2 : (w.drewN q).frozen? ⟨g, 1, none⟩ = false := hf
  go_wp2_with fail
  go_ret
  exact ⟨rfl, (H.out.draws q).step, (Ch.draws q).trans (Ch.set _ _ _ _)⟩
end Go.Proofs.YtodcgdiejmdaaaaDoor
