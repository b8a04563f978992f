/-
  Tokens as values, and the classes that the scanner uses.
-/
import Derived.Test.YtodcgdiejmdaaaaDoorTKw
namespace Go.Proofs.YtodcgdiejmdaaaaDoor
open Go.RowKit

def byS (l : List UInt8) : ByteArray := ⟨l.toArray⟩
theorem byS_size (l : List UInt8) : (byS l).size = l.length := by simp [byS, ByteArray.size]
/-- A token as a value. -/
def tokV (k at_ : Int) (t : List UInt8) (n : Int) : Value := .agg #[.int .i64 k, .int .i64 at_, .string (byS t), .int .i64 n]
/-- What a token's method leaves. -/
def TPost (g : Nat) (s : ByteArray) (w : World) (r : Tk.TR) (e : Ending) (w' : World) : Prop := match r with
  | .bad c => e = .returned (.tuple #[tokV 0 0 [] 0, .int .i64 c]) ∧ Ch g w w'
  | .good k t n l => e = .returned (.tuple #[tokV k 0 t n, .int .i64 0]) ∧ Ch g w w' ∧ ∃ m, Sc w' g s m l
/-- The block of a token's result. -/
def zTok : Obj := .cells #[.int .i64 0, .int .i64 0, .string ⟨#[]⟩, .int .i64 0] 30 (0, 0)
theorem zcells {w : World} {z : Nat} (h : w.heap[z]? = some zTok) : w.cell? ⟨z, 0, none⟩ = some (.int .i64 0) ∧ w.cell? ⟨z, 1, none⟩ = some (.int .i64 0) ∧ w.cell? ⟨z, 2, none⟩ = some (.string ⟨#[]⟩) ∧ w.cell? ⟨z, 3, none⟩ = some (.int .i64 0) := by
  refine ⟨?_, ?_, ?_, ?_⟩
  · have := cellAt h 0; simpa using this
  · have := cellAt h 1; simpa using this
  · have := cellAt h 2; simpa using this
  · have := cellAt h 3; simpa using this
theorem zfree {w : World} {z : Nat} (h : w.heap[z]? = some zTok) (i : Nat) : w.frozen? ⟨z, i, none⟩ = false := freeAt h i

/-! ### The classes that the scanner uses -/
def asc (l : List UInt8) (p : UInt8 → Bool) : Bool := l.all (fun b => decide (b.toNat < 128)) && decide (l.length ≤ 1000) && (List.range 256).all fun n => l.contains (UInt8.ofNat n) == p (UInt8.ofNat n)
theorem asc_all {l : List UInt8} {p : UInt8 → Bool} (h : asc l p = true) : (∀ b ∈ l, b.toNat < 128) ∧ l.length ≤ 1000 ∧ ∀ c, l.contains c = p c := by
  simp only [asc, Bool.and_eq_true, List.all_eq_true, decide_eq_true_eq, beq_iff_eq] at h
  refine ⟨h.1.1, h.1.2, fun c => ?_⟩
  have := h.2 c.toNat (List.mem_range.2 c.toNat_lt)
  simpa using this
theorem among_asc (g : Nat) (l : List UInt8) (p : UInt8 → Bool) (h : asc l p = true) (w : World) (hg : g < w.heap.size) :
    Calls Tryd.prog 22 #[.string ⟨l.toArray⟩] w fun e w' => ∃ k, e = .returned (fv k) ∧ Below w.heap.size w w' ∧ Cl w' g k p := by
  obtain ⟨h1, h2, h3⟩ := asc_all h
  exact among_any g p ⟨l.toArray⟩ w hg (by simpa using h1) (by simpa [ByteArray.size] using h2) (by simpa using h3)
theorem asc_blank : asc [32, 9, 10] Tk.blank = true := by kernel_rfl
theorem asc_digit : asc [48, 49, 50, 51, 52, 53, 54, 55, 56, 57] Tk.digit = true := by kernel_rfl
theorem asc_letter : asc [97, 98, 99, 100, 101, 102, 103, 104, 105, 106, 107, 108, 109, 110, 111, 112, 113, 114, 115, 116, 117, 118, 119, 120, 121, 122, 65, 66, 67, 68, 69, 70, 71, 72, 73, 74, 75, 76, 77, 78, 79, 80, 81, 82, 83, 84, 85, 86, 87, 88, 89, 90, 95] Tk.letter = true := by kernel_rfl
theorem asc_word : asc [97, 98, 99, 100, 101, 102, 103, 104, 105, 106, 107, 108, 109, 110, 111, 112, 113, 114, 115, 116, 117, 118, 119, 120, 121, 122, 65, 66, 67, 68, 69, 70, 71, 72, 73, 74, 75, 76, 77, 78, 79, 80, 81, 82, 83, 84, 85, 86, 87, 88, 89, 90, 95, 48, 49, 50, 51, 52, 53, 54, 55, 56, 57] Tk.wordc = true := by kernel_rfl
theorem asc_pair : asc [61, 33, 60, 62] Tk.pairc = true := by kernel_rfl
theorem asc_sign : asc [40, 41, 123, 125, 91, 93, 44, 59, 46, 58, 61, 60, 62, 43, 45, 42, 47, 37] Tk.signc = true := by kernel_rfl

theorem zalloc (w : World) : (w.alloc zTok).heap[w.heap.size]? = some zTok := by
  show (w.heap.push zTok)[w.heap.size]? = _
  simp
theorem zstep {w w' : World} {z : Nat} (h : w.heap[z]? = some zTok) (hb : Below w.heap.size w w') : w'.heap[z]? = some zTok :=
  (hb.block z (Array.getElem?_eq_some_iff.1 h).1).trans h

theorem Ch.setNew {g b i : Nat} {w W : World} {u : Value} (h : Ch g w W) (hb : w.heap.size ≤ b) : Ch g w (W.setCell ⟨b, i, none⟩ u) :=
  ⟨h.os, h.tape, h.output, by simpa [World.setCell] using h.size, fun k hk hne => (Below.heap_setCell W ⟨b, i, none⟩ u k (fun e => by have : k = b := e; omega)).trans (h.block k hk hne)⟩
theorem Sc.setNew {g b i n : Nat} {W : World} {u : Value} {s : ByteArray} {l : List UInt8} (h : Sc W g s n l) (hb : b ≠ g) : Sc (W.setCell ⟨b, i, none⟩ u) g s n l :=
  ⟨(Below.heap_setCell W ⟨b, i, none⟩ u g (fun e => hb e.symm)).trans h.1, h.2⟩
/-- The four cells of a token are stored. -/
theorem ch4 {g z : Nat} {w W : World} {u0 u1 u2 u3 : Value} (h : Ch g w W) (hz : w.heap.size ≤ z) :
    Ch g w ((((W.setCell ⟨z, 0, none⟩ u0).setCell ⟨z, 1, none⟩ u1).setCell ⟨z, 2, none⟩ u2).setCell ⟨z, 3, none⟩ u3) :=
  (((h.setNew hz).setNew hz).setNew hz).setNew hz
theorem sc4 {g z n : Nat} {W : World} {u0 u1 u2 u3 : Value} {s : ByteArray} {l : List UInt8} (h : Sc W g s n l) (hz : z ≠ g) :
    Sc ((((W.setCell ⟨z, 0, none⟩ u0).setCell ⟨z, 1, none⟩ u1).setCell ⟨z, 2, none⟩ u2).setCell ⟨z, 3, none⟩ u3) g s n l :=
  (((h.setNew hz).setNew hz).setNew hz).setNew hz
end Go.Proofs.YtodcgdiejmdaaaaDoor
