/-
  The program's Reader: what is kept while one reader changes; Fail and Bool.
-/
import Derived.Test.YtpoofeiajmkfdaaRdr
namespace Go.Proofs.Ytpoofeiajmkfdaa
open Go.RowKit

/-- Only block g, and what is new, has changed. -/
def Ch (g : Nat) (w w' : World) : Prop := w.grownBy w' (some g)

/-- No byte lies in block g. -/
def NoB (w : World) (g : Nat) : Prop := ∀ (a : Addr) (n : Int), a.block = g → w.cell? a ≠ some (.int .u8 n)

section
variable {w w' w1 w2 : World} {g h : Nat}
theorem Ch.refl : Ch g w w := World.grownBy.refl w _
theorem Ch.trans (a : Ch g w w1) (b : Ch g w1 w2) : Ch g w w2 :=
  ⟨b.os.trans a.os, b.tape.trans a.tape, b.output.trans a.output, Nat.le_trans a.size b.size, fun k hk hne => (b.block k (Nat.lt_of_lt_of_le hk a.size) hne).trans (a.block k hk hne)⟩
theorem Ch.of_below (a : Below w.heap.size w w') : Ch g w w' := ⟨a.os, a.tape, a.output, a.size, fun k hk _ => a.block k hk⟩
theorem Ch.set (w : World) (g j : Nat) (u : Value) : Ch g w (w.setCell ⟨g, j, none⟩ u) :=
  ⟨rfl, rfl, rfl, by simp [World.setCell], fun k _ hne => Below.heap_setCell w ⟨g, j, none⟩ u k (fun e => hne (by rw [e]))⟩
/-- A reader that the call made itself: all that was there stays. -/
theorem Ch.below {B : Nat} (a : Ch g w w') (hg : B ≤ g) (hB : B ≤ w.heap.size) : Below B w w' :=
  ⟨a.os, a.tape, a.output, a.size, fun k hk => a.block k (by omega) (fun e => by injection e; omega)⟩

theorem Bs.ch {v : Value} {l : List UInt8} (hb : Bs w v l) (hc : Ch g w w') (hn : NoB w g) : Bs w' v l :=
  Rd.keep hb fun a u hu hcell => by
    obtain ⟨b, _, rfl⟩ := List.mem_map.1 hu
    have hne : a.block ≠ g := fun e => hn a _ e hcell
    exact World.grownBy.cell hc hcell (fun e => hne (by injection e))

theorem OwnB.ch {base : Nat} {v : Value} {l : List UInt8} (hb : OwnB w base v l) (hc : Ch g w w') (hn : ∀ cs, w.heap[g]? ≠ some (.cells cs 5 (0, 0))) : OwnB w' base v l := by
  rcases hb.2 with ⟨rfl, h0⟩ | ⟨k, cap, cur, rfl, hbg, hg, h1⟩
  · exact ⟨hb.1, .inl ⟨rfl, h0⟩⟩
  · have hne : k ≠ g := fun e => hn cur (by rw [← e]; exact hg)
    exact ⟨hb.1, .inr ⟨k, cap, cur, rfl, hbg, (hc.block k (Array.getElem?_eq_some_iff.1 hg).1 (fun e => hne (by injection e))).trans hg, h1⟩⟩

theorem NoB.of {p v x : Value} {t : TypeId} {fr : Nat × Nat} (hh : w.heap[g]? = some (.cells #[p, v, x] t fr)) (hp : ∀ n, p ≠ .int .u8 n) (hv : ∀ n, v ≠ .int .u8 n) (hx : ∀ n, x ≠ .int .u8 n) : NoB w g := by
  intro a n ha hc
  unfold World.cell? at hc
  rw [ha, hh] at hc
  simp only [] at hc
  split at hc
  · cases hc
  · match hi : a.off with
    | 0 => rw [hi] at hc; simp at hc; exact hp n hc
    | 1 => rw [hi] at hc; simp at hc; exact hv n hc
    | 2 => rw [hi] at hc; simp at hc; exact hx n hc
    | k + 3 => rw [hi] at hc; simp at hc

theorem Bs.not8 {v : Value} {l : List UInt8} (hb : Bs w v l) : ∀ n, v ≠ .int .u8 n := by
  obtain ⟨A, c, rfl⟩ := hb.form
  intro n e
  cases e

variable {l : List UInt8} {e : Int}
theorem WR.noB (hr : WR w g l e) : NoB w g := by
  obtain ⟨v, hh, hb, _⟩ := hr
  exact NoB.of hh (fun _ e => by cases e) hb.not8 (fun _ e => by cases e)
theorem WR.lt (hr : WR w g l e) : g < w.heap.size := by
  obtain ⟨v, hh, _⟩ := hr
  exact (Array.getElem?_eq_some_iff.1 hh).1
theorem WR.not5 (hr : WR w g l e) : ∀ cs, w.heap[g]? ≠ some (.cells cs 5 (0, 0)) := by
  obtain ⟨v, hh, _⟩ := hr
  intro cs hc
  rw [hh] at hc
  injection hc with hc
  injection hc with _ hc _
  exact absurd hc (by decide)
theorem WR.below (hr : WR w g l e) (hb : Below w.heap.size w w') : WR w' g l e := by
  have hlt := hr.lt
  obtain ⟨v, hh, hbs, he⟩ := hr
  exact ⟨v, (hb.block g hlt).trans hh, hbs.below hb, he⟩
/-- One reader is kept while another one changes. -/
theorem WR.ch (hr : WR w g l e) (hc : Ch h w w') (hne : g ≠ h) (hn : NoB w h) : WR w' g l e := by
  have hlt := hr.lt
  obtain ⟨v, hh, hbs, he⟩ := hr
  exact ⟨v, (hc.block g hlt (fun e => hne (by injection e))).trans hh, hbs.ch hc hn, he⟩
theorem WR.set1 (hr : WR w g l e) {v : Value} {l' : List UInt8} (hb : Bs w v l') (he : e ≠ 0 → l' = []) : WR (w.setCell ⟨g, 1, none⟩ v) g l' e := by
  have hn := hr.noB
  obtain ⟨v0, hh, _, _⟩ := hr
  refine ⟨v, ?_, hb.ch (Ch.set w g 1 v) hn, he⟩
  have := heap_setCell_same w g 1 _ 83 v hh
  simpa using this
theorem WR.fail (hr : WR w g l e) (e1 : Int) : WR ((w.setCell ⟨g, 2, none⟩ (.int .i64 e1)).setCell ⟨g, 1, none⟩ (.slice none 0 0)) g [] e1 := by
  obtain ⟨v0, hh, _, _⟩ := hr
  refine ⟨.slice none 0 0, ?_, Bs.nil _, fun _ => rfl⟩
  have h1 := heap_setCell_same w g 2 _ 83 (.int .i64 e1) hh
  have h2 := heap_setCell_same _ g 1 _ 83 (.slice none 0 0) h1
  simpa using h2
end

/-- What Fail leaves. -/
def FailPost (g : Nat) (l : List UInt8) (e e1 : Int) (w : World) (en : Ending) (w' : World) : Prop :=
  en = .returned (.tuple #[]) ∧ WR w' g (if e ≠ 0 ∨ e1 = 0 then l else []) (if e ≠ 0 ∨ e1 = 0 then e else e1) ∧ Ch g w w'

set_option maxRecDepth 100000 in
set_option maxHeartbeats 400000 in
theorem fail_any (g : Nat) (l : List UInt8) (e e1 : Int) (w : World) (h : WR w g l e) :
    Calls Try.prog 129 #[.pointer (some ⟨g, 0, none⟩), .int .i64 e1] w (FailPost g l e e1 w) := by
  have H := hid h
  obtain ⟨v, hg, _, _⟩ := h
  have hc1 := cellAt hg 1
  have hc2 := cellAt hg 2
  have hf1 := freeAt hg 1
  have hf2 := freeAt hg 2
  simp at hc1 hc2
  clear hg
  by_cases he : e = 0
  · have he' : (e != 0) = false := by simp [he]
    by_cases he1 : e1 = 0
    · have he1' : (e1 == 0) = true := by simp [he1]
      have HD : Hid (e ≠ 0 ∨ e1 = 0) := .inr he1
      clear he he1
      go_enter Try.func129, Try.ntmps129
      go_wp2_with (go_at_call 52; refine (err_any g l e _ H.out).mono ?_; rintro en w' ⟨rfl, rfl⟩)
      refine bodyPost_ret (results_none rfl _ _ _) rfl ?_
      exact ⟨rfl, by rw [if_pos HD.out, if_pos HD.out]; exact H.out, Ch.refl⟩
    · have he1' : (e1 == 0) = false := by simp [he1]
      have HD : Hid (¬ (e ≠ 0 ∨ e1 = 0)) := fun x => x.elim (fun y => y he) he1
      clear he he1
      go_enter Try.func129, Try.ntmps129
      go_wp2_with (go_at_call 52; refine (err_any g l e _ H.out).mono ?_; rintro en w' ⟨rfl, rfl⟩)
      go_end0
      exact ⟨rfl, by rw [if_neg HD.out, if_neg HD.out]; exact H.out.fail e1, (Ch.set _ _ _ _).trans (Ch.set _ _ _ _)⟩
  · have he' : (e != 0) = true := by simp [he]
    have HD : Hid (e ≠ 0 ∨ e1 = 0) := .inl he
    clear he
    go_enter Try.func129, Try.ntmps129
    go_wp2_with (go_at_call 52; refine (err_any g l e _ H.out).mono ?_; rintro en w' ⟨rfl, rfl⟩)
    refine bodyPost_ret (results_none rfl _ _ _) rfl ?_
    exact ⟨rfl, by rw [if_pos HD.out, if_pos HD.out]; exact H.out, Ch.refl⟩
end Go.Proofs.Ytpoofeiajmkfdaa
