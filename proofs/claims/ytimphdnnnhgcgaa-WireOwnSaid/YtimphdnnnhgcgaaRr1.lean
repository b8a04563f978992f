/-
  The reference's Reader in memory, and its small methods: stopped, set, Open, Err, Left, End, Fail.
-/
import Derived.Test.YtimphdnnnhgcgaaBack
namespace Go.Proofs.Ytimphdnnnhgcgaa
open Go.RowKit

/-- The reference's Reader at block g has the bytes l left, and the error e. -/
def RR (w : World) (g : Nat) (l : List UInt8) (e : Int) : Prop :=
  ∃ v, w.heap[g]? = some (.cells #[.bool true, v, .int .i64 e] 55 (0, 0)) ∧ Bs w v l ∧ (e ≠ 0 → l = [])

section
variable {w w' : World} {g h : Nat} {l : List UInt8} {e : Int}
theorem RR.noB (hr : RR w g l e) : NoB w g := by
  obtain ⟨v, hh, hb, _⟩ := hr
  exact NoB.of hh (fun _ e => by cases e) hb.not8 (fun _ e => by cases e)
theorem RR.lt (hr : RR w g l e) : g < w.heap.size := by
  obtain ⟨v, hh, _⟩ := hr
  exact (Array.getElem?_eq_some_iff.1 hh).1
theorem RR.below (hr : RR w g l e) (hb : Below w.heap.size w w') : RR w' g l e := by
  have hlt := hr.lt
  obtain ⟨v, hh, hbs, he⟩ := hr
  exact ⟨v, (hb.block g hlt).trans hh, hbs.below hb, he⟩
theorem RR.ch (hr : RR w g l e) (hc : Ch h w w') (hne : g ≠ h) (hn : NoB w h) : RR w' g l e := by
  have hlt := hr.lt
  obtain ⟨v, hh, hbs, he⟩ := hr
  exact ⟨v, (hc.block g hlt (fun e => hne (by injection e))).trans hh, hbs.ch hc hn, he⟩
theorem RR.set1 (hr : RR w g l e) {v : Value} {l' : List UInt8} (hb : Bs w v l') (he : e ≠ 0 → l' = []) : RR (w.setCell ⟨g, 1, none⟩ v) g l' e := by
  have hn := hr.noB
  obtain ⟨v0, hh, _, _⟩ := hr
  refine ⟨v, ?_, hb.ch (Ch.set w g 1 v) hn, he⟩
  have := heap_setCell_same w g 1 _ 55 v hh
  simpa using this
theorem RR.fail (hr : RR w g l e) (e1 : Int) : RR ((w.setCell ⟨g, 2, none⟩ (.int .i64 e1)).setCell ⟨g, 1, none⟩ (.slice none 0 0)) g [] e1 := by
  obtain ⟨v0, hh, _, _⟩ := hr
  refine ⟨.slice none 0 0, ?_, Bs.nil _, fun _ => rfl⟩
  have h1 := heap_setCell_same w g 2 _ 55 (.int .i64 e1) hh
  have h2 := heap_setCell_same _ g 1 _ 55 (.slice none 0 0) h1
  simpa using h2
/-- The two kinds of readers never lie in one block. -/
theorem WR.ne_RR {l' : List UInt8} {e' : Int} (hw : WR w g l e) (hr : RR w h l' e') : g ≠ h := by
  rintro rfl
  obtain ⟨v, hh, _⟩ := hw
  obtain ⟨v', hh', _⟩ := hr
  rw [hh] at hh'
  injection hh' with hh'
  injection hh' with _ hc _
  exact absurd hc (by decide)
end

set_option maxRecDepth 100000 in
set_option maxHeartbeats 400000 in
theorem stopped_any (g : Nat) (l : List UInt8) (e : Int) (w : World) (h : RR w g l e) :
    Calls Try.prog 40 #[.pointer (some ⟨g, 0, none⟩)] w fun en w' => en = .returned (.bool (e != 0)) ∧ w = w' := by
  obtain ⟨v, hg, _, _⟩ := h
  have hc0 := cellAt hg 0
  have hc2 := cellAt hg 2
  simp at hc0 hc2
  clear hg
  go_enter Try.func40, Try.ntmps40
  go_wp2
  go_ret
  exact ⟨rfl, rfl⟩

def SetPost (g : Nat) (e1 : Int) (w : World) (en : Ending) (w' : World) : Prop := en = .returned (.tuple #[]) ∧ RR w' g [] e1 ∧ Ch g w w'

set_option maxRecDepth 100000 in
set_option maxHeartbeats 400000 in
theorem set_any (g : Nat) (l : List UInt8) (e e1 : Int) (w : World) (h : RR w g l e) :
    Calls Try.prog 42 #[.pointer (some ⟨g, 0, none⟩), .int .i64 e1] w (SetPost g e1 w) := by
  have H := hid h
  obtain ⟨v, hg, _, _⟩ := h
  have hc1 := cellAt hg 1
  have hc2 := cellAt hg 2
  have hf1 := freeAt hg 1
  have hf2 := freeAt hg 2
  simp at hc1 hc2
  clear hg
  go_enter Try.func42, Try.ntmps42
  go_wp2
  go_end0
  exact ⟨rfl, H.out.fail e1, (Ch.set _ _ _ _).trans (Ch.set _ _ _ _)⟩

def ROpenPost (l : List UInt8) (w : World) (en : Ending) (w' : World) : Prop :=
  ∃ g, en = .returned (.pointer (some ⟨g, 0, none⟩)) ∧ RR w' g l 0 ∧ Below w.heap.size w w' ∧ w.heap.size ≤ g

set_option maxRecDepth 100000 in
set_option maxHeartbeats 400000 in
theorem ropen_any (v : Value) (l : List UInt8) (w : World) (h : Bs w v l) (hl : l.length ≤ 1099511627776) :
    Calls Try.prog 19 #[v] w (ROpenPost l w) := by
  go_enter Try.func19, Try.ntmps19
  go_wp2_with (at_builtin; refine wpList_app0 rfl (.tmp 3) (.tmp 4) rfl v l rfl rfl h (by omega) ?_; intro v1 w1 hown1 hb1; obtain ⟨A1, c1, rfl⟩ := hown1.bs.form)
  go_ret
  have hg := heap_alloc_new w1 (.cells #[.bool true, .slice A1 l.length c1, .int .i64 0] 55)
  have hb2 : Below w1.heap.size w1 (w1.alloc (.cells #[.bool true, .slice A1 l.length c1, .int .i64 0] 55)) := (Below.refl _ _).alloc (Nat.le_refl _) _
  exact ⟨w1.heap.size, rfl, ⟨_, hg, hown1.bs.below hb2, fun h => absurd rfl h⟩, bstep hb1 hb2, hb1.size⟩

set_option maxRecDepth 100000 in
set_option maxHeartbeats 400000 in
theorem rerr_any (g : Nat) (l : List UInt8) (e : Int) (w : World) (h : RR w g l e) :
    Calls Try.prog 35 #[.pointer (some ⟨g, 0, none⟩)] w fun en w' => en = .returned (.int .i64 e) ∧ w = w' := by
  obtain ⟨v, hg, _, _⟩ := h
  have hc0 := cellAt hg 0
  have hc2 := cellAt hg 2
  simp at hc0 hc2
  clear hg
  go_enter Try.func35, Try.ntmps35
  go_wp2
  go_ret
  exact ⟨rfl, rfl⟩

set_option maxRecDepth 100000 in
set_option maxHeartbeats 400000 in
theorem rleft_any (g : Nat) (l : List UInt8) (e : Int) (w : World) (h : RR w g l e) :
    Calls Try.prog 37 #[.pointer (some ⟨g, 0, none⟩)] w fun en w' => en = .returned (.int .i64 (l.length : Int)) ∧ w = w' := by
  have H := hid h
  obtain ⟨v, hg, hb, hn⟩ := h
  obtain ⟨A, c, rfl⟩ := hb.form
  have hc1 := cellAt hg 1
  simp at hc1
  clear hg hb
  by_cases he : e = 0
  · have he' : (e != 0) = false := by simp [he]
    clear he hn
    go_enter Try.func37, Try.ntmps37
    go_wp2_with (go_at_call 40; refine (stopped_any g l e _ H.out).mono ?_; rintro en w' ⟨rfl, rfl⟩)
    go_ret
    exact ⟨rfl, rfl⟩
  · have he' : (e != 0) = true := by simp [he]
    have hl : l = [] := hn he
    subst hl
    clear he hn
    go_enter Try.func37, Try.ntmps37
    go_wp2_with (go_at_call 40; refine (stopped_any g [] e _ H.out).mono ?_; rintro en w' ⟨rfl, rfl⟩)
    go_ret
    exact ⟨rfl, rfl⟩

set_option maxRecDepth 100000 in
set_option maxHeartbeats 400000 in
theorem rend_any (g : Nat) (l : List UInt8) (e : Int) (w : World) (h : RR w g l e) :
    Calls Try.prog 36 #[.pointer (some ⟨g, 0, none⟩)] w fun en w' => en = .returned (.int .i64 (endOf l e)) ∧ w = w' := by
  have H := hid h
  obtain ⟨v, hg, hb, _⟩ := h
  obtain ⟨A, c, rfl⟩ := hb.form
  have hc1 := cellAt hg 1
  simp at hc1
  clear hg hb
  by_cases he : e = 0
  · have he' : (e != 0) = false := by simp [he]
    by_cases hl : l.length = 0
    · have HR : Hid (endOf l e = 0) := by show _ = _; unfold endOf; rw [if_neg (by omega), if_pos hl]
      have hl' : ¬ (0 < l.length) := by omega
      clear hl he
      go_enter Try.func36, Try.ntmps36
      go_wp2_with (go_at_call 35; refine (rerr_any g l e _ H.out).mono ?_; rintro en w' ⟨rfl, rfl⟩)
      go_ret
      exact ⟨ret_int HR.out.symm, rfl⟩
    · have HR : Hid (endOf l e = 3) := by show _ = _; unfold endOf; rw [if_neg (by omega), if_neg hl]
      have hl' : 0 < l.length := by omega
      clear hl he
      go_enter Try.func36, Try.ntmps36
      go_wp2_with (go_at_call 35; refine (rerr_any g l e _ H.out).mono ?_; rintro en w' ⟨rfl, rfl⟩)
      go_ret
      exact ⟨ret_int HR.out.symm, rfl⟩
  · have he' : (e != 0) = true := by simp [he]
    have HR : Hid (endOf l e = e) := by show _ = _; unfold endOf; rw [if_pos he]
    clear he
    go_enter Try.func36, Try.ntmps36
    go_wp2_with (go_at_call 35; refine (rerr_any g l e _ H.out).mono ?_; rintro en w' ⟨rfl, rfl⟩)
    go_ret
    exact ⟨ret_int HR.out.symm, rfl⟩

/-- What Fail leaves. -/
def RFailPost (g : Nat) (l : List UInt8) (e e1 : Int) (w : World) (en : Ending) (w' : World) : Prop :=
  en = .returned (.tuple #[]) ∧ RR w' g (if e ≠ 0 ∨ e1 = 0 then l else []) (if e ≠ 0 ∨ e1 = 0 then e else e1) ∧ Ch g w w'

set_option maxRecDepth 100000 in
set_option maxHeartbeats 400000 in
theorem rfail_any (g : Nat) (l : List UInt8) (e e1 : Int) (w : World) (h : RR w g l e) :
    Calls Try.prog 34 #[.pointer (some ⟨g, 0, none⟩), .int .i64 e1] w (RFailPost g l e e1 w) := by
  have H := hid h
  clear h
  by_cases he : e = 0
  · have he' : (e != 0) = false := by simp [he]
    by_cases he1 : e1 = 0
    · have he1' : (e1 != 0) = false := by simp [he1]
      have HD : Hid (e ≠ 0 ∨ e1 = 0) := .inr he1
      clear he he1
      go_enter Try.func34, Try.ntmps34
      go_wp2_with (go_at_call 40; refine (stopped_any g l e _ H.out).mono ?_; rintro en w' ⟨rfl, rfl⟩)
      go_end0
      exact ⟨rfl, by rw [if_pos HD.out, if_pos HD.out]; exact H.out, Ch.refl⟩
    · have he1' : (e1 != 0) = true := by simp [he1]
      have HD : Hid (¬ (e ≠ 0 ∨ e1 = 0)) := fun x => x.elim (fun y => y he) he1
      clear he he1
      go_enter Try.func34, Try.ntmps34
      go_wp2_with (first
        | (go_at_call 40; refine (stopped_any g l e _ H.out).mono ?_; rintro en w' ⟨rfl, rfl⟩)
        | (go_at_call 42; refine (set_any g l e e1 _ H.out).mono ?_; rintro en w' ⟨rfl, hr2, hch2⟩))
      go_end0
      exact ⟨rfl, by rw [if_neg HD.out, if_neg HD.out]; exact hr2, hch2⟩
  · have he' : (e != 0) = true := by simp [he]
    have HD : Hid (e ≠ 0 ∨ e1 = 0) := .inl he
    clear he
    go_enter Try.func34, Try.ntmps34
    go_wp2_with (go_at_call 40; refine (stopped_any g l e _ H.out).mono ?_; rintro en w' ⟨rfl, rfl⟩)
    go_end0
    exact ⟨rfl, by rw [if_pos HD.out, if_pos HD.out]; exact H.out, Ch.refl⟩
end Go.Proofs.Ytimphdnnnhgcgaa
