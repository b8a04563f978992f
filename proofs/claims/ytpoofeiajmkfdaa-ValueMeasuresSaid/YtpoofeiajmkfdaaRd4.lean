/-
  The program's Reader: Text and Bool, and Open.
-/
import Derived.Test.YtpoofeiajmkfdaaRd3
namespace Go.Proofs.Ytpoofeiajmkfdaa
open Go.RowKit

/-- What Text gives: the bytes left, the error, the string's bytes. -/
def rText (l : List UInt8) (e most : Int) : List UInt8 × Int × List UInt8 :=
  if (rInt l e 0 most).2.1 ≠ 0 then ((rInt l e 0 most).1, (rInt l e 0 most).2.1, [])
  else if (rInt l e 0 most).1.length < (rInt l e 0 most).2.2.toNat then ([], 4, [])
  else ((rInt l e 0 most).1.drop (rInt l e 0 most).2.2.toNat, 0, (rInt l e 0 most).1.take (rInt l e 0 most).2.2.toNat)

def strOf (l : List UInt8) : Value := .string ⟨l.toArray⟩

def TextPost (g : Nat) (l : List UInt8) (e most : Int) (w : World) (en : Ending) (w' : World) : Prop :=
  en = .returned (strOf (rText l e most).2.2) ∧ WR w' g (rText l e most).1 (rText l e most).2.1 ∧ Ch g w w'

theorem rInt_pos {l : List UInt8} {e lo hi : Int} (h : (rInt l e lo hi).2.1 = 0) : lo ≤ (rInt l e lo hi).2.2 ∧ (rInt l e lo hi).2.2 ≤ hi := by
  unfold rInt at h ⊢
  split
  · rename_i h1; rw [if_pos h1] at h; exact absurd h h1
  · rename_i h1; rw [if_neg h1] at h
    split
    · rename_i h2; rw [if_pos h2] at h; exact absurd h h2
    · rename_i h2; rw [if_neg h2] at h
      split
      · rename_i h3; rw [if_pos h3] at h; simp at h
      · rename_i h3; simp; omega

set_option maxRecDepth 100000 in
/-- 'string(b)'. -/
theorem Bs.conv {w : World} {A : Option Addr} {n c : Nat} {l : List UInt8} (h : Bs w (.slice A n c) l) :
    (convert 50 9 (.slice A n c)).run Try.prog w = .ok (strOf l) w := by
  obtain ⟨A', c', hv, _, _, h3⟩ := h
  injection hv with e1 e2 e3
  subst e1 e2 e3
  rcases h3 with h3 | ⟨ad, rfl, h3⟩
  · have hl : l = [] := List.map_eq_nil_iff.1 h3
    subst hl
    rw [run_convert_bytes_string w 50 9 5 A _ c Try.underlying50 Try.underlying5 Try.underlying9]
    cases A with
    | none => simp [Conv.bytesToString]; rfl
    | some ad =>
      have := run_bytesToString (P := Try.prog) w ad 0 c [] (by simp [loadCells, loadCellsFrom])
      exact this
  · have := run_convert_bytes_back (P := Try.prog) w 50 9 5 ad c l Try.underlying50 Try.underlying5 Try.underlying9 (fun j hj => h3 j _ (by simp [by8, hj]))
    simpa [strOf] using this

set_option maxRecDepth 100000 in
set_option maxHeartbeats 400000 in
theorem text_any (g : Nat) (l : List UInt8) (e most : Int) (w : World) (h : WR w g l e) :
    Calls Try.prog 131 #[.pointer (some ⟨g, 0, none⟩), .int .i64 most] w (TextPost g l e most w) := by
  have H := hid h
  have HI : Hid (∀ en w', (en = .returned (strOf (rText l e most).2.2) ∧ WR w' g (rText l e most).1 (rText l e most).2.1 ∧ Ch g w w') → TextPost g l e most w en w') := fun _ _ h => h
  have C21 := hid (fun W (h : WR W g l e) => int_any g l e 0 most W h)
  have HK := hid (@rInt_pos l e 0 most)
  unfold rText at HI
  unfold IntPost at C21
  generalize rInt l e 0 most = p at C21 HI HK
  obtain ⟨l1, e1, n⟩ := p
  clear h
  by_cases he1 : e1 = 0
  · subst he1
    have hn := HK.out rfl
    obtain ⟨hn0, _⟩ := hn
    obtain ⟨k, rfl⟩ := Int.eq_ofNat_of_zero_le hn0
    by_cases hk : l1.length < k
    · go_enter Try.func131, Try.ntmps131
      go_wp2_with (first
        | (go_at_call 130; refine (C21.out _ H.out).mono ?_; rintro en w1 ⟨rfl, hwr1, hch1⟩
           have HW1 := hid hwr1
           obtain ⟨v1, hg1, hb1, _⟩ := hwr1
           obtain ⟨A1, c1, rfl⟩ := hb1.form
           have hc1 := cellAt hg1 1
           simp at hc1
           clear hg1 hb1)
        | (go_at_call 52; refine (err_any g l1 0 _ HW1.out).mono ?_; rintro en w' ⟨rfl, rfl⟩)
        | (go_at_call 129; refine (fail_any g l1 0 4 _ HW1.out).mono ?_; rintro en w2 ⟨rfl, hwr2, hch2⟩))
      go_ret
      refine HI.out _ _ ?_
      simp only [ne_eq, not_true_eq_false, if_false, Int.toNat_natCast, if_pos hk]
      exact ⟨rfl, by simpa using hwr2, hch1.trans hch2⟩
    · have hk' : k ≤ l1.length := by omega
      go_enter Try.func131, Try.ntmps131
      go_wp2_with (first
        | (go_at_call 130; refine (C21.out _ H.out).mono ?_; rintro en w1 ⟨rfl, hwr1, hch1⟩
           have HW1 := hid hwr1
           obtain ⟨v1, hg1, hb1, _⟩ := hwr1
           obtain ⟨A1, c1, rfl⟩ := hb1.form
           have hc1 := cellAt hg1 1
           have hf1 := freeAt hg1 1
           simp at hc1
           obtain ⟨A2, hcut2, hb2⟩ := hb1.upto k hk'
           obtain ⟨A3, hcut3, hb3⟩ := hb1.from k hk'
           have hconv := hb2.conv
           have HB3 := hid hb3
           generalize hst : strOf (l1.take k) = sv at hconv
           have HST := hid hst
           clear hg1 hb1 hb2 hb3 hst)
        | (go_at_call 52; refine (err_any g l1 0 _ HW1.out).mono ?_; rintro en w' ⟨rfl, rfl⟩))
      go_ret
      refine HI.out _ _ ?_
      simp only [ne_eq, not_true_eq_false, if_false, Int.toNat_natCast, if_neg hk]
      exact ⟨by rw [HST.out]; rfl, HW1.out.set1 HB3.out (fun h => absurd rfl h), hch1.trans (Ch.set _ _ _ _)⟩
  · have he1' : (e1 != 0) = true := by simp [he1]
    have HR := hid he1
    clear he1
    go_enter Try.func131, Try.ntmps131
    go_wp2_with (first
      | (go_at_call 130; refine (C21.out _ H.out).mono ?_; rintro en w1 ⟨rfl, hwr1, hch1⟩)
      | (go_at_call 52; refine (err_any g l1 e1 _ hwr1).mono ?_; rintro en w' ⟨rfl, rfl⟩))
    go_ret
    refine HI.out _ _ ?_
    simp only [ne_eq, if_pos HR.out]
    exact ⟨rfl, hwr1, hch1⟩

/-- What Bool gives. -/
def rBool (l : List UInt8) (e : Int) : List UInt8 × Int × Bool :=
  if e ≠ 0 then (l, e, false)
  else if l.length = 0 then ([], 4, false)
  else if 1 < (l.getD 0 0).toNat then ([], 3, false)
  else (l.drop 1, 0, (l.getD 0 0).toNat == 1)

def BoolPost (g : Nat) (l : List UInt8) (e : Int) (w : World) (en : Ending) (w' : World) : Prop :=
  en = .returned (.bool (rBool l e).2.2) ∧ WR w' g (rBool l e).1 (rBool l e).2.1 ∧ Ch g w w'

/-- What Open leaves: a new Reader. -/
def OpenPost (l : List UInt8) (w : World) (en : Ending) (w' : World) : Prop :=
  ∃ g, en = .returned (.pointer (some ⟨g, 0, none⟩)) ∧ WR w' g l 0 ∧ Below w.heap.size w w' ∧ w.heap.size ≤ g

set_option maxRecDepth 100000 in
set_option maxHeartbeats 400000 in
theorem open_any (v : Value) (l : List UInt8) (w : World) (h : Bs w v l) (hl : l.length ≤ 1099511627776) :
    Calls Try.prog 48 #[v] w (OpenPost l w) := by
  go_enter Try.func48, Try.ntmps48
  go_wp2_with (go_at_call 82; refine (clone_any v l 0 _ h (by omega) (by omega) hl).mono ?_; rintro en w1 ⟨v1, rfl, hown1, hb1⟩; obtain ⟨A1, c1, rfl⟩ := hown1.bs.form)
  go_ret
  have hg := heap_alloc_new w1 (.cells #[.pointer (some ⟨w1.heap.size, 0, none⟩), .slice A1 l.length c1, .int .i64 0] 83)
  have hb2 : Below w1.heap.size w1 (w1.alloc (.cells #[.pointer (some ⟨w1.heap.size, 0, none⟩), .slice A1 l.length c1, .int .i64 0] 83)) := (Below.refl _ _).alloc (Nat.le_refl _) _
  exact ⟨w1.heap.size, rfl, ⟨_, hg, hown1.bs.below hb2, fun h => absurd rfl h⟩, bstep hb1 hb2, hb1.size⟩
end Go.Proofs.Ytpoofeiajmkfdaa
