/-
  The reference's Reader: Text and Bool.
-/
import Derived.Test.YtimphdnnnhgcgaaRr3
namespace Go.Proofs.Ytimphdnnnhgcgaa
open Go.RowKit

def RTextPost (g : Nat) (l : List UInt8) (e most : Int) (w : World) (en : Ending) (w' : World) : Prop :=
  en = .returned (strOf (rText l e most).2.2) ∧ RR w' g (rText l e most).1 (rText l e most).2.1 ∧ Ch g w w'

set_option maxRecDepth 100000 in
set_option maxHeartbeats 400000 in
theorem rtext_any (g : Nat) (l : List UInt8) (e most : Int) (w : World) (h : RR w g l e) :
    Calls Try.prog 32 #[.pointer (some ⟨g, 0, none⟩), .int .i64 most] w (RTextPost g l e most w) := by
  have H := hid h
  have HI : Hid (∀ en w', (en = .returned (strOf (rText l e most).2.2) ∧ RR w' g (rText l e most).1 (rText l e most).2.1 ∧ Ch g w w') → RTextPost g l e most w en w') := fun _ _ h => h
  have C28 := hid (fun W (h : RR W g l e) => rint_any g l e 0 most W h)
  have HK := hid (@rInt_pos l e 0 most)
  unfold rText at HI
  unfold RIntPost at C28
  generalize rInt l e 0 most = p at C28 HI HK
  obtain ⟨l1, e1, n⟩ := p
  clear h
  by_cases he1 : e1 = 0
  · subst he1
    have hn := HK.out rfl
    obtain ⟨hn0, _⟩ := hn
    obtain ⟨k, rfl⟩ := Int.eq_ofNat_of_zero_le hn0
    by_cases hk : l1.length < k
    · go_enter Try.func32, Try.ntmps32
      go_wp2_with (first
        | (go_at_call 28; refine (C28.out _ H.out).mono ?_; rintro en w1 ⟨rfl, hwr1, hch1⟩
           have HW1 := hid hwr1
           obtain ⟨v1, hg1, hb1, _⟩ := hwr1
           obtain ⟨A1, c1, rfl⟩ := hb1.form
           have hc1 := cellAt hg1 1
           simp at hc1
           clear hg1 hb1)
        | (go_at_call 40; refine (stopped_any g l1 0 _ HW1.out).mono ?_; rintro en w' ⟨rfl, rfl⟩)
        | (go_at_call 42; refine (set_any g l1 0 4 _ HW1.out).mono ?_; rintro en w2 ⟨rfl, hwr2, hch2⟩))
      go_ret
      refine HI.out _ _ ?_
      simp only [ne_eq, not_true_eq_false, if_false, Int.toNat_natCast, if_pos hk]
      exact ⟨rfl, hwr2, hch1.trans hch2⟩
    · have hk' : k ≤ l1.length := by omega
      go_enter Try.func32, Try.ntmps32
      go_wp2_with (first
        | (go_at_call 28; refine (C28.out _ H.out).mono ?_; rintro en w1 ⟨rfl, hwr1, hch1⟩
           have HW1 := hid hwr1
           obtain ⟨v1, hg1, hb1, _⟩ := hwr1
           obtain ⟨A1, c1, rfl⟩ := hb1.form
           have hc1 := cellAt hg1 1
           have hf1 := freeAt hg1 1
           simp at hc1
           obtain ⟨A2, hcut2, hb2⟩ := hb1.upto k hk'
           obtain ⟨A3, hcut3, hb3⟩ := hb1.from k hk'
           have hconv := hb2.conv
           have HB3 := hid hb3
           generalize hst : strOf (l1.take k) = sv at hconv
           have HST := hid hst
           clear hg1 hb1 hb2 hb3 hst)
        | (go_at_call 40; refine (stopped_any g l1 0 _ HW1.out).mono ?_; rintro en w' ⟨rfl, rfl⟩))
      go_ret
      refine HI.out _ _ ?_
      simp only [ne_eq, not_true_eq_false, if_false, Int.toNat_natCast, if_neg hk]
      exact ⟨by rw [HST.out]; rfl, HW1.out.set1 HB3.out (fun h => absurd rfl h), hch1.trans (Ch.set _ _ _ _)⟩
  · have he1' : (e1 != 0) = true := by simp [he1]
    have HR := hid he1
    clear he1
    go_enter Try.func32, Try.ntmps32
    go_wp2_with (first
      | (go_at_call 28; refine (C28.out _ H.out).mono ?_; rintro en w1 ⟨rfl, hwr1, hch1⟩)
      | (go_at_call 40; refine (stopped_any g l1 e1 _ hwr1).mono ?_; rintro en w' ⟨rfl, rfl⟩))
    go_ret
    refine HI.out _ _ ?_
    simp only [ne_eq, if_pos HR.out]
    exact ⟨rfl, hwr1, hch1⟩

def RBoolPost (g : Nat) (l : List UInt8) (e : Int) (w : World) (en : Ending) (w' : World) : Prop :=
  en = .returned (.bool (rBool l e).2.2) ∧ RR w' g (rBool l e).1 (rBool l e).2.1 ∧ Ch g w w'

set_option maxRecDepth 100000 in
set_option maxHeartbeats 400000 in
theorem rbool_any (g : Nat) (l : List UInt8) (e : Int) (w : World) (h : RR w g l e) :
    Calls Try.prog 33 #[.pointer (some ⟨g, 0, none⟩)] w (RBoolPost g l e w) := by
  have H := hid h
  have HI : Hid (∀ en w', (en = .returned (.bool (rBool l e).2.2) ∧ RR w' g (rBool l e).1 (rBool l e).2.1 ∧ Ch g w w') → RBoolPost g l e w en w') := fun _ _ h => h
  unfold rBool at HI
  by_cases he : e = 0
  · subst he
    obtain ⟨v, hg, hb, _⟩ := h
    obtain ⟨A, c, rfl⟩ := hb.form
    have hc1 := cellAt hg 1
    have hf1 := freeAt hg 1
    simp at hc1
    clear hg
    have HB := hid hb
    clear hb
    by_cases hl : l.length = 0
    · have hl' : ((l.length : Int) == 0) = true := by rw [hl]; rfl
      have HL := hid hl
      clear hl
      go_enter Try.func33, Try.ntmps33
      go_wp2_with (first
        | (go_at_call 40; refine (stopped_any g l 0 _ H.out).mono ?_; rintro en w' ⟨rfl, rfl⟩)
        | (go_at_call 42; refine (set_any g l 0 4 _ H.out).mono ?_; rintro en w2 ⟨rfl, hwr2, hch2⟩))
      go_ret
      refine HI.out _ _ ?_
      simp only [ne_eq, not_true_eq_false, if_false, if_pos HL.out]
      exact ⟨rfl, hwr2, hch2⟩
    · have hl' : ((l.length : Int) == 0) = false := by rw [beq_eq_false_iff_ne]; omega
      have hpos : 0 < l.length := by omega
      obtain ⟨ad, rfl, hcell⟩ := HB.out.at 0 hpos
      have hcell0 : w.cell? ad = some (.int .u8 ((l.getD 0 0).toNat : Int)) := hcell
      obtain ⟨A3, hcut3', hb3⟩ := HB.out.from 1 hpos
      have hcut3 : ∀ W : World, (Instr.slice 22 (.slice (some ad) l.length c) (some (.int .i64 1)) none none).run Try.prog W = .ok (.slice A3 (l.length - 1) (c - 1)) W := hcut3'
      clear hcut3'
      have HB3 := hid hb3
      have HL := hid hl
      clear hb3 hcell hl
      have hlt : (l.getD 0 0).toNat < 256 := (l.getD 0 0).toNat_lt
      generalize (l.getD 0 0).toNat = x at hcell0 hlt HI
      by_cases hx : 1 < x
      · go_enter Try.func33, Try.ntmps33
        go_wp2_with (first
          | (go_at_call 40; refine (stopped_any g l 0 _ H.out).mono ?_; rintro en w' ⟨rfl, rfl⟩)
          | (go_at_call 42; refine (set_any g l 0 3 _ H.out).mono ?_; rintro en w2 ⟨rfl, hwr2, hch2⟩))
        go_ret
        refine HI.out _ _ ?_
        simp only [ne_eq, not_true_eq_false, if_false, if_neg HL.out, if_pos hx]
        exact ⟨rfl, hwr2, hch2⟩
      · go_enter Try.func33, Try.ntmps33
        go_wp2_with (go_at_call 40; refine (stopped_any g l 0 _ H.out).mono ?_; rintro en w' ⟨rfl, rfl⟩)
        go_ret
        refine HI.out _ _ ?_
        simp only [ne_eq, not_true_eq_false, if_false, if_neg HL.out, if_neg hx]
        exact ⟨ret_bool (by rw [Bool.eq_iff_iff]; simp; omega), H.out.set1 HB3.out (fun h => absurd rfl h), Ch.set _ _ _ _⟩
  · have he' : (e != 0) = true := by simp [he]
    have HR := hid he
    clear h he
    go_enter Try.func33, Try.ntmps33
    go_wp2_with (go_at_call 40; refine (stopped_any g l e _ H.out).mono ?_; rintro en w' ⟨rfl, rfl⟩)
    go_ret
    refine HI.out _ _ ?_
    simp only [ne_eq, if_pos HR.out]
    exact ⟨rfl, H.out, Ch.refl⟩
end Go.Proofs.Ytimphdnnnhgcgaa
