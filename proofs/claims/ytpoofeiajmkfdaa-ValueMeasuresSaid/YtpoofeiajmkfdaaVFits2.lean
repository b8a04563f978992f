/-
  withinLimits, Right of the program: contracts.
-/
import Derived.Test.YtpoofeiajmkfdaaVFits
namespace Go.Proofs.Ytpoofeiajmkfdaa
open Go.RowKit

set_option maxRecDepth 100000 in
set_option maxHeartbeats 1000000 in
theorem within_any (v : V) (a : Value) (w : World) (S : Nat → Prop) (hv : VA w S a v) :
    Calls Try.prog 58 #[a] w fun e w' => e = .returned (.bool (V.within v)) ∧ Below w.heap.size w w' := by
  have HD : Hid (V.within v = fitB v 16 1000) := by show _ = _; rfl
  have HVV := hid (hv.more (S' := fun b => b < w.heap.size) (fun _ _ h => h))
  have C : Hid (∀ W : World, Below w.heap.size w W → Nd W (w.heap.size + 1) 1000 → Calls Try.prog 91 #[a, .int .i64 16, .pointer (some ⟨w.heap.size + 1, 0, none⟩)] W (FitPost (fitB v 16 1000) (V.size v) (w.heap.size + 1) 1000 W)) := fun W hW hN =>
    fits_any _ v a 16 1000 (w.heap.size + 1) W (fun b => b < w.heap.size) (Nat.le_refl _) (HVV.out.below hW) (fun b hb => by omega) hN (by omega) (by omega)
  obtain ⟨k, n, s, l, ks⟩ := v
  obtain ⟨A, c, A', c', ics, rfl, ho, hl, hr, hvs, hk⟩ := hv.open_
  clear hv ho hr hvs hk HVV
  generalize V.within (.mk k n s l ks) = dd at HD
  generalize fitB (.mk k n s l ks) 16 1000 = q at HD C
  generalize V.size (.mk k n s l ks) = z at C
  have HB : Hid (∀ cs, Below w.heap.size w ((w.alloc (.cells cs 26)).alloc (.cells #[.int .i64 1000] 3)) ∧ Nd ((w.alloc (.cells cs 26)).alloc (.cells #[.int .i64 1000] 3)) (w.heap.size + 1) 1000) := fun cs =>
    ⟨bstep (below_box _) (below_box _), by have := heap_alloc_new (w.alloc (.cells cs 26)) (.cells #[.int .i64 1000] 3); simpa [Nd] using this⟩
  go_enter Try.func58, Try.ntmps58
  go_wp2_with (go_at_call 91; refine (C.out _ (HB.out _).1 (HB.out _).2).mono ?_; rintro e w1 ⟨M, rfl, hn1, hM, _, hch⟩)
  go_ret
  exact ⟨ret_bool HD.out.symm, (HB.out _).1.trans (hch.below (by omega) (by simp; omega))⟩

set_option maxRecDepth 100000 in
set_option maxHeartbeats 1000000 in
theorem right_any (v : V) (a : Value) (w : World) (S : Nat → Prop) (hv : VA w S a v) :
    Calls Try.prog 30 #[a] w fun e w' => e = .returned (.bool (V.right v)) ∧ Below w.heap.size w w' := by
  have C64 : Hid (CB 64 a w (V.wf v)) := fun W hW => wellFormed_any _ v a W S (Nat.le_refl _) (hv.below hW)
  have C58 : Hid (CB 58 a w (V.within v)) := fun W hW => within_any v a W S (hv.below hW)
  have C65 : Hid (CB 65 a w (V.fut v)) := fun W hW => fut_any _ v a W S (Nat.le_refl _) (hv.below hW)
  have HD : Hid (V.right v = (V.within v && V.wf v && !V.fut v)) := by show _ = _; rfl
  obtain ⟨k, n, s, l, ks⟩ := v
  obtain ⟨A, c, A', c', ics, rfl, ho, hl, hr, hvs, hk⟩ := hv.open_
  clear hv ho hr hvs hk
  generalize V.right (.mk k n s l ks) = dd at HD
  generalize V.wf (.mk k n s l ks) = x2 at HD C64
  generalize V.within (.mk k n s l ks) = x1 at HD C58
  generalize V.fut (.mk k n s l ks) = x3 at HD C65
  cases x1
  · go_enter Try.func30, Try.ntmps30
    go_wp2_with (go_at_call 58; refine (C58.out _ (below_box _)).mono ?_; rintro e w1 ⟨rfl, hb1⟩)
    go_ret
    exact ⟨ret_bool (by rw [HD.out]; simp), bstep (below_box _) hb1⟩
  · cases x2
    · go_enter Try.func30, Try.ntmps30
      go_wp2_with (first
          | (go_at_call 58; refine (C58.out _ (below_box _)).mono ?_; rintro e w1 ⟨rfl, hb1⟩; have HX1 := hid (Bx.refl.step hb1); clear hb1; obtain ⟨p0, p1, p2, p3, p4⟩ := HX1.out.cells)
          | (go_at_call 64; refine (C64.out _ HX1.out.below).mono ?_; rintro e w2 ⟨rfl, hb2⟩; have HX2 := hid (HX1.out.step hb2); clear hb2 p0 p1 p2 p3 p4))
      go_ret
      exact ⟨ret_bool (by rw [HD.out]; simp), HX2.out.below⟩
    · cases x3
      all_goals
        go_enter Try.func30, Try.ntmps30
        go_wp2_with (first
          | (go_at_call 58; refine (C58.out _ (below_box _)).mono ?_; rintro e w1 ⟨rfl, hb1⟩; have HX1 := hid (Bx.refl.step hb1); clear hb1; obtain ⟨p0, p1, p2, p3, p4⟩ := HX1.out.cells)
          | (go_at_call 64; refine (C64.out _ HX1.out.below).mono ?_; rintro e w2 ⟨rfl, hb2⟩; have HX2 := hid (HX1.out.step hb2); clear hb2 p0 p1 p2 p3 p4; obtain ⟨p0, p1, p2, p3, p4⟩ := HX2.out.cells)
          | (go_at_call 65; refine (C65.out _ HX2.out.below).mono ?_; rintro e w3 ⟨rfl, hb3⟩; have HX3 := hid (HX2.out.step hb3); clear hb3 p0 p1 p2 p3 p4))
        go_ret
        exact ⟨ret_bool (by rw [HD.out]; simp), HX3.out.below⟩
end Go.Proofs.Ytpoofeiajmkfdaa
