/-
  put and Encode of the reference.
-/
import Derived.Test.YtpoofeiajmkfdaaVEnc2
import Derived.Test.YtpoofeiajmkfdaaRef
namespace Go.Proofs.Ytpoofeiajmkfdaa
open Go.RowKit

theorem NewB.form' {w w' : World} {bs : List UInt8} {e : Ending} (h : NewB w bs e w') : ∃ A n c, e = .returned (.slice A n c) ∧ OwnB w' w.heap.size (.slice A n c) bs ∧ Below w.heap.size w w' := by
  obtain ⟨A, c, rfl, h1, h2⟩ := h.form
  exact ⟨A, _, c, rfl, h1, h2⟩
theorem Bs.form' {w : World} {v : Value} {bs : List UInt8} (h : Bs w v bs) : ∃ A n c, v = .slice A n c := by
  obtain ⟨A, c, rfl⟩ := h.form
  exact ⟨A, _, c, rfl⟩
theorem NewB.low {w w0 w' : World} {bs : List UInt8} {v : Value} (h : OwnB w' w.heap.size v bs) (h0 : w0.heap.size ≤ w.heap.size) : OwnB w' w0.heap.size v bs := h.lower h0

set_option maxRecDepth 100000 in
set_option maxHeartbeats 4000000 in
theorem rput_any (m : Nat) : ∀ (v : V) (bs : List UInt8) (bv a : Value) (w : World) (S : Nat → Prop), V.size v ≤ m → V.wf v = true → Bs w bv bs → VA w S a v → bs.length + (V.enc v).length ≤ 549755813888 →
    Calls Try.prog 81 #[bv, a] w (NewB w (bs ++ V.enc v)) := by
  induction m with
  | zero => intro v bs bv a w S h; have := V.size_pos v; omega
  | succ m ih =>
    intro v bs bv a w S hm hwf hbs hv hbd
    match v with
    | .mk k n s l ks =>
    obtain ⟨A, c, A', c', ics, rfl, ho, hl, hr, hvs, hk⟩ := hv.open_
    have HR := hid hr
    have HV := hid hvs
    have HK := hid hk
    have hfc := V.fit_cases (V.wf_fit hwf)
    have HWI := hid (V.wf_items hwf)
    have HM : Hid (∀ u ∈ l, V.size u ≤ m) := fun u hu => by have := V.size_mem hu; rw [V.size_mk] at hm; omega
    have PI : Hid (∀ W, Below w.heap.size w W → Calls Try.prog 107 #[bv, .int .i64 k] W (NewB W (bs ++ Wi.enc k))) := fun W hW => rputInt_any bv bs k W (hbs.below hW) (by omega) ho.1 ho.2.1
    have PN : Hid (∀ W v1 b1, OwnB W w.heap.size v1 b1 → b1.length ≤ 1099511627776 → Calls Try.prog 107 #[v1, .int .i64 n] W (NewB W (b1 ++ Wi.enc n))) := fun W v1 b1 h1 h2 => rputInt_any v1 b1 n W h1.bs h2 ho.2.2.1 ho.2.2.2.1
    have PL : Hid (∀ W v1 b1, OwnB W w.heap.size v1 b1 → b1.length ≤ 1099511627776 → Calls Try.prog 107 #[v1, .int .i64 (l.length : Int)] W (NewB W (b1 ++ Wi.enc l.length))) := fun W v1 b1 h1 h2 => rputInt_any v1 b1 l.length W h1.bs h2 (by omega) (by omega)
    have PT : Hid (∀ W v1 b1 (s : ByteArray), OwnB W w.heap.size v1 b1 → b1.length ≤ 1099511627776 → s.size ≤ 549755813888 → Calls Try.prog 108 #[v1, .string s] W (NewB W (b1 ++ V.encText s))) := fun W v1 b1 s h1 h2 h3 => by
      have := rputText_any v1 b1 s W h1.bs h2 h3
      have e : encText s.data.toList = V.encText s := by unfold encText V.encText; rw [← size_list]
      rwa [e] at this
    have henc := V.enc_mk k n s l ks
    have HIH := hid ih
    have HBV := hbs.form
    obtain ⟨A0, c0, rfl⟩ := HBV
    clear hv hr hvs hk ih hm hwf ho hbs
    rcases hfc with h | h | h | h | h | h | h
    · -- null
      obtain ⟨rfl, rfl, _, hl0, hk0⟩ := h
      subst hl0 hk0
      simp only [show ¬((0:Int) = 1 ∨ (0:Int) = 2 ∨ (0:Int) = 6) by omega, show ¬ ((0:Int) = 3) by omega, show ¬ ((0:Int) = 4) by omega, show ¬ ((0:Int) = 5) by omega, if_false, List.append_nil] at henc
      have HX : Hid (V.enc (.mk 0 0 s [] []) = Wi.enc 0) := henc
      generalize V.enc (.mk 0 0 s [] []) = full at HX hbd ⊢
      generalize Wi.enc 0 = E0 at HX PI
      clear henc hbd
      go_enter Try.func81, Try.ntmps81
      go_wp2_with fail
      refine (PI.out _ (below_box _)).mono ?_
      intro e w1 hnew
      obtain ⟨A1, n1, c1, rfl, hown1, hb1⟩ := hnew.form'
      have HB1 := hid (Bx.refl.step hb1)
      have HO1 := hid (NewB.low (w0 := w) hown1 (by simp))
      obtain ⟨p0, p1, p2, p3, p4⟩ := HB1.out.cells
      clear hnew hb1 hown1
      go_wp2_with fail
      go_ret
      exact ⟨_, rfl, by rw [HX.out]; simpa [List.append_assoc] using HO1.out, HB1.out.below⟩
    · -- kind 1
      obtain ⟨rfl, _, hl0, hk0⟩ := h
      subst hl0 hk0
      simp only at henc
      have HX : Hid (V.enc (.mk 1 n s [] []) = Wi.enc 1 ++ Wi.enc n) := henc
      generalize V.enc (.mk 1 n s [] []) = full at HX hbd ⊢
      have hlen : bs.length + ((Wi.enc 1).length + (Wi.enc n).length) ≤ 549755813888 := by rw [← List.length_append, ← HX.out]; exact hbd
      generalize Wi.enc 1 = E0 at HX PI hlen
      generalize Wi.enc n = E1 at HX PN hlen
      clear henc hbd
      go_enter Try.func81, Try.ntmps81
      go_wp2_with fail
      refine (PI.out _ (below_box _)).mono ?_
      intro e w1 hnew
      obtain ⟨A1, n1, c1, rfl, hown1, hb1⟩ := hnew.form'
      have HB1 := hid (Bx.refl.step hb1)
      have HO1 := hid (NewB.low (w0 := w) hown1 (by simp))
      obtain ⟨p0, p1, p2, p3, p4⟩ := HB1.out.cells
      clear hnew hb1 hown1
      go_wp2_with fail
      refine (PN.out _ _ _ HO1.out (by simp only [List.length_append]; omega)).mono ?_
      intro e w2 hnew
      obtain ⟨A2, n2, c2, rfl, hown2, hb2⟩ := hnew.form'
      have HB2 := hid (HB1.out.step hb2)
      have HO2 := hid (NewB.low (w0 := w) hown2 (Nat.le_of_lt HB1.out.size))
      clear hnew hb2 hown2 p0 p1 p2 p3 p4
      obtain ⟨p0, p1, p2, p3, p4⟩ := HB2.out.cells
      go_wp2_with fail
      go_ret
      exact ⟨_, rfl, by rw [HX.out]; simpa [List.append_assoc] using HO2.out, HB2.out.below⟩
    · -- kind 2
      obtain ⟨rfl, _, hl0, hk0⟩ := h
      subst hl0 hk0
      simp only at henc
      have HX : Hid (V.enc (.mk 2 n s [] []) = Wi.enc 2 ++ Wi.enc n) := henc
      generalize V.enc (.mk 2 n s [] []) = full at HX hbd ⊢
      have hlen : bs.length + ((Wi.enc 2).length + (Wi.enc n).length) ≤ 549755813888 := by rw [← List.length_append, ← HX.out]; exact hbd
      generalize Wi.enc 2 = E0 at HX PI hlen
      generalize Wi.enc n = E1 at HX PN hlen
      clear henc hbd
      go_enter Try.func81, Try.ntmps81
      go_wp2_with fail
      refine (PI.out _ (below_box _)).mono ?_
      intro e w1 hnew
      obtain ⟨A1, n1, c1, rfl, hown1, hb1⟩ := hnew.form'
      have HB1 := hid (Bx.refl.step hb1)
      have HO1 := hid (NewB.low (w0 := w) hown1 (by simp))
      obtain ⟨p0, p1, p2, p3, p4⟩ := HB1.out.cells
      clear hnew hb1 hown1
      go_wp2_with fail
      refine (PN.out _ _ _ HO1.out (by simp only [List.length_append]; omega)).mono ?_
      intro e w2 hnew
      obtain ⟨A2, n2, c2, rfl, hown2, hb2⟩ := hnew.form'
      have HB2 := hid (HB1.out.step hb2)
      have HO2 := hid (NewB.low (w0 := w) hown2 (Nat.le_of_lt HB1.out.size))
      clear hnew hb2 hown2 p0 p1 p2 p3 p4
      obtain ⟨p0, p1, p2, p3, p4⟩ := HB2.out.cells
      go_wp2_with fail
      go_ret
      exact ⟨_, rfl, by rw [HX.out]; simpa [List.append_assoc] using HO2.out, HB2.out.below⟩
    · -- text
      obtain ⟨rfl, rfl, hl0, hk0⟩ := h
      subst hl0 hk0
      simp only [show ¬((3:Int) = 1 ∨ (3:Int) = 2 ∨ (3:Int) = 6) by omega, if_false, if_true] at henc
      have HX : Hid (V.enc (.mk 3 0 s [] []) = Wi.enc 3 ++ V.encText s) := henc
      generalize V.enc (.mk 3 0 s [] []) = full at HX hbd ⊢
      have hlen : bs.length + ((Wi.enc 3).length + (V.encText s).length) ≤ 549755813888 := by rw [← List.length_append, ← HX.out]; exact hbd
      have hst : (V.encText s).length = (Wi.enc s.size).length + s.size := by unfold V.encText; simp
      have hsz : s.size ≤ 549755813888 := by omega
      have PT1 := hid (fun W v1 b1 h1 h2 => PT.out W v1 b1 s h1 h2 hsz)
      clear hst hsz
      generalize Wi.enc 3 = E0 at HX PI hlen
      generalize V.encText s = E1 at HX PT1 hlen
      clear henc hbd
      go_enter Try.func81, Try.ntmps81
      go_wp2_with fail
      refine (PI.out _ (below_box _)).mono ?_
      intro e w1 hnew
      obtain ⟨A1, n1, c1, rfl, hown1, hb1⟩ := hnew.form'
      have HB1 := hid (Bx.refl.step hb1)
      have HO1 := hid (NewB.low (w0 := w) hown1 (by simp))
      obtain ⟨p0, p1, p2, p3, p4⟩ := HB1.out.cells
      clear hnew hb1 hown1
      go_wp2_with fail
      refine (PT1.out _ _ _ HO1.out (by simp only [List.length_append]; omega)).mono ?_
      intro e w2 hnew
      obtain ⟨A2, n2, c2, rfl, hown2, hb2⟩ := hnew.form'
      have HB2 := hid (HB1.out.step hb2)
      have HO2 := hid (NewB.low (w0 := w) hown2 (Nat.le_of_lt HB1.out.size))
      clear hnew hb2 hown2 p0 p1 p2 p3 p4
      obtain ⟨p0, p1, p2, p3, p4⟩ := HB2.out.cells
      go_wp2_with fail
      go_ret
      exact ⟨_, rfl, by rw [HX.out]; simpa [List.append_assoc] using HO2.out, HB2.out.below⟩
    · -- kind 4
      obtain ⟨rfl, rfl, _, hk0⟩ := h
      subst hk0
      simp only [show ¬((4:Int) = 1 ∨ (4:Int) = 2 ∨ (4:Int) = 6) by omega, show ¬((4:Int) = 3) by omega, if_true, if_false] at henc
      have HX : Hid (V.enc (.mk 4 0 s l []) = Wi.enc 4 ++ (Wi.enc l.length ++ V.encL l)) := henc
      generalize V.enc (.mk 4 0 s l []) = full at HX hbd ⊢
      have hlen : bs.length + ((Wi.enc 4).length + ((Wi.enc l.length).length + (V.encL l).length)) ≤ 549755813888 := by have := congrArg List.length HX.out; simp only [List.length_append] at this; omega
      generalize Wi.enc 4 = E0 at HX PI hlen
      generalize Wi.enc l.length = E1 at HX PL hlen
      clear henc hbd
      go_enter Try.func81, Try.ntmps81
      go_wp2_with fail
      refine (PI.out _ (below_box _)).mono ?_
      intro e w1 hnew
      obtain ⟨A1, n1, c1, rfl, hown1, hb1⟩ := hnew.form'
      have HB1 := hid (Bx.refl.step hb1)
      have HO1 := hid (NewB.low (w0 := w) hown1 (by simp))
      obtain ⟨p0, p1, p2, p3, p4⟩ := HB1.out.cells
      clear hnew hb1 hown1
      go_wp2_with fail
      refine (PL.out _ _ _ HO1.out (by simp only [List.length_append]; omega)).mono ?_
      intro e w2 hnew
      obtain ⟨A2, n2, c2, rfl, hown2, hb2⟩ := hnew.form'
      have HB2 := hid (HB1.out.step hb2)
      have HO2 := hid (NewB.low (w0 := w) hown2 (Nat.le_of_lt HB1.out.size))
      clear hnew hb2 hown2 p0 p1 p2 p3 p4
      obtain ⟨p0, p1, p2, p3, p4⟩ := HB2.out.cells
      go_wp2_with fail
      clear p0 p1 p2 p3 p4
      go_loopw [0, 5] (fun v0 v5 wr => ∃ i : Nat, i ≤ l.length ∧ v5 = .int .i64 (i : Int) ∧ Bx w #[.int .i64 4, .int .i64 0, .string s, .slice A l.length c, .slice A' 0 c'] wr ∧ OwnB wr w.heap.size v0 (bs ++ E0 ++ E1 ++ V.encL (l.take i))) (fun _ v5 _ => l.length - (intOf v5).toNat)
      case atStart => exact ⟨0, Nat.zero_le _, rfl, HB2.out, by simpa [V.encL_nil] using HO2.out⟩
      case round =>
        obtain ⟨i, hi, rfl, hbx, hown⟩ := hrel
        have HBX := hid hbx
        have HOW := hid hown
        obtain ⟨p0, p1, p2, p3, p4⟩ := hbx.cells
        obtain ⟨A5, n5, c5, rfl⟩ := hown.bs.form'
        clear hbx hown HB1 HO1 HB2 HO2
        by_cases hlt : i < l.length
        · obtain ⟨b, o, cc, k', n', s', A1, m1, c1, A2, m2, c2, he, q0, q1, q2, q3, q4, hva⟩ := items_at (HR.out.below HBX.out.below (by omega)) (HV.out.below HBX.out.below) i hlt
          injection he with he1 he2 he3
          subst he1
          clear he2 he3
          have HVA := hid hva
          clear hva
          have hle := V.encL_le l (i + 1)
          rw [V.encL_take hlt, List.length_append] at hle
          have C81 := hid (HIH.out l[i] _ _ _ wr S (HM.out _ (List.getElem_mem hlt)) (HWI.out _ (List.getElem_mem hlt)) HOW.out.bs HVA.out (by simp only [List.length_append]; omega))
          clear hle
          go_wp2_with fail
          refine C81.out.mono ?_
          intro e w7 hnew
          obtain ⟨A7, n7, c7, rfl, hown7, hb7⟩ := hnew.form'
          have HN : Hid (Bx w #[.int .i64 4, .int .i64 0, .string s, .slice (some ⟨b, o, none⟩) l.length c, .slice A' 0 c'] w7 ∧ OwnB w7 w.heap.size (.slice A7 n7 c7) (bs ++ E0 ++ E1 ++ V.encL (l.take (i + 1)))) := by
            refine ⟨HBX.out.step hb7, ?_⟩
            have := NewB.low (w0 := w) hown7 (Nat.le_of_lt HBX.out.size)
            rw [V.encL_take hlt, ← List.append_assoc]
            exact this
          clear hnew hb7 hown7 p0 p1 p2 p3 p4 q0 q1 q2 q3 q4
          go_wp2_with fail
          go_roundw
          case rel => exact ⟨i + 1, by omega, by go_num, HN.out.1, HN.out.2⟩
          case measure => simp [intOf]; omega
        · have e : l.take i = l := List.take_of_length_le (by omega)
          rw [e] at HOW
          go_wp2_with fail
          go_ret
          exact ⟨_, rfl, by rw [HX.out, ← List.append_assoc, ← List.append_assoc]; exact HOW.out, HBX.out.below⟩
    · -- kind 5
      obtain ⟨rfl, rfl, _, hkl, hris⟩ := h
      have HKL := hid hkl
      clear hkl hris
      simp only [show ¬((5:Int) = 1 ∨ (5:Int) = 2 ∨ (5:Int) = 6) by omega, show ¬((5:Int) = 3) by omega, show ¬((5:Int) = 4) by omega, if_true, if_false] at henc
      have HX : Hid (V.enc (.mk 5 0 s l ks) = Wi.enc 5 ++ (Wi.enc l.length ++ V.encP l ks)) := henc
      generalize V.enc (.mk 5 0 s l ks) = full at HX hbd ⊢
      have hlen : bs.length + ((Wi.enc 5).length + ((Wi.enc l.length).length + (V.encP l ks).length)) ≤ 549755813888 := by have := congrArg List.length HX.out; simp only [List.length_append] at this; omega
      generalize Wi.enc 5 = E0 at HX PI hlen
      generalize Wi.enc l.length = E1 at HX PL hlen
      clear henc hbd
      go_enter Try.func81, Try.ntmps81
      go_wp2_with fail
      refine (PI.out _ (below_box _)).mono ?_
      intro e w1 hnew
      obtain ⟨A1, n1, c1, rfl, hown1, hb1⟩ := hnew.form'
      have HB1 := hid (Bx.refl.step hb1)
      have HO1 := hid (NewB.low (w0 := w) hown1 (by simp))
      obtain ⟨p0, p1, p2, p3, p4⟩ := HB1.out.cells
      clear hnew hb1 hown1
      go_wp2_with fail
      refine (PL.out _ _ _ HO1.out (by simp only [List.length_append]; omega)).mono ?_
      intro e w2 hnew
      obtain ⟨A2, n2, c2, rfl, hown2, hb2⟩ := hnew.form'
      have HB2 := hid (HB1.out.step hb2)
      have HO2 := hid (NewB.low (w0 := w) hown2 (Nat.le_of_lt HB1.out.size))
      clear hnew hb2 hown2 p0 p1 p2 p3 p4
      obtain ⟨p0, p1, p2, p3, p4⟩ := HB2.out.cells
      go_wp2_with fail
      clear p0 p1 p2 p3 p4
      go_loopw [0, 5] (fun v0 v5 wr => ∃ i : Nat, i ≤ l.length ∧ v5 = .int .i64 (i : Int) ∧ Bx w #[.int .i64 5, .int .i64 0, .string s, .slice A l.length c, .slice A' ks.length c'] wr ∧ OwnB wr w.heap.size v0 (bs ++ E0 ++ E1 ++ V.encP (l.take i) (ks.take i))) (fun _ v5 _ => l.length - (intOf v5).toNat)
      case atStart => exact ⟨0, Nat.zero_le _, rfl, HB2.out, by simpa [V.encP_nil] using HO2.out⟩
      case round =>
        obtain ⟨i, hi, rfl, hbx, hown⟩ := hrel
        have HBX := hid hbx
        have HOW := hid hown
        obtain ⟨p0, p1, p2, p3, p4⟩ := hbx.cells
        obtain ⟨A5, n5, c5, rfl⟩ := hown.bs.form'
        clear hbx hown HB1 HO1 HB2 HO2
        by_cases hlt : i < l.length
        · obtain ⟨b, o, cc, k', n', s', A1, m1, c1, A2, m2, c2, he, q0, q1, q2, q3, q4, hva⟩ := items_at (HR.out.below HBX.out.below (by omega)) (HV.out.below HBX.out.below) i hlt
          injection he with he1 he2 he3
          subst he1
          clear he2 he3
          have HVA := hid hva
          clear hva
          have hlk : i < ks.length := by have := HKL.out; omega
          obtain ⟨b', o', cc', he', hkey⟩ := keys_at (HK.out.below HBX.out.below (by omega)) i hlk
          injection he' with he1' he2' he3'
          subst he1'
          clear he2' he3'
          have hle := V.encP_le HKL.out (i + 1)
          rw [V.encP_take HKL.out hlt hlk, List.length_append, List.length_append] at hle
          have hst : (V.encText ks[i]).length = (Wi.enc ks[i].size).length + ks[i].size := by unfold V.encText; simp
          have hsz : ks[i].size ≤ 549755813888 := by omega
          have HTK := hid (V.encP_take HKL.out hlt hlk)
          have CT := hid (PT.out wr _ _ ks[i] HOW.out (by simp only [List.length_append]; omega) hsz)
          clear hst hsz
          generalize V.encText ks[i] = ET at CT HTK hle
          go_wp2_with fail
          refine CT.out.mono ?_
          intro e w5 hnew
          obtain ⟨A6, n6, c6, rfl, hown5, hb5⟩ := hnew.form'
          have HB5 := hid (HBX.out.step hb5)
          have HO5 := hid (NewB.low (w0 := w) hown5 (Nat.le_of_lt HBX.out.size))
          have HVB := hid (HVA.out.below hb5)
          have r0 := (hb5.cell (World.block_lt_of_cell? _ _ q0)).trans q0
          have r1 := (hb5.cell (World.block_lt_of_cell? _ _ q1)).trans q1
          have r2 := (hb5.cell (World.block_lt_of_cell? _ _ q2)).trans q2
          have r3 := (hb5.cell (World.block_lt_of_cell? _ _ q3)).trans q3
          have r4 := (hb5.cell (World.block_lt_of_cell? _ _ q4)).trans q4
          clear hnew hb5 hown5 p0 p1 p2 p3 p4 q0 q1 q2 q3 q4 hkey CT
          obtain ⟨p0, p1, p2, p3, p4⟩ := HB5.out.cells
          have C81 := hid (HIH.out l[i] _ _ _ w5 S (HM.out _ (List.getElem_mem hlt)) (HWI.out _ (List.getElem_mem hlt)) HO5.out.bs HVB.out (by simp only [List.length_append]; omega))
          clear hle
          go_wp2_with fail
          refine C81.out.mono ?_
          intro e w7 hnew
          obtain ⟨A7, n7, c7, rfl, hown7, hb7⟩ := hnew.form'
          have HN : Hid (Bx w #[.int .i64 5, .int .i64 0, .string s, .slice (some ⟨b, o, none⟩) l.length c, .slice (some ⟨b', o', none⟩) ks.length c'] w7 ∧ OwnB w7 w.heap.size (.slice A7 n7 c7) (bs ++ E0 ++ E1 ++ V.encP (l.take (i + 1)) (ks.take (i + 1)))) := by
            refine ⟨HB5.out.step hb7, ?_⟩
            have := NewB.low (w0 := w) hown7 (Nat.le_of_lt HB5.out.size)
            rw [HTK.out, ← List.append_assoc, ← List.append_assoc]
            exact this
          clear hnew hb7 hown7 p0 p1 p2 p3 p4 r0 r1 r2 r3 r4
          go_wp2_with fail
          go_roundw
          case rel => exact ⟨i + 1, by omega, by go_num, HN.out.1, HN.out.2⟩
          case measure => simp [intOf]; omega
        · have e : l.take i = l := List.take_of_length_le (by omega)
          have e' : ks.take i = ks := List.take_of_length_le (by have := HKL.out; omega)
          rw [e, e'] at HOW
          go_wp2_with fail
          go_ret
          exact ⟨_, rfl, by rw [HX.out, ← List.append_assoc, ← List.append_assoc]; exact HOW.out, HBX.out.below⟩
    · -- kind 6
      obtain ⟨rfl, _, hl0, hk0⟩ := h
      subst hl0 hk0
      simp only at henc
      have HX : Hid (V.enc (.mk 6 n s [] []) = Wi.enc 6 ++ Wi.enc n) := henc
      generalize V.enc (.mk 6 n s [] []) = full at HX hbd ⊢
      have hlen : bs.length + ((Wi.enc 6).length + (Wi.enc n).length) ≤ 549755813888 := by rw [← List.length_append, ← HX.out]; exact hbd
      generalize Wi.enc 6 = E0 at HX PI hlen
      generalize Wi.enc n = E1 at HX PN hlen
      clear henc hbd
      go_enter Try.func81, Try.ntmps81
      go_wp2_with fail
      refine (PI.out _ (below_box _)).mono ?_
      intro e w1 hnew
      obtain ⟨A1, n1, c1, rfl, hown1, hb1⟩ := hnew.form'
      have HB1 := hid (Bx.refl.step hb1)
      have HO1 := hid (NewB.low (w0 := w) hown1 (by simp))
      obtain ⟨p0, p1, p2, p3, p4⟩ := HB1.out.cells
      clear hnew hb1 hown1
      go_wp2_with fail
      refine (PN.out _ _ _ HO1.out (by simp only [List.length_append]; omega)).mono ?_
      intro e w2 hnew
      obtain ⟨A2, n2, c2, rfl, hown2, hb2⟩ := hnew.form'
      have HB2 := hid (HB1.out.step hb2)
      have HO2 := hid (NewB.low (w0 := w) hown2 (Nat.le_of_lt HB1.out.size))
      clear hnew hb2 hown2 p0 p1 p2 p3 p4
      obtain ⟨p0, p1, p2, p3, p4⟩ := HB2.out.cells
      go_wp2_with fail
      go_ret
      exact ⟨_, rfl, by rw [HX.out]; simpa [List.append_assoc] using HO2.out, HB2.out.below⟩

set_option maxRecDepth 100000 in
theorem rEncode_any (v : V) (bs : List UInt8) (bv a : Value) (w : World) (S : Nat → Prop) (hrd : Bs w bv bs) (hv : VA w S a v) (hbd : bs.length + (V.enc v).length ≤ 549755813888) :
    Calls Try.prog 47 #[bv, a] w (NewB w (bs ++ encV v)) := by
  match v with
  | .mk k n s l ks =>
  have CW : Hid (∀ W, Below w.heap.size w W → Calls Try.prog 39 #[a] W fun e w' => e = .returned (.bool (V.wf (.mk k n s l ks))) ∧ Below W.heap.size W w') := fun W hW => rwf_any _ _ a W S (Nat.le_refl _) (hv.below hW)
  have CE : Hid (∀ W v1, Below w.heap.size w W → V.wf (.mk k n s l ks) = true → Bs W v1 bs → Calls Try.prog 81 #[v1, a] W (NewB W (bs ++ V.enc (.mk k n s l ks)))) := fun W v1 hW hwf hown =>
    rput_any _ (.mk k n s l ks) bs v1 a W S (Nat.le_refl _) hwf hown (hv.below hW) hbd
  obtain ⟨A, c, A', c', ics, rfl, ho, hl, hr, hvs, hk⟩ := hv.open_
  have HD : Hid (encV (.mk k n s l ks) = if V.wf (.mk k n s l ks) = true then V.enc (.mk k n s l ks) else []) := by show _ = _; rfl
  have HBS := hid hrd
  have hlen : bs.length ≤ 549755813888 := by omega
  obtain ⟨A0, c0, rfl⟩ := hrd.form
  clear hv ho hl hr hvs hk hrd hbd
  generalize encV (.mk k n s l ks) = ev at HD
  generalize V.enc (.mk k n s l ks) = en at HD CE
  generalize V.wf (.mk k n s l ks) = x at HD CE CW
  cases x
  · go_enter Try.func47, Try.ntmps47
    go_wp2_with (at_builtin; refine wpList_appB rfl (.tmp 6) (.tmp 7) rfl (w.heap.size + 1) _ _ [] bs rfl (Own.nil _ _ _) rfl (HBS.out.below (below_box _)) (by simp; omega) (by simp) ?_; intro v' w1 h1 h2; have HB1 : Hid (Bx w #[.int .i64 k, .int .i64 n, .string s, .slice A l.length c, .slice A' ks.length c'] w1) := Bx.refl.step (by simpa using h2); have HO1 := hid (OwnB.lower h1 (Nat.le_succ _)); obtain ⟨p0, p1, p2, p3, p4⟩ := HB1.out.cells; clear h1 h2)
    refine (CW.out _ HB1.out.below).mono ?_
    rintro e w2 ⟨rfl, hb2⟩
    have HB2 := hid (HB1.out.step hb2)
    have HO2 := hid (HO1.out.below hb2)
    clear hb2
    go_wp2_with fail
    go_ret
    exact ⟨_, rfl, by rw [HD.out]; simpa using HO2.out, HB2.out.below⟩
  · go_enter Try.func47, Try.ntmps47
    go_wp2_with (at_builtin; refine wpList_appB rfl (.tmp 6) (.tmp 7) rfl (w.heap.size + 1) _ _ [] bs rfl (Own.nil _ _ _) rfl (HBS.out.below (below_box _)) (by simp; omega) (by simp) ?_; intro v' w1 h1 h2; have HB1 : Hid (Bx w #[.int .i64 k, .int .i64 n, .string s, .slice A l.length c, .slice A' ks.length c'] w1) := Bx.refl.step (by simpa using h2); have HO1 := hid (OwnB.lower h1 (Nat.le_succ _)); obtain ⟨p0, p1, p2, p3, p4⟩ := HB1.out.cells; clear h1 h2)
    refine (CW.out _ HB1.out.below).mono ?_
    rintro e w2 ⟨rfl, hb2⟩
    have HB2 := hid (HB1.out.step hb2)
    have HO2 := hid (HO1.out.below hb2)
    clear hb2 p0 p1 p2 p3 p4
    obtain ⟨p0, p1, p2, p3, p4⟩ := HB2.out.cells
    go_wp2_with fail
    refine (CE.out _ _ HB2.out.below (by simp) (by simpa using HO2.out.bs)).mono ?_
    intro e w3 hnew
    obtain ⟨A3, n3, c3, rfl, hown3, hb3⟩ := hnew.form'
    go_wp2_with fail
    go_ret
    exact ⟨_, rfl, by rw [HD.out]; exact NewB.low hown3 (Nat.le_of_lt HB2.out.size), HB2.out.below.trans (hb3.mono (Nat.le_of_lt HB2.out.size))⟩
end Go.Proofs.Ytpoofeiajmkfdaa
