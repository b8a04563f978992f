/-
  slices.Clone of bytes and Encode of the program.
-/
import Derived.Test.YtpoofeiajmkfdaaVEnc
namespace Go.Proofs.Ytpoofeiajmkfdaa
open Go.RowKit

set_option maxRecDepth 100000 in
theorem cloneB (bs : List UInt8) (v : Value) (w : World) (hl : bs.length ≤ 140737488355328) (hr : Bs w v bs) :
    Calls Try.prog 79 #[v] w (NewB w bs) := by
  have HK := hid hr
  obtain ⟨A, c, rfl⟩ := hr.form
  clear hr
  rcases A with _ | ad
  · have h0 : bs = [] := by
      obtain ⟨A, c', e, _, _, h⟩ := HK.out
      rcases h with h | ⟨ad, e', _⟩
      · simpa using h
      · injection e with e1; rw [← e1] at e'; cases e'
    subst h0
    have hnil := fun W => Lib.run_eql_slice_nil (P := Try.prog) W 50 5 none 0 c 0 0 Try.underlying50
    go_enter Try.func79, Try.ntmps79
    go_wp2_with fail
    go_ret
    exact ⟨_, rfl, Own.nil _ _ _, Below.refl _ _⟩
  · have hnil := fun W => Lib.run_eql_slice_nil (P := Try.prog) W 50 5 (some ad) bs.length c 0 0 Try.underlying50
    go_enter Try.func79, Try.ntmps79
    go_wp2_with (at_builtin; refine wpList_appB rfl (.tmp 5) (.tmp 6) rfl w.heap.size _ _ [] bs rfl (own_empty w 5 1) rfl (HK.out.below (below_box _)) (by simpa using hl) (by simp) ?_; intro v' w' h1 h2)
    go_ret
    exact ⟨v', rfl, by simpa using h1, (below_box _).trans h2⟩

/-- The bytes that Encode appends. -/
def encV (v : V) : List UInt8 := if V.wf v = true then V.enc v else []

set_option maxRecDepth 100000 in
theorem Encode_any (v : V) (bs : List UInt8) (bv a : Value) (w : World) (S : Nat → Prop) (hrd : Bs w bv bs) (hv : VA w S a v) (hbd : bs.length + (V.enc v).length ≤ 549755813888) :
    Calls Try.prog 46 #[bv, a] w (NewB w (bs ++ encV v)) := by
  match v with
  | .mk k n s l ks =>
  have CW : Hid (∀ W, Below w.heap.size w W → Calls Try.prog 64 #[a] W fun e w' => e = .returned (.bool (V.wf (.mk k n s l ks))) ∧ Below W.heap.size W w') := fun W hW => wellFormed_any _ _ a W S (Nat.le_refl _) (hv.below hW)
  have CC : Hid (∀ W, Below w.heap.size w W → Calls Try.prog 79 #[bv] W (NewB W bs)) := fun W hW => cloneB bs bv W (by omega) (hrd.below hW)
  have CE : Hid (∀ W v1 b1, Below w.heap.size w W → V.wf (.mk k n s l ks) = true → OwnB W w.heap.size v1 bs → b1 = bs → Calls Try.prog 80 #[v1, a] W (EncPost W w.heap.size v1 (bs ++ V.enc (.mk k n s l ks)))) := fun W v1 b1 hW hwf hown _ =>
    encode_any _ (.mk k n s l ks) bs v1 a W w.heap.size (fun b => S b ∧ b < w.heap.size) (Nat.le_refl _) hwf hown hW.size (fun b hb => hb.2) ((hv.more (fun b h1 h2 => ⟨h1, h2⟩)).below hW) hbd
  obtain ⟨A, c, A', c', ics, rfl, ho, hl, hr, hvs, hk⟩ := hv.open_
  have HD : Hid (encV (.mk k n s l ks) = if V.wf (.mk k n s l ks) = true then V.enc (.mk k n s l ks) else []) := by show _ = _; rfl
  obtain ⟨A0, c0, rfl⟩ := hrd.form
  clear hv ho hl hr hvs hk hrd hbd
  generalize encV (.mk k n s l ks) = ev at HD
  generalize V.enc (.mk k n s l ks) = en at HD CE
  generalize V.wf (.mk k n s l ks) = x at HD CE CW
  cases x
  · go_enter Try.func46, Try.ntmps46
    go_wp2_with fail
    refine (CC.out _ (below_box _)).mono ?_
    intro e w1 hnew
    obtain ⟨A1, c1, rfl, hown1, hb1⟩ := hnew.form
    have HB1 := hid (Bx.refl.step hb1)
    have HO1 := hid hown1
    obtain ⟨p0, p1, p2, p3, p4⟩ := HB1.out.cells
    clear hnew hb1 hown1
    go_wp2_with fail
    refine (CW.out _ HB1.out.below).mono ?_
    rintro e w2 ⟨rfl, hb2⟩
    have HB2 := hid (HB1.out.step hb2)
    have HO2 := hid (HO1.out.below hb2)
    clear hb2
    go_wp2_with fail
    go_ret
    exact ⟨_, rfl, by rw [HD.out]; simpa using HO2.out.lower (by simp), HB2.out.below⟩
  · go_enter Try.func46, Try.ntmps46
    go_wp2_with fail
    refine (CC.out _ (below_box _)).mono ?_
    intro e w1 hnew
    obtain ⟨A1, c1, rfl, hown1, hb1⟩ := hnew.form
    have HB1 := hid (Bx.refl.step hb1)
    have HO1 := hid hown1
    obtain ⟨p0, p1, p2, p3, p4⟩ := HB1.out.cells
    clear hnew hb1 hown1
    go_wp2_with fail
    refine (CW.out _ HB1.out.below).mono ?_
    rintro e w2 ⟨rfl, hb2⟩
    have HB2 := hid (HB1.out.step hb2)
    have HO2 := hid (HO1.out.below hb2)
    clear hb2 p0 p1 p2 p3 p4
    obtain ⟨p0, p1, p2, p3, p4⟩ := HB2.out.cells
    go_wp2_with fail
    refine (CE.out _ _ bs HB2.out.below (by simp) (HO2.out.lower (by simp)) (by simp)).mono ?_
    rintro e w3 ⟨v3, rfl, ho3, hg3, hob3⟩
    have HB3 : Hid (Below w.heap.size w2 w3) := (Below.refl _ _).grown hg3 HB2.out.below.size (fun k hk => Nat.le_trans (by simp) (World.ownsRow.lt HO2.out k hk).1)
    go_wp2_with fail
    go_ret
    exact ⟨_, rfl, by rw [HD.out]; exact ho3, HB2.out.below.trans HB3.out⟩
end Go.Proofs.Ytpoofeiajmkfdaa
