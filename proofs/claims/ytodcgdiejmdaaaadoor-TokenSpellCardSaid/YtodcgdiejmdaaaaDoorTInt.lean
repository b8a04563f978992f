/-
  An integer, read by the program's scanner.
-/
import Derived.Test.YtodcgdiejmdaaaaDoorTNum
namespace Go.Proofs.YtodcgdiejmdaaaaDoor
open Go.RowKit

/-- The library's variables stay good while only block g changes. -/
def GoodC (g : Nat) (w : World) : Prop := ∀ W, Ch g w W → Good W
theorem GoodC.ch {g : Nat} {w w' : World} (h : GoodC g w) (c : Ch g w w') : GoodC g w' := fun W hW => h W (c.trans hW)
theorem GoodC.good {g : Nat} {w : World} (h : GoodC g w) : Good w := h w Ch.refl

theorem zdraw {w : World} {z : Nat} (h : w.heap[z]? = some zTok) (q : Nat) : (w.drewN q).heap[z]? = some zTok := h
theorem hd_letter (l : List UInt8) : hdp Tk.letter l = Tk.letter (l.headD 0) := by cases l <;> rfl

set_option maxRecDepth 100000 in
set_option maxHeartbeats 2000000 in
theorem integer_any (g n : Nat) (s : ByteArray) (c : UInt8) (l : List UInt8) (w : World) (h : Sc w g s n (c :: l)) (hdg : Tk.digit c = true) (hG : GoodC g w) :
    Calls Tryd.prog 34 #[.pointer (some ⟨g, 0, none⟩)] w (TPost g s w (Tk.num (c :: l))) := by
  have hg := h.lt
  have hsz := h.2.2.2
  have hlen := h.len
  have HG := hid hG
  have CA := hid (among_asc g _ _ asc_digit (w.alloc zTok) (by simp; omega))
  have CL := hid (fun W => among_asc g _ _ asc_letter W)
  have HA : Hid (Sc (w.alloc zTok) g s n (c :: l)) := h.below ((Below.refl _ _).alloc (Nat.le_refl _) _)
  have HZ : Hid ((w.alloc zTok).heap[w.heap.size]? = some zTok) := zalloc w
  have hd1 : (c :: l).takeWhile Tk.digit = c :: l.takeWhile Tk.digit := by rw [List.takeWhile_cons, if_pos hdg]
  have hd2 : (c :: l).dropWhile Tk.digit = l.dropWhile Tk.digit := by rw [List.dropWhile_cons, if_pos hdg]
  have hdl : (l.takeWhile Tk.digit).length ≤ l.length := List.Sublist.length_le (List.takeWhile_sublist _)
  have HALL : Hid (∀ x ∈ c :: l.takeWhile Tk.digit, Tk.digit x = true) := by show ∀ _, _; rw [← hd1]; exact Tk.takeWhile_all Tk.digit _
  have HT : Hid (Tk.num (c :: l) = if ((c :: l.takeWhile Tk.digit).length > 1 ∧ c.toNat = 48) ∨ Tk.letter ((l.dropWhile Tk.digit).headD 0) = true then .bad 3
    else if Nm.val 0 (c :: l.takeWhile Tk.digit) > 9223372036854775807 then .bad 14 else .good 3 [] (Nm.val 0 (c :: l.takeWhile Tk.digit) : Int) (l.dropWhile Tk.digit)) := by
    show _ = _
    unfold Tk.num
    simp only [hd1, hd2, List.headD_cons]
  have HSP := hid (fun k W => span_any g n k s (c :: l) Tk.digit W)
  rw [hd1, hd2] at HSP
  simp only [List.length_cons] at hlen
  generalize Tk.num (c :: l) = r at *
  generalize l.takeWhile Tk.digit = d at *
  generalize l.dropWhile Tk.digit = l2 at *
  clear h hd1 hd2 hdg hG
  go_enter Tryd.func34, Tryd.ntmps34
  go_wp2_with fail
  refine CA.out.mono ?_
  rintro e w1 ⟨k, rfl, hb1, hcl⟩
  have HS1 := hid (HA.out.below hb1)
  have HZ1 := hid (zstep HZ.out hb1)
  have HC1 : Hid (Ch g w w1) := (Ch.of_below ((Below.refl _ _).alloc (Nat.le_refl _) _)).trans (Ch.of_below hb1)
  have HCL := hid hcl
  clear hb1 hcl
  go_wp2_with fail
  refine (HSP.out k w1 HS1.out HCL.out).mono ?_
  rintro e w2 ⟨rfl, hch, m, hS2⟩
  have HS2 := hid hS2
  have hg2 := hS2.lt
  have HZ2 := hid (hch.obj HZ1.out (by omega : w.heap.size ≠ g))
  have HC2 : Hid (Ch g w w2) := HC1.out.trans hch
  clear hch hS2
  go_wp2_with fail
  refine (CL.out w2 hg2).mono ?_
  rintro e w3 ⟨k3, rfl, hb3, hcl3⟩
  have HS3 := hid (HS2.out.below hb3)
  have HZ3 := hid (zstep HZ2.out hb3)
  have HC3 : Hid (Ch g w w3) := HC2.out.trans (Ch.of_below hb3)
  have HCL3 := hid hcl3
  clear hb3 hcl3
  have CP := hid (peek_any g m s l2 w3 HS3.out)
  have CC := hid (fun q => cls_any g k3 Tk.letter l2 (w3.drewN q) (HCL3.out.ch (Ch.draws q)))
  rw [hd_letter] at CC
  unfold fv at *
  by_cases hz : 0 < d.length ∧ c.toNat = 48
  · rw [if_pos (.inl ⟨by simp only [List.length_cons]; omega, hz.2⟩)] at HT
    obtain ⟨b0, b1, b2, b3⟩ := zcells HZ3.out
    have f0 := zfree HZ3.out 0
    have f1 := zfree HZ3.out 1
    have f2 := zfree HZ3.out 2
    have f3 := zfree HZ3.out 3
    have hds : (⟨(c :: d).toArray⟩ : ByteArray).size = d.length + 1 := size_mk _
    have hz1 := hz.1
    have h0 : 0 < (⟨(c :: d).toArray⟩ : ByteArray).size := by omega
    have hix : (((⟨(c :: d).toArray⟩ : ByteArray)[0]'h0).toNat : Int) = 48 := by have : c.toNat = 48 := hz.2; show (c.toNat : Int) = 48; omega
    go_wp2_with fail
    refine bodyPost_ret (v := .tuple #[tokV 0 0 [] 0, .int .i64 3]) (by simp [results, Tryd.results34, go_sem, tokV, byS, b0, b1, b2, b3]) rfl ?_
    rw [HT.out]
    exact ⟨rfl, ch4 HC3.out (Nat.le_refl _)⟩
  · have hds : (⟨(c :: d).toArray⟩ : ByteArray).size = d.length + 1 := size_mk _
    rcases (by omega : ¬ 0 < d.length ∨ (0 < d.length ∧ ¬ c.toNat = 48)) with hz1 | ⟨hz1, hz2⟩
    · clear hds
      have hz3 : d.length = 0 := by omega
      go_wp2_with fail
      refine CP.out.mono ?_
      rintro e w4 ⟨rfl, q, rfl⟩
      cases hx : Tk.letter (l2.headD 0) with
      | true =>
        rw [hx] at CC HT
        rw [if_pos (.inr rfl)] at HT
        go_wp2_with fail
        refine (CC.out q).mono ?_
        rintro e w4 ⟨rfl, q2, rfl⟩
        obtain ⟨b0, b1, b2, b3⟩ := zcells (zdraw HZ3.out (q + q2))
        have f0 := zfree (zdraw HZ3.out (q + q2)) 0
        have f1 := zfree (zdraw HZ3.out (q + q2)) 1
        have f2 := zfree (zdraw HZ3.out (q + q2)) 2
        have f3 := zfree (zdraw HZ3.out (q + q2)) 3
        go_wp2_with fail
        refine bodyPost_ret (v := .tuple #[tokV 0 0 [] 0, .int .i64 3]) (by simp [results, Tryd.results34, go_sem, tokV, byS, b0, b1, b2, b3]) rfl ?_
        rw [HT.out]
        exact ⟨rfl, ch4 (HC3.out.trans (Ch.draws _)) (Nat.le_refl _)⟩
      | false =>
        rw [hx] at CC HT
        rw [if_neg (fun h => h.elim (fun h => hz ⟨by have := h.1; simp only [List.length_cons] at this; omega, h.2⟩) (fun h => by cases h))] at HT
        go_wp2_with fail
        refine (CC.out q).mono ?_
        rintro e w4 ⟨rfl, q2, rfl⟩
        by_cases hv : Nm.val 0 (c :: d) > 9223372036854775807
        · rw [if_pos hv] at HT
          have PB := hid (parse_big (by simp) HALL.out hv (by simp only [List.length_cons]; omega) (w3.drewN (q + q2)) (HG.out _ (HC3.out.trans (Ch.draws _))))
          clear hv
          go_wp2_with fail
          refine PB.out.mono ?_
          rintro e w5 ⟨⟨v, t, pp, rfl⟩, hb5⟩
          have hz5 := (hb5.block _ (Array.getElem?_eq_some_iff.1 (zdraw HZ3.out (q + q2))).1).trans (zdraw HZ3.out (q + q2))
          obtain ⟨b0, b1, b2, b3⟩ := zcells hz5
          have f0 := zfree hz5 0
          have f1 := zfree hz5 1
          have f2 := zfree hz5 2
          have f3 := zfree hz5 3
          have HC5 : Hid (Ch g w w5) := (HC3.out.trans (Ch.draws _)).trans (Ch.of_below hb5)
          clear hb5 hz5
          go_wp2_with fail
          refine bodyPost_ret (v := .tuple #[tokV 0 0 [] 0, .int .i64 14]) (by simp [results, Tryd.results34, go_sem, tokV, byS, b0, b1, b2, b3]) rfl ?_
          rw [HT.out]
          exact ⟨rfl, ch4 HC5.out (Nat.le_refl _)⟩
        · rw [if_neg hv] at HT
          have PB := hid (parse_ok (by simp) HALL.out hv (by simp only [List.length_cons]; omega) (w3.drewN (q + q2)))
          have hv2 : (Nm.val 0 (c :: d) : Int) ≤ 9223372036854775807 := by omega
          clear hv
          generalize Nm.val 0 (c :: d) = vv at *
          go_wp2_with fail
          refine PB.out.mono ?_
          rintro e w5 ⟨rfl, hb5⟩
          have hz5 := (hb5.block _ (Array.getElem?_eq_some_iff.1 (zdraw HZ3.out (q + q2))).1).trans (zdraw HZ3.out (q + q2))
          obtain ⟨b0, b1, b2, b3⟩ := zcells hz5
          have f0 := zfree hz5 0
          have f1 := zfree hz5 1
          have f2 := zfree hz5 2
          have f3 := zfree hz5 3
          have HC5 : Hid (Ch g w w5) := (HC3.out.trans (Ch.draws _)).trans (Ch.of_below hb5)
          have HS5 := hid ((HS3.out.draws (q + q2)).below hb5)
          clear hb5 hz5
          go_wp2_with fail
          refine bodyPost_ret (v := .tuple #[tokV 3 0 [] (vv : Int), .int .i64 0]) (by simp [results, Tryd.results34, go_sem, tokV, byS, b0, b1, b2, b3]) rfl ?_
          rw [HT.out]
          exact ⟨rfl, ch4 HC5.out (Nat.le_refl _), m, sc4 HS5.out (by omega)⟩
    · have h0 : 0 < (⟨(c :: d).toArray⟩ : ByteArray).size := by omega
      have hix : ¬ (((⟨(c :: d).toArray⟩ : ByteArray)[0]'h0).toNat : Int) = 48 := by show ¬ (c.toNat : Int) = 48; omega
      go_wp2_with fail
      refine CP.out.mono ?_
      rintro e w4 ⟨rfl, q, rfl⟩
      cases hx : Tk.letter (l2.headD 0) with
      | true =>
        rw [hx] at CC HT
        rw [if_pos (.inr rfl)] at HT
        go_wp2_with fail
        refine (CC.out q).mono ?_
        rintro e w4 ⟨rfl, q2, rfl⟩
        obtain ⟨b0, b1, b2, b3⟩ := zcells (zdraw HZ3.out (q + q2))
        have f0 := zfree (zdraw HZ3.out (q + q2)) 0
        have f1 := zfree (zdraw HZ3.out (q + q2)) 1
        have f2 := zfree (zdraw HZ3.out (q + q2)) 2
        have f3 := zfree (zdraw HZ3.out (q + q2)) 3
        go_wp2_with fail
        refine bodyPost_ret (v := .tuple #[tokV 0 0 [] 0, .int .i64 3]) (by simp [results, Tryd.results34, go_sem, tokV, byS, b0, b1, b2, b3]) rfl ?_
        rw [HT.out]
        exact ⟨rfl, ch4 (HC3.out.trans (Ch.draws _)) (Nat.le_refl _)⟩
      | false =>
        rw [hx] at CC HT
        rw [if_neg (fun h => h.elim (fun h => hz ⟨by have := h.1; simp only [List.length_cons] at this; omega, h.2⟩) (fun h => by cases h))] at HT
        go_wp2_with fail
        refine (CC.out q).mono ?_
        rintro e w4 ⟨rfl, q2, rfl⟩
        by_cases hv : Nm.val 0 (c :: d) > 9223372036854775807
        · rw [if_pos hv] at HT
          have PB := hid (parse_big (by simp) HALL.out hv (by simp only [List.length_cons]; omega) (w3.drewN (q + q2)) (HG.out _ (HC3.out.trans (Ch.draws _))))
          clear hv
          go_wp2_with fail
          refine PB.out.mono ?_
          rintro e w5 ⟨⟨v, t, pp, rfl⟩, hb5⟩
          have hz5 := (hb5.block _ (Array.getElem?_eq_some_iff.1 (zdraw HZ3.out (q + q2))).1).trans (zdraw HZ3.out (q + q2))
          obtain ⟨b0, b1, b2, b3⟩ := zcells hz5
          have f0 := zfree hz5 0
          have f1 := zfree hz5 1
          have f2 := zfree hz5 2
          have f3 := zfree hz5 3
          have HC5 : Hid (Ch g w w5) := (HC3.out.trans (Ch.draws _)).trans (Ch.of_below hb5)
          clear hb5 hz5
          go_wp2_with fail
          refine bodyPost_ret (v := .tuple #[tokV 0 0 [] 0, .int .i64 14]) (by simp [results, Tryd.results34, go_sem, tokV, byS, b0, b1, b2, b3]) rfl ?_
          rw [HT.out]
          exact ⟨rfl, ch4 HC5.out (Nat.le_refl _)⟩
        · rw [if_neg hv] at HT
          have PB := hid (parse_ok (by simp) HALL.out hv (by simp only [List.length_cons]; omega) (w3.drewN (q + q2)))
          have hv2 : (Nm.val 0 (c :: d) : Int) ≤ 9223372036854775807 := by omega
          clear hv
          generalize Nm.val 0 (c :: d) = vv at *
          go_wp2_with fail
          refine PB.out.mono ?_
          rintro e w5 ⟨rfl, hb5⟩
          have hz5 := (hb5.block _ (Array.getElem?_eq_some_iff.1 (zdraw HZ3.out (q + q2))).1).trans (zdraw HZ3.out (q + q2))
          obtain ⟨b0, b1, b2, b3⟩ := zcells hz5
          have f0 := zfree hz5 0
          have f1 := zfree hz5 1
          have f2 := zfree hz5 2
          have f3 := zfree hz5 3
          have HC5 : Hid (Ch g w w5) := (HC3.out.trans (Ch.draws _)).trans (Ch.of_below hb5)
          have HS5 := hid ((HS3.out.draws (q + q2)).below hb5)
          clear hb5 hz5
          go_wp2_with fail
          refine bodyPost_ret (v := .tuple #[tokV 3 0 [] (vv : Int), .int .i64 0]) (by simp [results, Tryd.results34, go_sem, tokV, byS, b0, b1, b2, b3]) rfl ?_
          rw [HT.out]
          exact ⟨rfl, ch4 HC5.out (Nat.le_refl _), m, sc4 HS5.out (by omega)⟩
end Go.Proofs.YtodcgdiejmdaaaaDoor
