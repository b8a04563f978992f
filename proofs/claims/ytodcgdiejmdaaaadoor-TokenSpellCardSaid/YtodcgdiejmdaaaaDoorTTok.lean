/-
  One token, read by the program's scanner.
-/
import Derived.Test.YtodcgdiejmdaaaaDoorTLit
import Derived.Test.YtodcgdiejmdaaaaDoorTSign
import Derived.Test.YtodcgdiejmdaaaaDoorTWord
namespace Go.Proofs.YtodcgdiejmdaaaaDoor
open Go.RowKit

set_option maxRecDepth 100000 in
set_option maxHeartbeats 6000000 in
theorem token_any (g n : Nat) (s : ByteArray) (l : List UInt8) (w : World) (h : Sc w g s n l) (hG : GoodC g w) :
    Calls Tryd.prog 23 #[.pointer (some ⟨g, 0, none⟩)] w (TPost g s w (Tk.tok l)) := by
  have hg := h.lt
  have HG := hid hG
  have CA := hid (fun W => among_asc g _ _ asc_digit W)
  have CB := hid (fun W => among_asc g _ _ asc_letter W)
  have HA : Hid (Sc (w.alloc zTok) g s n l) := h.below ((Below.refl _ _).alloc (Nat.le_refl _) _)
  have hgA := HA.out.lt
  have HZ : Hid ((w.alloc zTok).heap[w.heap.size]? = some zTok) := zalloc w
  have HT : Hid (Tk.tok l = Tk.tok l) := rfl
  generalize hrr : Tk.tok l = rr at HT ⊢
  have HT : Hid (rr = Tk.tok l) := hrr.symm
  clear hrr
  clear h hG
  go_enter Tryd.func23, Tryd.ntmps23
  go_wp2_with fail
  refine (CA.out _ hgA).mono ?_
  rintro e w1 ⟨k1, rfl, hb1, hcl1⟩
  have HS1 := hid (HA.out.below hb1)
  have HZ1 := hid (zstep HZ.out hb1)
  have HC1 : Hid (Ch g w w1) := (Ch.of_below ((Below.refl _ _).alloc (Nat.le_refl _) _)).trans (Ch.of_below hb1)
  have HCL1 := hid hcl1
  have hg1 := HS1.out.lt
  clear hb1 hcl1 hgA
  go_wp2_with fail
  refine (CB.out _ hg1).mono ?_
  rintro e w2 ⟨k2, rfl, hb2, hcl2⟩
  have HS2 := hid (HS1.out.below hb2)
  have HZ2 := hid (zstep HZ1.out hb2)
  have HC2 : Hid (Ch g w w2) := HC1.out.trans (Ch.of_below hb2)
  have HCL2 := hid hcl2
  have HCL1' := hid (HCL1.out.ch (Ch.of_below hb2))
  clear hb2 hcl2 hg1
  have CP := hid (peek_any g n s l w2 HS2.out)
  go_wp2_with fail
  refine CP.out.mono ?_
  rintro e w3 ⟨rfl, q, rfl⟩
  have HS3 := hid (HS2.out.draws q)
  have HZ3 := hid (zdraw HZ2.out q)
  have HC3 : Hid (Ch g w (w2.drewN q)) := HC2.out.trans (Ch.draws _)
  have HL1 := hid (HCL1'.out.ch (Ch.draws q))
  have HL2 := hid (HCL2.out.ch (Ch.draws q))
  clear CP HS2 HZ2 HC2 HCL1' HCL2 HCL1 HS1 HZ1 HC1 CA CB
  generalize w2.drewN q = w3 at *
  unfold fv at *
  cases l with
  | nil =>
    simp only [rn]
    have HT : Hid (rr = .good 0 [] 0 []) := HT.out
    obtain ⟨b0, b1, b2, b3⟩ := zcells HZ3.out
    have f0 := zfree HZ3.out 0
    have f1 := zfree HZ3.out 1
    have f2 := zfree HZ3.out 2
    have f3 := zfree HZ3.out 3
    go_wp2_with fail
    refine bodyPost_ret (v := .tuple #[tokV 0 0 [] 0, .int .i64 0]) (by simp [results, Tryd.results23, go_sem, tokV, byS, b0, b1, b2, b3]) rfl ?_
    rw [HT.out]
    exact ⟨rfl, ch4 HC3.out (Nat.le_refl _), n, sc4 HS3.out (by omega)⟩
  | cons c r =>
    simp only [rn]
    have hcn := c.toNat_lt
    have hne : ((c.toNat : Int) == -1) = false := by simp
    have CL := hid (cls_at g k2 Tk.letter c w3 HL2.out)
    have CD := hid (fun q => cls_at g k1 Tk.digit c (w3.drewN q) (HL1.out.ch (Ch.draws q)))
    have HT : Hid (rr = if Tk.letter c then Tk.wordT (c :: r) else if Tk.digit c then Tk.num (c :: r) else if c.toNat = 34 then Tk.lit r.length r [] else Tk.sgn c r) := HT.out
    cases hl : Tk.letter c with
    | true =>
      rw [hl] at CL HT
      rw [if_pos rfl] at HT
      go_wp2_with fail
      refine CL.out.mono ?_
      rintro e w4 ⟨rfl, q4, rfl⟩
      have HS4 := hid (HS3.out.draws (q4))
      have HZ4 := hid (zdraw HZ3.out (q4))
      have HC4 : Hid (Ch g w (w3.drewN (q4))) := HC3.out.trans (Ch.draws _)
      go_wp2_with fail
      refine (word_any g n s (c :: r) _ HS4.out).mono ?_
      intro e w5 hp
      cases hx : Tk.wordT (c :: r) with
      | bad k =>
        rw [hx] at hp HT
        simp only [TPost, tokV] at hp
        obtain ⟨rfl, hch5⟩ := hp
        have hz5 := hch5.obj HZ4.out (by omega : w.heap.size ≠ g)
        have HC5 : Hid (Ch g w w5) := HC4.out.trans hch5
        obtain ⟨b0, b1, b2, b3⟩ := zcells hz5
        have f0 := zfree hz5 0
        have f1 := zfree hz5 1
        have f2 := zfree hz5 2
        have f3 := zfree hz5 3
        clear hz5 hch5 hx
        go_wp2_with fail
        refine bodyPost_ret (v := .tuple #[tokV 0 0 [] 0, .int .i64 k]) (by simp [results, Tryd.results23, go_sem, tokV, byS, b0, b1, b2, b3]) rfl ?_
        rw [HT.out]
        exact ⟨rfl, ch4 HC5.out (Nat.le_refl _)⟩
      | good k t nn r2 =>
        rw [hx] at hp HT
        simp only [TPost, tokV] at hp
        obtain ⟨rfl, hch5, m5, hs5⟩ := hp
        have HS5 := hid hs5
        have hz5 := hch5.obj HZ4.out (by omega : w.heap.size ≠ g)
        have HC5 : Hid (Ch g w w5) := HC4.out.trans hch5
        obtain ⟨b0, b1, b2, b3⟩ := zcells hz5
        have f0 := zfree hz5 0
        have f1 := zfree hz5 1
        have f2 := zfree hz5 2
        have f3 := zfree hz5 3
        clear hz5 hch5 hx hs5
        go_wp2_with fail
        refine bodyPost_ret (v := .tuple #[tokV k 0 t nn, .int .i64 0]) (by simp [results, Tryd.results23, go_sem, tokV, byS, b0, b1, b2, b3]) rfl ?_
        rw [HT.out]
        exact ⟨rfl, ch4 HC5.out (Nat.le_refl _), m5, sc4 HS5.out (by omega)⟩
    | false =>
      rw [hl] at CL HT
      rw [if_neg (by simp)] at HT
      go_wp2_with fail
      refine CL.out.mono ?_
      rintro e w4 ⟨rfl, q4, rfl⟩
      cases hd : Tk.digit c with
      | true =>
        rw [hd] at CD HT
        rw [if_pos rfl] at HT
        go_wp2_with fail
        refine (CD.out q4).mono ?_
        rintro e w4 ⟨rfl, q5, rfl⟩
        have HS4 := hid (HS3.out.draws (q4 + q5))
        have HZ4 := hid (zdraw HZ3.out (q4 + q5))
        have HC4 : Hid (Ch g w (w3.drewN (q4 + q5))) := HC3.out.trans (Ch.draws _)
        go_wp2_with fail
        refine (integer_any g n s c r _ HS4.out hd (HG.out.ch HC4.out)).mono ?_
        intro e w5 hp
        cases hx : Tk.num (c :: r) with
        | bad k =>
          rw [hx] at hp HT
          simp only [TPost, tokV] at hp
          obtain ⟨rfl, hch5⟩ := hp
          have hz5 := hch5.obj HZ4.out (by omega : w.heap.size ≠ g)
          have HC5 : Hid (Ch g w w5) := HC4.out.trans hch5
          obtain ⟨b0, b1, b2, b3⟩ := zcells hz5
          have f0 := zfree hz5 0
          have f1 := zfree hz5 1
          have f2 := zfree hz5 2
          have f3 := zfree hz5 3
          clear hz5 hch5 hx
          go_wp2_with fail
          refine bodyPost_ret (v := .tuple #[tokV 0 0 [] 0, .int .i64 k]) (by simp [results, Tryd.results23, go_sem, tokV, byS, b0, b1, b2, b3]) rfl ?_
          rw [HT.out]
          exact ⟨rfl, ch4 HC5.out (Nat.le_refl _)⟩
        | good k t nn r2 =>
          rw [hx] at hp HT
          simp only [TPost, tokV] at hp
          obtain ⟨rfl, hch5, m5, hs5⟩ := hp
          have HS5 := hid hs5
          have hz5 := hch5.obj HZ4.out (by omega : w.heap.size ≠ g)
          have HC5 : Hid (Ch g w w5) := HC4.out.trans hch5
          obtain ⟨b0, b1, b2, b3⟩ := zcells hz5
          have f0 := zfree hz5 0
          have f1 := zfree hz5 1
          have f2 := zfree hz5 2
          have f3 := zfree hz5 3
          clear hz5 hch5 hx hs5
          go_wp2_with fail
          refine bodyPost_ret (v := .tuple #[tokV k 0 t nn, .int .i64 0]) (by simp [results, Tryd.results23, go_sem, tokV, byS, b0, b1, b2, b3]) rfl ?_
          rw [HT.out]
          exact ⟨rfl, ch4 HC5.out (Nat.le_refl _), m5, sc4 HS5.out (by omega)⟩
      | false =>
        rw [hd] at CD HT
        rw [if_neg (by simp)] at HT
        go_wp2_with fail
        refine (CD.out q4).mono ?_
        rintro e w4 ⟨rfl, q5, rfl⟩
        have HS4 := hid (HS3.out.draws (q4 + q5))
        have HZ4 := hid (zdraw HZ3.out (q4 + q5))
        have HC4 : Hid (Ch g w (w3.drewN (q4 + q5))) := HC3.out.trans (Ch.draws _)
        by_cases h34 : c.toNat = 34
        · have i34 : (c.toNat : Int) = 34 := by omega
          rw [if_pos h34] at HT
          go_wp2_with fail
          refine (literal_any g n s c r _ HS4.out).mono ?_
          intro e w5 hp
          cases hx : Tk.lit r.length r [] with
          | bad k =>
            rw [hx] at hp HT
            simp only [TPost, tokV] at hp
            obtain ⟨rfl, hch5⟩ := hp
            have hz5 := hch5.obj HZ4.out (by omega : w.heap.size ≠ g)
            have HC5 : Hid (Ch g w w5) := HC4.out.trans hch5
            obtain ⟨b0, b1, b2, b3⟩ := zcells hz5
            have f0 := zfree hz5 0
            have f1 := zfree hz5 1
            have f2 := zfree hz5 2
            have f3 := zfree hz5 3
            clear hz5 hch5 hx
            go_wp2_with fail
            refine bodyPost_ret (v := .tuple #[tokV 0 0 [] 0, .int .i64 k]) (by simp [results, Tryd.results23, go_sem, tokV, byS, b0, b1, b2, b3]) rfl ?_
            rw [HT.out]
            exact ⟨rfl, ch4 HC5.out (Nat.le_refl _)⟩
          | good k t nn r2 =>
            rw [hx] at hp HT
            simp only [TPost, tokV] at hp
            obtain ⟨rfl, hch5, m5, hs5⟩ := hp
            have HS5 := hid hs5
            have hz5 := hch5.obj HZ4.out (by omega : w.heap.size ≠ g)
            have HC5 : Hid (Ch g w w5) := HC4.out.trans hch5
            obtain ⟨b0, b1, b2, b3⟩ := zcells hz5
            have f0 := zfree hz5 0
            have f1 := zfree hz5 1
            have f2 := zfree hz5 2
            have f3 := zfree hz5 3
            clear hz5 hch5 hx hs5
            go_wp2_with fail
            refine bodyPost_ret (v := .tuple #[tokV k 0 t nn, .int .i64 0]) (by simp [results, Tryd.results23, go_sem, tokV, byS, b0, b1, b2, b3]) rfl ?_
            rw [HT.out]
            exact ⟨rfl, ch4 HC5.out (Nat.le_refl _), m5, sc4 HS5.out (by omega)⟩
        · have i34 : ¬ (c.toNat : Int) = 34 := by omega
          rw [if_neg h34] at HT
          go_wp2_with fail
          refine (sign_any g n s c r _ HS4.out).mono ?_
          intro e w5 hp
          cases hx : Tk.sgn c r with
          | bad k =>
            rw [hx] at hp HT
            simp only [TPost, tokV] at hp
            obtain ⟨rfl, hch5⟩ := hp
            have hz5 := hch5.obj HZ4.out (by omega : w.heap.size ≠ g)
            have HC5 : Hid (Ch g w w5) := HC4.out.trans hch5
            obtain ⟨b0, b1, b2, b3⟩ := zcells hz5
            have f0 := zfree hz5 0
            have f1 := zfree hz5 1
            have f2 := zfree hz5 2
            have f3 := zfree hz5 3
            clear hz5 hch5 hx
            go_wp2_with fail
            refine bodyPost_ret (v := .tuple #[tokV 0 0 [] 0, .int .i64 k]) (by simp [results, Tryd.results23, go_sem, tokV, byS, b0, b1, b2, b3]) rfl ?_
            rw [HT.out]
            exact ⟨rfl, ch4 HC5.out (Nat.le_refl _)⟩
          | good k t nn r2 =>
            rw [hx] at hp HT
            simp only [TPost, tokV] at hp
            obtain ⟨rfl, hch5, m5, hs5⟩ := hp
            have HS5 := hid hs5
            have hz5 := hch5.obj HZ4.out (by omega : w.heap.size ≠ g)
            have HC5 : Hid (Ch g w w5) := HC4.out.trans hch5
            obtain ⟨b0, b1, b2, b3⟩ := zcells hz5
            have f0 := zfree hz5 0
            have f1 := zfree hz5 1
            have f2 := zfree hz5 2
            have f3 := zfree hz5 3
            clear hz5 hch5 hx hs5
            go_wp2_with fail
            refine bodyPost_ret (v := .tuple #[tokV k 0 t nn, .int .i64 0]) (by simp [results, Tryd.results23, go_sem, tokV, byS, b0, b1, b2, b3]) rfl ?_
            rw [HT.out]
            exact ⟨rfl, ch4 HC5.out (Nat.le_refl _), m5, sc4 HS5.out (by omega)⟩
end Go.Proofs.YtodcgdiejmdaaaaDoor
