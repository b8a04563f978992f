/-
  A sign, read by the program's scanner.
-/
import Derived.Test.YtodcgdiejmdaaaaDoorTInt
namespace Go.Proofs.YtodcgdiejmdaaaaDoor
open Go.RowKit

theorem cls_at (g k : Nat) (p : UInt8 → Bool) (c : UInt8) (w : World) (h : Cl w g k p) :
    Calls Tryd.prog 31 #[.int .i32 (c.toNat : Int), .pointer (some ⟨k, 0, none⟩)] w fun e w' => e = .returned (.bool (p c)) ∧ ∃ q, w' = w.drewN q :=
  cls_any g k p [c] w h
theorem str1 {w : World} {g n : Nat} {s : ByteArray} {c : UInt8} {r : List UInt8} (h : Sc w g s n (c :: r)) : s.extract n (n + 1) = byS [c] := by
  rw [extract_mk, h.2.2.1, show n + 1 - n = 1 by omega]; rfl
theorem str2 {w : World} {g n : Nat} {s : ByteArray} {c d : UInt8} {r : List UInt8} (h : Sc w g s n (c :: d :: r)) : s.extract n (n + 2) = byS [c, d] := by
  rw [extract_mk, h.2.2.1, show n + 2 - n = 2 by omega]; rfl

set_option maxRecDepth 100000 in
set_option maxHeartbeats 6000000 in
theorem sign_any (g n : Nat) (s : ByteArray) (c : UInt8) (r : List UInt8) (w : World) (h : Sc w g s n (c :: r)) :
    Calls Tryd.prog 36 #[.pointer (some ⟨g, 0, none⟩)] w (TPost g s w (Tk.sgn c r)) := by
  have hg := h.lt
  have hsz := h.2.2.2
  have hlen := h.len
  simp only [List.length_cons] at hlen
  have hc1 := h.cell1
  have H := hid h
  have CA := hid (fun W => among_asc g _ _ asc_pair W)
  have CB := hid (fun W => among_asc g _ _ asc_sign W)
  have HA : Hid (Sc (w.alloc zTok) g s n (c :: r)) := h.below ((Below.refl _ _).alloc (Nat.le_refl _) _)
  have hgA := HA.out.lt
  have HZ : Hid ((w.alloc zTok).heap[w.heap.size]? = some zTok) := zalloc w
  have hcA : (w.alloc zTok).cell? ⟨g, 1, none⟩ = some (.int .i64 (n : Int)) := HA.out.cell1
  have HT : Hid (Tk.sgn c r = if Tk.pairc c = true ∧ (r.headD 0).toNat = 61 then .good 5 [c, 61] 0 r.tail else if Tk.signc c then .good 5 [c] 0 r else .bad 3) := rfl
  generalize Tk.sgn c r = rr at *
  unfold zTok at hcA
  clear h hc1
  go_enter Tryd.func36, Tryd.ntmps36
  go_wp2_with fail
  refine (CA.out _ hgA).mono ?_
  rintro e w1 ⟨k1, rfl, hb1, hcl1⟩
  have HS1 := hid (HA.out.below hb1)
  have HZ1 := hid (zstep HZ.out hb1)
  have HC1 : Hid (Ch g w w1) := (Ch.of_below ((Below.refl _ _).alloc (Nat.le_refl _) _)).trans (Ch.of_below hb1)
  have HCL1 := hid hcl1
  have hg1 := HS1.out.lt
  clear hb1 hcl1 hgA
  go_wp2_with fail
  refine (CB.out _ hg1).mono ?_
  rintro e w2 ⟨k2, rfl, hb2, hcl2⟩
  have HS2 := hid (HS1.out.below hb2)
  have HZ2 := hid (zstep HZ1.out hb2)
  have HC2 : Hid (Ch g w w2) := HC1.out.trans (Ch.of_below hb2)
  have HCL2 := hid hcl2
  have HCL1' := hid (HCL1.out.ch (Ch.of_below hb2))
  clear hb2 hcl2 hg1
  have CR := hid (read_at g n s c r w2 HS2.out)
  go_wp2_with fail
  refine CR.out.mono ?_
  rintro e w4 ⟨rfl, hs4, hch4⟩
  have HS4 := hid hs4
  have HZ4 := hid (hch4.obj HZ2.out (by omega : w.heap.size ≠ g))
  have HC4 : Hid (Ch g w w4) := HC2.out.trans hch4
  have CP := hid (cls_at g k1 Tk.pairc c w4 (HCL1'.out.ch hch4))
  have CS := hid (fun q => cls_at g k2 Tk.signc c (w4.drewN q) ((HCL2.out.ch hch4).ch (Ch.draws q)))
  have CK := hid (fun q => peek_any g (n + 1) s r (w4.drewN q) (hs4.draws q))
  clear hs4 hch4
  unfold fv at *
  cases hp : Tk.pairc c with
  | false =>
    rw [hp] at CP HT
    rw [if_neg (fun h => by cases h.1)] at HT
    go_wp2_with fail
    refine CP.out.mono ?_
    rintro e w5 ⟨rfl, q, rfl⟩
    cases hs : Tk.signc c with
    | true =>
      rw [hs] at CS HT
      rw [if_pos rfl] at HT
      go_wp2_with fail
      refine (CS.out (q)).mono ?_
      rintro e w6 ⟨rfl, q6, rfl⟩
      obtain ⟨b0, b1, b2, b3⟩ := zcells HZ4.out
      have f0 := zfree HZ4.out 0
      have f1 := zfree HZ4.out 1
      have f2 := zfree HZ4.out 2
      have f3 := zfree HZ4.out 3
      have p0 := HS4.out.cell0
      have p1 := HS4.out.cell1
      have hn1 : (n : Int) ≤ (n : Int) + 1 := by omega
      have hn2 : (n : Int) + 1 ≤ (s.size : Int) := by omega
      have hn0 : 0 ≤ (n : Int) := by omega
      have htn : ((n : Int) + 1).toNat = n + 1 := by omega
      go_wp2_with fail
      go_region
      all_goals go_wp2_with fail
      have hst := str1 H.out
      refine bodyPost_ret (v := .tuple #[tokV 5 0 [c] 0, .int .i64 0]) (by simp [results, Tryd.results36, go_sem, tokV, byS, b0, b1, b2, b3, hst]) rfl ?_
      rw [HT.out]
      exact ⟨rfl, ch4 (HC4.out.trans (Ch.draws _)) (Nat.le_refl _), n + 1, sc4 (HS4.out.draws _) (by omega)⟩
    | false =>
      rw [hs] at CS HT
      rw [if_neg (by simp)] at HT
      go_wp2_with fail
      refine (CS.out (q)).mono ?_
      rintro e w6 ⟨rfl, q6, rfl⟩
      obtain ⟨b0, b1, b2, b3⟩ := zcells (zdraw HZ4.out (q + q6))
      have f0 := zfree (zdraw HZ4.out (q + q6)) 0
      have f1 := zfree (zdraw HZ4.out (q + q6)) 1
      have f2 := zfree (zdraw HZ4.out (q + q6)) 2
      have f3 := zfree (zdraw HZ4.out (q + q6)) 3
      go_wp2_with fail
      refine bodyPost_ret (v := .tuple #[tokV 0 0 [] 0, .int .i64 3]) (by simp [results, Tryd.results36, go_sem, tokV, byS, b0, b1, b2, b3]) rfl ?_
      rw [HT.out]
      exact ⟨rfl, ch4 (HC4.out.trans (Ch.draws _)) (Nat.le_refl _)⟩
  | true =>
    rw [hp] at CP HT
    go_wp2_with fail
    refine CP.out.mono ?_
    rintro e w5 ⟨rfl, q, rfl⟩
    cases r with
    | nil =>
      rw [if_neg (fun h => by have := h.2; simp at this)] at HT
      go_wp2_with fail
      refine (CK.out q).mono ?_
      rintro e w5 ⟨rfl, q2, rfl⟩
      simp only [rn]
      cases hs : Tk.signc c with
      | true =>
        rw [hs] at CS HT
        rw [if_pos rfl] at HT
        go_wp2_with fail
        refine (CS.out (q + q2)).mono ?_
        rintro e w6 ⟨rfl, q6, rfl⟩
        obtain ⟨b0, b1, b2, b3⟩ := zcells HZ4.out
        have f0 := zfree HZ4.out 0
        have f1 := zfree HZ4.out 1
        have f2 := zfree HZ4.out 2
        have f3 := zfree HZ4.out 3
        have p0 := HS4.out.cell0
        have p1 := HS4.out.cell1
        have hn1 : (n : Int) ≤ (n : Int) + 1 := by omega
        have hn2 : (n : Int) + 1 ≤ (s.size : Int) := by omega
        have hn0 : 0 ≤ (n : Int) := by omega
        have htn : ((n : Int) + 1).toNat = n + 1 := by omega
        go_wp2_with fail
        go_region
        all_goals go_wp2_with fail
        have hst := str1 H.out
        refine bodyPost_ret (v := .tuple #[tokV 5 0 [c] 0, .int .i64 0]) (by simp [results, Tryd.results36, go_sem, tokV, byS, b0, b1, b2, b3, hst]) rfl ?_
        rw [HT.out]
        exact ⟨rfl, ch4 (HC4.out.trans (Ch.draws _)) (Nat.le_refl _), n + 1, sc4 (HS4.out.draws _) (by omega)⟩
      | false =>
        rw [hs] at CS HT
        rw [if_neg (by simp)] at HT
        go_wp2_with fail
        refine (CS.out (q + q2)).mono ?_
        rintro e w6 ⟨rfl, q6, rfl⟩
        obtain ⟨b0, b1, b2, b3⟩ := zcells (zdraw HZ4.out (q + q2 + q6))
        have f0 := zfree (zdraw HZ4.out (q + q2 + q6)) 0
        have f1 := zfree (zdraw HZ4.out (q + q2 + q6)) 1
        have f2 := zfree (zdraw HZ4.out (q + q2 + q6)) 2
        have f3 := zfree (zdraw HZ4.out (q + q2 + q6)) 3
        go_wp2_with fail
        refine bodyPost_ret (v := .tuple #[tokV 0 0 [] 0, .int .i64 3]) (by simp [results, Tryd.results36, go_sem, tokV, byS, b0, b1, b2, b3]) rfl ?_
        rw [HT.out]
        exact ⟨rfl, ch4 (HC4.out.trans (Ch.draws _)) (Nat.le_refl _)⟩
    | cons d r =>
      by_cases hd : d.toNat = 61
      · have hd2 : d = 61 := UInt8.toNat_inj.1 hd
        subst hd2
        rw [if_pos ⟨trivial, rfl⟩] at HT
        have CR2 := hid (fun q => read_at g (n + 1) s 61 r (w4.drewN q) (HS4.out.draws q))
        go_wp2_with fail
        refine (CK.out q).mono ?_
        rintro e w5 ⟨rfl, q2, rfl⟩
        simp only [rn]
        have h61 : ((61 : UInt8).toNat : Int) = 61 := rfl
        go_wp2_with fail
        refine (CR2.out _).mono ?_
        rintro e w6 ⟨rfl, hs6, hch6⟩
        have HS6 := hid hs6
        have hz6 := hch6.obj (zdraw HZ4.out (q + q2)) (by omega : w.heap.size ≠ g)
        have HC6 : Hid (Ch g w w6) := (HC4.out.trans (Ch.draws _)).trans hch6
        obtain ⟨b0, b1, b2, b3⟩ := zcells hz6
        have f0 := zfree hz6 0
        have f1 := zfree hz6 1
        have f2 := zfree hz6 2
        have f3 := zfree hz6 3
        have p0 := hs6.cell0
        have p1 := hs6.cell1
        have hn1 : (n : Int) ≤ (n : Int) + 1 + 1 := by omega
        have hn2 : (n : Int) + 1 + 1 ≤ (s.size : Int) := by simp only [List.length_cons] at hlen; omega
        have hn0 : 0 ≤ (n : Int) := by omega
        have htn : ((n : Int) + 1 + 1).toNat = n + 2 := by omega
        clear hs6 hch6 hz6
        go_wp2_with fail
        go_region
        all_goals go_wp2_with fail
        have hst := str2 H.out
        refine bodyPost_ret (v := .tuple #[tokV 5 0 [c, 61] 0, .int .i64 0]) (by simp [results, Tryd.results36, go_sem, tokV, byS, b0, b1, b2, b3, hst]) rfl ?_
        rw [HT.out]
        exact ⟨rfl, ch4 (HC6.out.trans (Ch.draws 1)) (Nat.le_refl _), n + 1 + 1, sc4 (HS6.out.draws 1) (by omega)⟩
      · have hd1 : ¬ (d.toNat : Int) = 61 := by omega
        rw [if_neg (fun h => hd h.2)] at HT
        go_wp2_with fail
        refine (CK.out q).mono ?_
        rintro e w5 ⟨rfl, q2, rfl⟩
        simp only [rn]
        cases hs : Tk.signc c with
        | true =>
          rw [hs] at CS HT
          rw [if_pos rfl] at HT
          go_wp2_with fail
          refine (CS.out (q + q2)).mono ?_
          rintro e w6 ⟨rfl, q6, rfl⟩
          obtain ⟨b0, b1, b2, b3⟩ := zcells HZ4.out
          have f0 := zfree HZ4.out 0
          have f1 := zfree HZ4.out 1
          have f2 := zfree HZ4.out 2
          have f3 := zfree HZ4.out 3
          have p0 := HS4.out.cell0
          have p1 := HS4.out.cell1
          have hn1 : (n : Int) ≤ (n : Int) + 1 := by omega
          have hn2 : (n : Int) + 1 ≤ (s.size : Int) := by omega
          have hn0 : 0 ≤ (n : Int) := by omega
          have htn : ((n : Int) + 1).toNat = n + 1 := by omega
          go_wp2_with fail
          go_region
          all_goals go_wp2_with fail
          have hst := str1 H.out
          refine bodyPost_ret (v := .tuple #[tokV 5 0 [c] 0, .int .i64 0]) (by simp [results, Tryd.results36, go_sem, tokV, byS, b0, b1, b2, b3, hst]) rfl ?_
          rw [HT.out]
          exact ⟨rfl, ch4 (HC4.out.trans (Ch.draws _)) (Nat.le_refl _), n + 1, sc4 (HS4.out.draws _) (by omega)⟩
        | false =>
          rw [hs] at CS HT
          rw [if_neg (by simp)] at HT
          go_wp2_with fail
          refine (CS.out (q + q2)).mono ?_
          rintro e w6 ⟨rfl, q6, rfl⟩
          obtain ⟨b0, b1, b2, b3⟩ := zcells (zdraw HZ4.out (q + q2 + q6))
          have f0 := zfree (zdraw HZ4.out (q + q2 + q6)) 0
          have f1 := zfree (zdraw HZ4.out (q + q2 + q6)) 1
          have f2 := zfree (zdraw HZ4.out (q + q2 + q6)) 2
          have f3 := zfree (zdraw HZ4.out (q + q2 + q6)) 3
          go_wp2_with fail
          refine bodyPost_ret (v := .tuple #[tokV 0 0 [] 0, .int .i64 3]) (by simp [results, Tryd.results36, go_sem, tokV, byS, b0, b1, b2, b3]) rfl ?_
          rw [HT.out]
          exact ⟨rfl, ch4 (HC4.out.trans (Ch.draws _)) (Nat.le_refl _)⟩
end Go.Proofs.YtodcgdiejmdaaaaDoor
