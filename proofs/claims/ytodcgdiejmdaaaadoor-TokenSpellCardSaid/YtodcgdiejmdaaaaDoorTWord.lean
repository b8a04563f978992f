/-
  A word, read by the program's scanner.
-/
import Derived.Test.YtodcgdiejmdaaaaDoorTAsc
namespace Go.Proofs.YtodcgdiejmdaaaaDoor
open Go.RowKit

set_option maxRecDepth 100000 in
set_option maxHeartbeats 1000000 in
theorem word_any (g n : Nat) (s : ByteArray) (l : List UInt8) (w : World) (h : Sc w g s n l) :
    Calls Tryd.prog 33 #[.pointer (some ⟨g, 0, none⟩)] w (TPost g s w (Tk.wordT l)) := by
  have H := hid h
  have hg := h.lt
  have hsz := h.2.2.2
  have hlen := h.len
  have CA := hid (among_asc g _ _ asc_word (w.alloc zTok) (by simp; omega))
  have HA : Hid (Sc (w.alloc zTok) g s n l) := h.below ((Below.refl _ _).alloc (Nat.le_refl _) _)
  have HZ : Hid ((w.alloc zTok).heap[w.heap.size]? = some zTok) := zalloc w
  have hdl : (l.takeWhile Tk.wordc).length ≤ l.length := List.Sublist.length_le (List.takeWhile_sublist _)
  have hds : (byS (l.takeWhile Tk.wordc)).size = (l.takeWhile Tk.wordc).length := byS_size _
  have HT : Hid (Tk.wordT l = if (l.takeWhile Tk.wordc).length > 64 then .bad 8 else .good (if Tk.kw (l.takeWhile Tk.wordc) then 2 else 1) (l.takeWhile Tk.wordc) 0 (l.dropWhile Tk.wordc)) := rfl
  have HSP := hid (fun k W => span_any g n k s l Tk.wordc W)
  have HKW := hid (fun W => kw_any (l.takeWhile Tk.wordc) W)
  generalize Tk.wordT l = r at *
  generalize hdd : l.takeWhile Tk.wordc = d at *
  clear h hdd
  go_enter Tryd.func33, Tryd.ntmps33
  go_wp2_with fail
  refine CA.out.mono ?_
  rintro e w1 ⟨k, rfl, hb1, hcl⟩
  have HS1 := hid (HA.out.below hb1)
  have HZ1 := hid (zstep HZ.out hb1)
  have HC1 : Hid (Ch g w w1) := (Ch.of_below ((Below.refl _ _).alloc (Nat.le_refl _) _)).trans (Ch.of_below hb1)
  have HCL := hid hcl
  clear hb1 hcl
  go_wp2_with fail
  refine (HSP.out k w1 HS1.out HCL.out).mono ?_
  rintro e w2 ⟨rfl, hch, m, hS2⟩
  have HS2 := hid hS2
  have hz2 : w2.heap[w.heap.size]? = some zTok := hch.obj HZ1.out (by omega)
  have HC2 : Hid (Ch g w w2) := HC1.out.trans hch
  obtain ⟨b0, b1, b2, b3⟩ := zcells hz2
  have f0 := zfree hz2 0
  have f1 := zfree hz2 1
  have f2 := zfree hz2 2
  have f3 := zfree hz2 3
  clear hch hS2 hz2
  change (byS d).size = _ at hds
  by_cases h64 : d.length > 64
  · rw [if_pos h64] at HT
    go_wp2_with fail
    refine bodyPost_ret (v := .tuple #[tokV 0 0 [] 0, .int .i64 8]) (by simp [results, Tryd.results33, go_sem, tokV, byS, b0, b1, b2, b3]) rfl ?_
    rw [HT.out]
    exact ⟨rfl, ch4 HC2.out (Nat.le_refl _)⟩
  · rw [if_neg h64] at HT
    have h64' : ¬ (64 < (d.length : Int)) := by omega
    clear h64
    go_wp2_with fail
    refine (HKW.out w2).mono ?_
    rintro e w3 ⟨rfl, rfl⟩
    cases hk : Tk.kw d with
    | true =>
      rw [hk, if_pos rfl] at HT
      go_wp2_with fail
      refine bodyPost_ret (v := .tuple #[tokV 2 0 d 0, .int .i64 0]) (by simp [results, Tryd.results33, go_sem, tokV, byS, b0, b1, b2, b3]) rfl ?_
      rw [HT.out]
      exact ⟨rfl, ch4 HC2.out (Nat.le_refl _), m, sc4 HS2.out (by omega)⟩
    | false =>
      rw [hk, if_neg (by simp)] at HT
      go_wp2_with fail
      refine bodyPost_ret (v := .tuple #[tokV 1 0 d 0, .int .i64 0]) (by simp [results, Tryd.results33, go_sem, tokV, byS, b0, b1, b2, b3]) rfl ?_
      rw [HT.out]
      exact ⟨rfl, ch4 HC2.out (Nat.le_refl _), m, sc4 HS2.out (by omega)⟩
end Go.Proofs.YtodcgdiejmdaaaaDoor
