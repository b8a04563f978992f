/-
  The span of a class, by its contract.
-/
import Derived.Test.YtodcgdiejmdaaaaDoorTCls
namespace Go.Proofs.YtodcgdiejmdaaaaDoor
open Go.RowKit

theorem extract_list (s : ByteArray) (a b : Nat) : (s.extract a b).data.toList = (s.data.toList.drop a).take (b - a) := by
  rw [ByteArray.data_extract, Array.toList_extract, List.extract_eq_take_drop]
theorem extract_mk (s : ByteArray) (a b : Nat) : s.extract a b = ⟨((s.data.toList.drop a).take (b - a)).toArray⟩ := by
  rw [← extract_list]
theorem takeWhile_take (p : UInt8 → Bool) : ∀ l : List UInt8, l.take (l.length - (l.dropWhile p).length) = l.takeWhile p
  | [] => rfl
  | c :: l => by
    have ih := takeWhile_take p l
    have hl := Tk.dropWhile_len p l
    rw [List.dropWhile_cons, List.takeWhile_cons]
    by_cases h : p c = true
    · rw [if_pos h, if_pos h, List.length_cons, show l.length + 1 - (l.dropWhile p).length = (l.length - (l.dropWhile p).length) + 1 by omega, List.take_succ_cons, ih]
    · rw [if_neg h, if_neg h]; simp

/-- Where the scanner stands in memory. -/
def posOf (w : World) (g : Nat) : Nat := match w.cell? ⟨g, 1, none⟩ with
  | some v => (intOf v).toNat
  | none => 0
theorem Sc.pos {w : World} {g n : Nat} {s : ByteArray} {l : List UInt8} (h : Sc w g s n l) : posOf w g = n := by
  unfold posOf; rw [h.cell1]; simp [intOf]

theorem span_str {w w' : World} {g n m : Nat} {s : ByteArray} {l r : List UInt8} {p : UInt8 → Bool} (h : Sc w g s n l) (h' : Sc w' g s m r) (hr : r = l.dropWhile p) :
    s.extract n m = ⟨(l.takeWhile p).toArray⟩ := by
  have h1 := h.len
  have h2 := h'.len
  rw [extract_mk, h.2.2.1, ← takeWhile_take, ← hr, show m - n = l.length - r.length by omega]

set_option maxRecDepth 100000 in
set_option maxHeartbeats 1000000 in
theorem span_any (g n k : Nat) (s : ByteArray) (l : List UInt8) (p : UInt8 → Bool) (w : World) (h : Sc w g s n l) (hk : Cl w g k p) :
    Calls Tryd.prog 21 #[.pointer (some ⟨g, 0, none⟩), fv k] w fun e w' =>
      e = .returned (.string ⟨(l.takeWhile p).toArray⟩) ∧ Ch g w w' ∧ ∃ m, Sc w' g s m (l.dropWhile p) := by
  have hc1 := h.cell1
  have H := hid h
  have HK := hid hk
  have hn : n ≤ s.size := h.2.1
  have hsz := h.2.2.2
  have hlen := h.len
  have hdr := hid h.2.2.1
  clear h hk
  unfold fv
  go_enter Tryd.func21, Tryd.ntmps21
  go_wp2_with fail
  go_loopw [10] (fun _ wr => ∃ m r, Sc wr g s m r ∧ Hid (Ch g w wr) ∧ Hid (r.dropWhile p = l.dropWhile p) ∧ n ≤ m) (fun _ wr => s.size - posOf wr g)
  case atStart => exact ⟨n, l, H.out, Ch.refl, rfl, Nat.le_refl _⟩
  case round =>
    obtain ⟨m, r, hS, hCh, hdw, hnm⟩ := hrel
    have HS := hid hS
    have CP := hid (peek_any g m s r wr hS)
    have hm1 := hS.cell1
    have hf1 := hS.free 1
    have hms : m ≤ s.size := hS.2.1
    clear hS
    go_wp2_with fail
    refine CP.out.mono ?_
    rintro e w' ⟨rfl, q, rfl⟩
    have CC := hid (cls_any g k p r (wr.drewN q) ((HK.out.ch hCh.out).ch (Ch.draws q)))
    have hm2 : (wr.drewN q).cell? ⟨g, 1, none⟩ = some (.int .i64 (m : Int)) := hm1
    have hf2 : (wr.drewN q).frozen? ⟨g, 1, none⟩ = false := hf1
    have h0 : wr.cell? ⟨g, 0, none⟩ = some (.string s) := HS.out.cell0
    have hnm' : (n : Int) ≤ (m : Int) := by omega
    have hms' : (m : Int) ≤ (s.size : Int) := by omega
    have hn0 : 0 ≤ (n : Int) := by omega
    have hm9 := hid hm1
    clear hm1 hf1
    cases r with
    | nil =>
      simp only [hdp] at CC
      go_wp2_with fail
      refine CC.out.mono ?_
      rintro e w' ⟨rfl, q2, rfl⟩
      have hm1 := hm9.out
      clear hm2
      go_wp2_with fail
      go_quiet (fail)
      go_wp2_with fail
      go_ret
      have hst := span_str H.out HS.out (show [] = l.dropWhile p from hdw.out)
      exact ⟨congrArg (fun x => Ending.returned (Value.string x)) hst, hCh.out.trans ((Ch.draws _).trans (Ch.draws _)), m, by rw [← hdw.out]; exact (HS.out.draws _).draws _⟩
    | cons c r =>
      cases hx : p c with
      | false =>
        simp only [hdp, hx] at CC
        go_wp2_with fail
        refine CC.out.mono ?_
        rintro e w' ⟨rfl, q2, rfl⟩
        have hm1 := hm9.out
        clear hm2
        go_wp2_with fail
        go_quiet (fail)
        go_wp2_with fail
        go_ret
        have hdw2 : c :: r = l.dropWhile p := by rw [← hdw.out, List.dropWhile_cons, if_neg (by rw [hx]; simp)]
        have hst := span_str H.out HS.out hdw2
        exact ⟨congrArg (fun x => Ending.returned (Value.string x)) hst, hCh.out.trans ((Ch.draws _).trans (Ch.draws _)), m, by rw [← hdw2]; exact (HS.out.draws _).draws _⟩
      | true =>
        simp only [hdp, hx] at CC
        go_wp2_with fail
        refine CC.out.mono ?_
        rintro e w' ⟨rfl, q2, rfl⟩
        have hm3 : (wr.drewN (q + q2)).cell? ⟨g, 1, none⟩ = some (.int .i64 (m : Int)) := hm2
        have hf3 : (wr.drewN (q + q2)).frozen? ⟨g, 1, none⟩ = false := hf2
        clear hm2 h0
        go_wp2_with fail
        have HS2 := hid (HS.out.draws (q + q2)).step
        refine ⟨⟨m + 1, r, HS2.out, hCh.out.trans ((Ch.draws _).trans (Ch.set _ _ _ _)), ?_, by omega⟩, ?_⟩
        · show _ = _
          rw [← hdw.out, List.dropWhile_cons, if_pos hx]
        · rw [HS2.out.pos, HS.out.pos]
          have := HS.out.len
          simp only [List.length_cons] at this
          omega
end Go.Proofs.YtodcgdiejmdaaaaDoor
