/-
  What follows a backslash, read by the program's scanner.
-/
import Derived.Test.YtodcgdiejmdaaaaDoorTInt
namespace Go.Proofs.YtodcgdiejmdaaaaDoor
open Go.RowKit

theorem fault_end (w : World) : Calls Tryd.prog 50 #[.int .i32 (-1)] w fun e w' => e = .returned (.int .i64 4) ∧ w = w' := by
  go_enter Tryd.func50, Tryd.ntmps50
  go_wp2_with fail
  go_ret
  exact ⟨rfl, rfl⟩
theorem fault_at (c : UInt8) (w : World) : Calls Tryd.prog 50 #[.int .i32 (c.toNat : Int)] w fun e w' => e = .returned (.int .i64 3) ∧ w = w' := by
  have hne : ((c.toNat : Int) == -1) = false := by simp
  go_enter Tryd.func50, Tryd.ntmps50
  go_wp2_with fail
  go_ret
  exact ⟨rfl, rfl⟩

def hexL : List UInt8 := [48, 49, 50, 51, 52, 53, 54, 55, 56, 57, 97, 98, 99, 100, 101, 102]
theorem hex_ix (c : UInt8) : Lib.indexByte hexL c = Tk.hexv c := by
  have h : ((List.range 256).all fun n => Lib.indexByte hexL (UInt8.ofNat n) == Tk.hexv (UInt8.ofNat n)) = true := by kernel_rfl
  rw [List.all_eq_true] at h
  have := h c.toNat (List.mem_range.2 c.toNat_lt)
  simpa using this
theorem hex_hi (c : UInt8) : Tk.hexv c ≤ 15 := by
  have h : ((List.range 256).all fun n => decide (Tk.hexv (UInt8.ofNat n) ≤ 15)) = true := by kernel_rfl
  rw [List.all_eq_true] at h
  have := h c.toNat (List.mem_range.2 c.toNat_lt)
  simpa using this
theorem hex_end (w : World) : Calls Tryd.prog 46 #[.string ⟨#[48, 49, 50, 51, 52, 53, 54, 55, 56, 57, 97, 98, 99, 100, 101, 102]⟩, .int .i32 (-1)] w fun e w' => e = .returned (.int .i64 (-1)) ∧ w = w' := idx_end _ w
theorem hex_at (c : UInt8) (w : World) : Calls Tryd.prog 46 #[.string ⟨#[48, 49, 50, 51, 52, 53, 54, 55, 56, 57, 97, 98, 99, 100, 101, 102]⟩, .int .i32 (c.toNat : Int)] w fun e w' => e = .returned (.int .i64 (Tk.hexv c)) ∧ ∃ q, w' = w.drewN q := by
  rw [← hex_ix]
  exact idx_any ⟨#[48, 49, 50, 51, 52, 53, 54, 55, 56, 57, 97, 98, 99, 100, 101, 102]⟩ (by simp) (by decide) [c] w

/-- What an escape's method leaves. -/
def EPost (g : Nat) (s : ByteArray) (w : World) (r : Tk.ER) (e : Ending) (w' : World) : Prop := match r with
  | .bad c => e = .returned (.tuple #[.int .u8 0, .int .i64 c]) ∧ Ch g w w'
  | .good c l => e = .returned (.tuple #[.int .u8 (c.toNat : Int), .int .i64 0]) ∧ Ch g w w' ∧ ∃ m, Sc w' g s m l

set_option maxRecDepth 100000 in
set_option maxHeartbeats 2000000 in
theorem code_any (g n : Nat) (s : ByteArray) (l : List UInt8) (w : World) (h : Sc w g s n l) :
    Calls Tryd.prog 61 #[.pointer (some ⟨g, 0, none⟩)] w (EPost g s w (Tk.code l)) := by
  cases l with
  | nil =>
    have CR := hid (read_end g n s w h)
    clear h
    go_enter Tryd.func61, Tryd.ntmps61
    go_wp2_with fail
    refine wp_loop_rounds 1 ?_
    rw [rounds_succ]
    go_wp2_with fail
    refine CR.out.mono ?_
    rintro e w1 ⟨rfl, _, hch⟩
    have HC := hid hch
    clear hch
    go_wp2_with fail
    refine (hex_end _).mono ?_
    rintro e w2 ⟨rfl, rfl⟩
    go_wp2_with fail
    refine (fault_end _).mono ?_
    rintro e w2 ⟨rfl, rfl⟩
    go_wp2_with fail
    go_ret2
    exact ⟨rfl, HC.out⟩
  | cons a l =>
    have CR := hid (read_at g n s a l w h)
    clear h
    have hhi := hex_hi a
    by_cases ha : Tk.hexv a < 0
    · have HT : Hid (Tk.code (a :: l) = .bad 3) := by show _ = _; unfold Tk.code; simp only []; rw [if_pos ha]
      rw [HT.out]
      go_enter Tryd.func61, Tryd.ntmps61
      go_wp2_with fail
      refine wp_loop_rounds 1 ?_
      rw [rounds_succ]
      go_wp2_with fail
      refine CR.out.mono ?_
      rintro e w1 ⟨rfl, _, hch⟩
      have HC := hid hch
      clear hch
      go_wp2_with fail
      refine (hex_at a _).mono ?_
      rintro e w2 ⟨rfl, q, rfl⟩
      go_wp2_with fail
      refine (fault_at a _).mono ?_
      rintro e w2 ⟨rfl, rfl⟩
      go_wp2_with fail
      go_ret2
      exact ⟨rfl, HC.out.trans (Ch.draws _)⟩
    · have ha0 : 0 ≤ Tk.hexv a := by omega
      have HA := hid (fun W => hex_at a W)
      cases l with
      | nil =>
        have HT : Hid (Tk.code [a] = .bad 4) := by show _ = _; unfold Tk.code; simp only []; rw [if_neg ha]
        rw [HT.out]
        generalize Tk.hexv a = x at *
        go_enter Tryd.func61, Tryd.ntmps61
        go_wp2_with fail
        refine wp_loop_rounds 2 ?_
        rw [rounds_succ]
        go_wp2_with fail
        refine CR.out.mono ?_
        rintro e w1 ⟨rfl, hs, hch⟩
        have HC := hid hch
        have HS := hid hs
        clear hch hs
        go_wp2_with fail
        refine (HA.out _).mono ?_
        rintro e w2 ⟨rfl, q, rfl⟩
        go_wp2_with fail
        rw [rounds_succ]
        go_wp2_with fail
        refine (read_end g (n + 1) s _ (HS.out.draws q)).mono ?_
        rintro e w3 ⟨rfl, _, hch3⟩
        have HC3 := hid hch3
        clear hch3
        go_wp2_with fail
        refine (hex_end _).mono ?_
        rintro e w4 ⟨rfl, rfl⟩
        go_wp2_with fail
        refine (fault_end _).mono ?_
        rintro e w4 ⟨rfl, rfl⟩
        go_wp2_with fail
        go_ret2
        exact ⟨rfl, (HC.out.trans (Ch.draws _)).trans HC3.out⟩
      | cons b l =>
        have hhi2 := hex_hi b
        have HB := hid (fun W => hex_at b W)
        by_cases hb : Tk.hexv b < 0
        · have HT : Hid (Tk.code (a :: b :: l) = .bad 3) := by show _ = _; unfold Tk.code; simp only []; rw [if_neg ha, if_pos hb]
          rw [HT.out]
          clear ha
          generalize Tk.hexv a = x at *
          generalize Tk.hexv b = y at *
          go_enter Tryd.func61, Tryd.ntmps61
          go_wp2_with fail
          refine wp_loop_rounds 2 ?_
          rw [rounds_succ]
          go_wp2_with fail
          refine CR.out.mono ?_
          rintro e w1 ⟨rfl, hs, hch⟩
          have HC := hid hch
          have HS := hid hs
          clear hch hs
          go_wp2_with fail
          refine (HA.out _).mono ?_
          rintro e w2 ⟨rfl, q, rfl⟩
          go_wp2_with fail
          rw [rounds_succ]
          go_wp2_with fail
          refine (read_at g (n + 1) s b l _ (HS.out.draws q)).mono ?_
          rintro e w3 ⟨rfl, _, hch3⟩
          have HC3 := hid hch3
          clear hch3
          go_wp2_with fail
          refine (HB.out _).mono ?_
          rintro e w4 ⟨rfl, q4, rfl⟩
          go_wp2_with fail
          refine (fault_at b _).mono ?_
          rintro e w4 ⟨rfl, rfl⟩
          go_wp2_with fail
          go_ret2
          exact ⟨rfl, ((HC.out.trans (Ch.draws _)).trans HC3.out).trans (Ch.draws _)⟩
        · have HT : Hid (Tk.code (a :: b :: l) = .good (UInt8.ofNat (16 * Tk.hexv a + Tk.hexv b).toNat) l) := by show _ = _; unfold Tk.code; simp only []; rw [if_neg ha, if_neg hb]
          rw [HT.out]
          have hb0 : 0 ≤ Tk.hexv b := by omega
          clear ha hb
          generalize Tk.hexv a = x at *
          generalize Tk.hexv b = y at *
          have hxy : 16 * x + y ≤ 255 := by omega
          have hxy0 : 0 ≤ 16 * x + y := by omega
          go_enter Tryd.func61, Tryd.ntmps61
          go_wp2_with fail
          refine wp_loop_rounds 3 ?_
          rw [rounds_succ]
          go_wp2_with fail
          refine CR.out.mono ?_
          rintro e w1 ⟨rfl, hs, hch⟩
          have HC := hid hch
          have HS := hid hs
          clear hch hs
          go_wp2_with fail
          refine (HA.out _).mono ?_
          rintro e w2 ⟨rfl, q, rfl⟩
          go_wp2_with fail
          rw [rounds_succ]
          go_wp2_with fail
          refine (read_at g (n + 1) s b l _ (HS.out.draws q)).mono ?_
          rintro e w3 ⟨rfl, hs3, hch3⟩
          have HC3 := hid hch3
          have HS3 := hid hs3
          clear hch3 hs3
          go_wp2_with fail
          refine (HB.out _).mono ?_
          rintro e w4 ⟨rfl, q4, rfl⟩
          go_wp2_with fail
          rw [rounds_succ]
          go_wp2_with fail
          go_ret2
          refine ⟨?_, ((HC.out.trans (Ch.draws _)).trans HC3.out).trans (Ch.draws _), _, HS3.out.draws _⟩
          rw [UInt8.toNat_ofNat', show (((16 * x + y).toNat % 2 ^ 8 : Nat) : Int) = 16 * x + y by simp only [Nat.reducePow]; omega]
          rfl

set_option maxRecDepth 100000 in
set_option maxHeartbeats 2000000 in
theorem escape_any (g n : Nat) (s : ByteArray) (l : List UInt8) (w : World) (h : Sc w g s n l) :
    Calls Tryd.prog 49 #[.pointer (some ⟨g, 0, none⟩)] w (EPost g s w (Tk.esc l)) := by
  cases l with
  | nil =>
    have CR := hid (read_end g n s w h)
    clear h
    go_enter Tryd.func49, Tryd.ntmps49
    go_wp2_with fail
    refine CR.out.mono ?_
    rintro e w1 ⟨rfl, _, hch⟩
    have HC := hid hch
    clear hch
    go_wp2_with fail
    refine (fault_end _).mono ?_
    rintro e w2 ⟨rfl, rfl⟩
    go_wp2_with fail
    go_ret2
    exact ⟨rfl, HC.out⟩
  | cons c l =>
    have CR := hid (read_at g n s c l w h)
    have HT : Hid (Tk.esc (c :: l) = if c.toNat = 34 ∨ c.toNat = 92 then .good c l else if c.toNat = 110 then .good 10 l else if c.toNat = 116 then .good 9 l else if c.toNat = 120 then Tk.code l else .bad 3) := rfl
    generalize Tk.esc (c :: l) = rr at *
    have hcn := c.toNat_lt
    clear h
    by_cases h1 : c.toNat = 34
    · rw [if_pos (.inl h1)] at HT
      have i1 : (c.toNat : Int) = 34 := by omega
      go_enter Tryd.func49, Tryd.ntmps49
      go_wp2_with fail
      refine CR.out.mono ?_
      rintro e w1 ⟨rfl, hs, hch⟩
      have HC := hid hch
      have HS := hid hs
      clear hch hs
      go_wp2_with fail
      go_ret2
      rw [HT.out]
      exact ⟨by rw [i1]; rfl, HC.out, n + 1, HS.out⟩
    by_cases h2 : c.toNat = 92
    · rw [if_pos (.inr h2)] at HT
      have i1 : (c.toNat : Int) = 92 := by omega
      go_enter Tryd.func49, Tryd.ntmps49
      go_wp2_with fail
      refine CR.out.mono ?_
      rintro e w1 ⟨rfl, hs, hch⟩
      have HC := hid hch
      have HS := hid hs
      clear hch hs
      go_wp2_with fail
      go_ret2
      rw [HT.out]
      exact ⟨by rw [i1]; rfl, HC.out, n + 1, HS.out⟩
    rw [if_neg (by omega)] at HT
    have j1 : ¬ (c.toNat : Int) = 34 := by omega
    have j2 : ¬ (c.toNat : Int) = 92 := by omega
    by_cases h3 : c.toNat = 110
    · rw [if_pos h3] at HT
      have i1 : (c.toNat : Int) = 110 := by omega
      clear j1 j2
      go_enter Tryd.func49, Tryd.ntmps49
      go_wp2_with fail
      refine CR.out.mono ?_
      rintro e w1 ⟨rfl, hs, hch⟩
      have HC := hid hch
      have HS := hid hs
      clear hch hs
      go_wp2_with fail
      go_ret2
      rw [HT.out]
      exact ⟨rfl, HC.out, n + 1, HS.out⟩
    rw [if_neg h3] at HT
    by_cases h4 : c.toNat = 116
    · rw [if_pos h4] at HT
      have i1 : (c.toNat : Int) = 116 := by omega
      clear j1 j2
      go_enter Tryd.func49, Tryd.ntmps49
      go_wp2_with fail
      refine CR.out.mono ?_
      rintro e w1 ⟨rfl, hs, hch⟩
      have HC := hid hch
      have HS := hid hs
      clear hch hs
      go_wp2_with fail
      go_ret2
      rw [HT.out]
      exact ⟨rfl, HC.out, n + 1, HS.out⟩
    rw [if_neg h4] at HT
    by_cases h5 : c.toNat = 120
    · rw [if_pos h5] at HT
      have i1 : (c.toNat : Int) = 120 := by omega
      clear j1 j2
      go_enter Tryd.func49, Tryd.ntmps49
      go_wp2_with fail
      refine CR.out.mono ?_
      rintro e w1 ⟨rfl, hs, hch⟩
      have HC := hid hch
      have HS := hid hs
      clear hch hs
      go_wp2_with fail
      refine (code_any g (n + 1) s l _ HS.out).mono ?_
      intro e w2 hp
      have HE := hid hp
      clear hp
      cases hc : Tk.code l with
      | bad k =>
        rw [hc] at HE
        obtain ⟨rfl, hch2⟩ := HE.out
        clear HE
        go_wp2_with fail
        go_ret2
        rw [HT.out, hc]
        exact ⟨rfl, HC.out.trans hch2⟩
      | good k r =>
        rw [hc] at HE
        obtain ⟨rfl, hch2, m, hs2⟩ := HE.out
        have HS2 := hid hs2
        clear HE hs2
        go_wp2_with fail
        go_ret2
        rw [HT.out, hc]
        exact ⟨rfl, HC.out.trans hch2, m, HS2.out⟩
    rw [if_neg h5] at HT
    have j3 : ¬ (c.toNat : Int) = 110 := by omega
    have j4 : ¬ (c.toNat : Int) = 116 := by omega
    have j5 : ¬ (c.toNat : Int) = 120 := by omega
    go_enter Tryd.func49, Tryd.ntmps49
    go_wp2_with fail
    refine CR.out.mono ?_
    rintro e w1 ⟨rfl, hs, hch⟩
    have HC := hid hch
    have HS := hid hs
    clear hch hs
    go_wp2_with fail
    refine (fault_at c _).mono ?_
    rintro e w2 ⟨rfl, rfl⟩
    go_wp2_with fail
    go_ret2
    rw [HT.out]
    exact ⟨rfl, HC.out⟩
end Go.Proofs.YtodcgdiejmdaaaaDoor
