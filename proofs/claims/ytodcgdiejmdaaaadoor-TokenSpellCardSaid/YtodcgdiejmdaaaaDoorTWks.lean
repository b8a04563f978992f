/-
  The chapter's examples.
-/
import Derived.Test.YtodcgdiejmdaaaaDoorTScan
import Derived.Test.YtodcgdiejmdaaaaDoorTEq
import Derived.Test.YtodcgdiejmdaaaaDoorTQuot2
namespace Go.Proofs.YtodcgdiejmdaaaaDoor
open Go.RowKit

def exL : List Tk.T := [⟨2, 0, [108, 101, 116], 0⟩, ⟨1, 4, [120], 0⟩, ⟨5, 6, [61], 0⟩, ⟨3, 8, [], 10⟩, ⟨5, 10, [59], 0⟩, ⟨0, 11, [], 0⟩]
theorem ex1 : Tk.scanA [108, 101, 116, 32, 120, 32, 61, 32, 49, 48, 59] = .good exL := by decide
theorem ex2 : Tk.scanA [97, 32, 33, 98] = .bad 2 3 := by decide
theorem ex3 : Tk.quote [97, 10] = [34, 97, 92, 110, 34] := by decide

theorem rd_new (w : World) (l : List Tk.T) (hl : l.length ≤ 1000000) : RdT (w.alloc (.cells (tksC l).toArray 30)) (.slice (some ⟨w.heap.size, 0, none⟩) l.length l.length) l := by
  have h : OwnT (w.alloc (.cells (tksC l).toArray 30)) 0 (.slice (some ⟨w.heap.size, 0, none⟩) l.length l.length) l := by
    have := World.ownsRow_lit (base := 0) (e := 30) (size := 4) w (tksC l).toArray l.length (Nat.zero_le _) (by unfold maxLen; omega) (by simp [tksC_len])
    simpa [OwnT] using this
  exact h.rd

set_option maxRecDepth 100000 in
set_option maxHeartbeats 2000000 in
theorem works_any (w : World) (hG : Good w) : Calls Tryd.prog 10 #[] w fun e w' => e = .returned (.bool true) ∧ Below w.heap.size w w' := by
  have HG := hid hG
  have C1 := hid (scan_any ⟨#[108, 101, 116, 32, 120, 32, 61, 32, 49, 48, 59]⟩ w hG)
  have C2 := hid (fun W h => scan_any ⟨#[97, 32, 33, 98]⟩ W h)
  have C3 := hid (fun W => quote_any ⟨#[97, 10]⟩ W (by decide))
  rw [show Tk.scanA (⟨#[108, 101, 116, 32, 120, 32, 61, 32, 49, 48, 59]⟩ : ByteArray).data.toList = .good exL from ex1] at C1
  rw [show Tk.scanA (⟨#[97, 32, 33, 98]⟩ : ByteArray).data.toList = .bad 2 3 from ex2] at C2
  rw [show Tk.quote (⟨#[97, 10]⟩ : ByteArray).data.toList = [34, 97, 92, 110, 34] from ex3] at C3
  have CE := hid (fun v W (h : RdT W v exL) => equal_any v _ exL exL (W.alloc (.cells (tksC exL).toArray 30)) (h.keep ((Below.refl _ _).alloc (Nat.le_refl _) _)) (rd_new W exL (by decide)) (by decide) (by decide))
  clear hG
  go_enter Tryd.func10, Tryd.ntmps10
  go_wp2_with fail
  refine C1.out.mono ?_
  rintro e w1 ⟨v1, rfl, ho1, hb1⟩
  have HB1 := hid hb1
  have HR1 := hid (OwnT.rd ho1)
  clear ho1 hb1
  go_wp2_with fail
  refine (C2.out w1 (HG.out.below HB1.out)).mono ?_
  rintro e w2 ⟨rfl, hb2⟩
  have HB2 := hid (HB1.out.trans (hb2.mono HB1.out.size))
  have HR2 := hid (HR1.out.keep hb2)
  clear hb2
  have CE2 := hid (CE.out v1 w2 HR2.out)
  simp only [decide_true] at CE2
  go_wp2_with fail
  refine CE2.out.mono ?_
  rintro e w3 ⟨rfl, q, rfl⟩
  go_wp2_with fail
  refine (C3.out _).mono ?_
  rintro e w4 ⟨rfl, hb4⟩
  unfold byS
  go_wp2_with fail
  go_ret
  exact ⟨rfl, HB2.out.trans ((((Below.refl _ _).alloc HB2.out.size _).trans (below_draws _)).trans (hb4.mono (by simp; have := HB2.out.size; omega)))⟩
end Go.Proofs.YtodcgdiejmdaaaaDoor
