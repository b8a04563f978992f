/-
  same of the law, by its contract, for lists that part in offsets alone.
-/
import Derived.Test.YtodcgdiejmdaaaaDoorTEq
import Derived.Test.YtodcgdiejmdaaaaDoorTMem
namespace Go.Proofs.YtodcgdiejmdaaaaDoor
open Go.RowKit

/-- The same tokens apart from the offsets. -/
def Like (l1 l2 : List Tk.T) : Prop := l1.length = l2.length ∧ ∀ (i : Nat) (h1 : i < l1.length) (h2 : i < l2.length), l2[i].k = l1[i].k ∧ l2[i].t = l1[i].t ∧ l2[i].n = l1[i].n

set_option maxRecDepth 100000 in
set_option maxHeartbeats 2000000 in
theorem same_any (v1 v2 : Value) (l1 l2 : List Tk.T) (w : World) (h1 : RdT w v1 l1) (h2 : RdT w v2 l2) (hl : l1.length ≤ 1000000) (h : Like l1 l2) :
    Calls Tryd.prog 20 #[v1, v2] w fun e w' => e = .returned (.bool true) ∧ ∃ q, w' = w.drewN q := by
  have H1 := hid h1
  have H2 := hid h2
  obtain ⟨A1, c1, rfl⟩ := h1.form'
  obtain ⟨A2, c2, rfl⟩ := h2.form'
  clear h1 h2
  obtain ⟨hn, hlike⟩ := h
  have HL := hid hlike
  clear hlike
  have hn' : ((l1.length : Int) != (l2.length : Int)) = false := by simp [hn]
  go_enter Tryd.func20, Tryd.ntmps20
  go_wp2_with fail
  go_loopw [13] (fun v13 wr => (∃ k : Nat, k ≤ l1.length ∧ v13 = .int .i64 (k : Int)) ∧ ∃ q, wr = w.drewN q) (fun v13 _ => l1.length - (intOf v13).toNat)
  case atStart => exact ⟨⟨0, Nat.zero_le _, rfl⟩, 0, rfl⟩
  case round =>
    obtain ⟨⟨k, hk, rfl⟩, q, rfl⟩ := hrel
    by_cases hlt : k < l1.length
    · obtain ⟨b1, o1, rfl, p0, p1, p2, p3⟩ := H1.out.at_ k hlt
      obtain ⟨b2, o2, rfl, q0, q1, q2, q3⟩ := H2.out.at_ k (by omega)
      have hlt2 : k < l2.length := by omega
      obtain ⟨e1, e2, e3⟩ := HL.out k hlt hlt2
      rw [e1] at q0
      rw [e2] at q2
      rw [e3] at q3
      clear e1 e2 e3
      go_wp2_with fail
      go_quiet (fail)
      go_wp2_with fail
      refine ⟨⟨⟨k + 1, by omega, by go_num⟩, _, rfl⟩, ?_⟩
      simp [intOf]; omega
    · have hlt' : ¬ ((k : Int) < (l1.length : Int)) := by omega
      go_wp2_with fail
      go_ret
      exact ⟨rfl, _, rfl⟩
end Go.Proofs.YtodcgdiejmdaaaaDoor
