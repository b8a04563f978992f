/-
  The reference's digit, letter and hex, by their contracts.
-/
import Derived.Test.YtodcgdiejmdaaaaDoorTSpan
import Derived.Test.YtodcgdiejmdaaaaDoorTEsc
namespace Go.Proofs.YtodcgdiejmdaaaaDoor
open Go.RowKit

theorem rdigit_any (c : UInt8) (w : World) : Calls Tryd.prog 38 #[.int .u8 (c.toNat : Int)] w fun e w' => e = .returned (.bool (Tk.digit c)) ∧ w = w' := by
  have hd : Hid (Tk.digit c = (decide (48 ≤ c.toNat) && decide (c.toNat ≤ 57))) := rfl
  have hc := c.toNat_lt
  generalize Tk.digit c = b at *
  generalize c.toNat = m at *
  go_enter Tryd.func38, Tryd.ntmps38
  go_wp2
  all_goals go_ret
  all_goals refine ⟨congrArg (fun b => Ending.returned (Value.bool b)) ?_, rfl⟩
  all_goals rw [hd.out, Bool.eq_iff_iff]
  all_goals simp
  all_goals omega

set_option maxHeartbeats 400000 in
theorem rletter_any (c : UInt8) (w : World) : Calls Tryd.prog 37 #[.int .u8 (c.toNat : Int)] w fun e w' => e = .returned (.bool (Tk.letter c)) ∧ w = w' := by
  have hd : Hid (Tk.letter c = (((decide (97 ≤ c.toNat) && decide (c.toNat ≤ 122)) || (decide (65 ≤ c.toNat) && decide (c.toNat ≤ 90))) || decide (c.toNat = 95))) := rfl
  have hc := c.toNat_lt
  generalize Tk.letter c = b at *
  generalize c.toNat = m at *
  go_enter Tryd.func37, Tryd.ntmps37
  go_wp2
  all_goals go_ret
  all_goals refine ⟨congrArg (fun b => Ending.returned (Value.bool b)) ?_, rfl⟩
  all_goals rw [hd.out, Bool.eq_iff_iff]
  all_goals simp
  all_goals omega

set_option maxRecDepth 100000 in
set_option maxHeartbeats 400000 in
theorem rhex_any (c : UInt8) (w : World) : Calls Tryd.prog 51 #[.int .u8 (c.toNat : Int)] w fun e w' => e = .returned (.int .i64 (Tk.hexv c)) ∧ w = w' := by
  have C := hid (rdigit_any c w)
  have HX : Hid (Tk.hexv c = if Tk.digit c then (c.toNat : Int) - 48 else if 97 ≤ c.toNat ∧ c.toNat ≤ 102 then (c.toNat : Int) - 87 else -1) := rfl
  have hdg : Tk.digit c = true ↔ 48 ≤ c.toNat ∧ c.toNat ≤ 57 := by simp [Tk.digit]
  have hc := c.toNat_lt
  cases hd : Tk.digit c with
  | true =>
    rw [hd] at C HX hdg
    rw [if_pos rfl] at HX
    rw [HX.out]
    have h1 : 48 ≤ c.toNat ∧ c.toNat ≤ 57 := hdg.1 rfl
    obtain ⟨h2, h3⟩ := h1
    clear hdg hd
    generalize c.toNat = m at *
    go_enter Tryd.func51, Tryd.ntmps51
    go_wp2_with fail
    refine C.out.mono ?_
    rintro e w' ⟨rfl, rfl⟩
    go_wp2_with fail
    go_ret
    exact ⟨rfl, rfl⟩
  | false =>
    rw [hd] at C HX hdg
    rw [if_neg (by simp)] at HX
    clear hdg hd
    by_cases hr : 97 ≤ c.toNat ∧ c.toNat ≤ 102
    · rw [if_pos hr] at HX
      rw [HX.out]
      obtain ⟨h2, h3⟩ := hr
      generalize c.toNat = m at *
      have hs : (m : Int) - 97 + 10 = (m : Int) - 87 := by omega
      go_enter Tryd.func51, Tryd.ntmps51
      go_wp2_with fail
      refine C.out.mono ?_
      rintro e w' ⟨rfl, rfl⟩
      go_wp2_with fail
      go_ret
      exact ⟨rfl, rfl⟩
    · rw [if_neg hr] at HX
      rw [HX.out]
      generalize c.toNat = m at *
      rcases (by omega : ¬ 97 ≤ m ∨ (97 ≤ m ∧ ¬ m ≤ 102)) with h2 | ⟨h2, h3⟩
      · clear hr
        go_enter Tryd.func51, Tryd.ntmps51
        go_wp2_with fail
        refine C.out.mono ?_
        rintro e w' ⟨rfl, rfl⟩
        go_wp2_with fail
        go_ret
        exact ⟨rfl, rfl⟩
      · clear hr
        go_enter Tryd.func51, Tryd.ntmps51
        go_wp2_with fail
        refine C.out.mono ?_
        rintro e w' ⟨rfl, rfl⟩
        go_wp2_with fail
        go_ret
        exact ⟨rfl, rfl⟩
end Go.Proofs.YtodcgdiejmdaaaaDoor
