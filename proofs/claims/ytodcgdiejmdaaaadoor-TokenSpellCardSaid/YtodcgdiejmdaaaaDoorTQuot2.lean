/-
  Quote of the program, by its contract.
-/
import Derived.Test.YtodcgdiejmdaaaaDoorTQuote
namespace Go.Proofs.YtodcgdiejmdaaaaDoor
open Go.RowKit

theorem Bs.form' {w : World} {v : Value} {l : List UInt8} (h : Bs w v l) : ∃ A n c, v = .slice A n c := by
  obtain ⟨A, c, hv⟩ := h.form
  exact ⟨A, _, c, hv⟩

/-- The loop of Quote. -/
def QuoteRel (w : World) (l : List UInt8) (v vi : Value) (wr : World) : Prop :=
  ∃ k : Nat, k ≤ l.length ∧ vi = .int .i64 (k : Int) ∧ Hid (OwnB wr w.heap.size v (34 :: (l.take k).flatMap Tk.qc)) ∧ Hid (Below w.heap.size w wr)

set_option maxRecDepth 100000 in
set_option maxHeartbeats 2000000 in
theorem quote_any (s : ByteArray) (w : World) (hs : s.size ≤ 100000000) :
    Calls Tryd.prog 18 #[.string s] w fun e w' => e = .returned (.string (byS (Tk.quote s.data.toList))) ∧ Below w.heap.size w w' := by
  have hlen : s.data.toList.length = s.size := by simp
  have H0 : Hid (QuoteRel w s.data.toList (.slice (some ⟨w.heap.size, 0, none⟩) 1 1) (.int .i64 0) (w.alloc (.cells #[.int .u8 34] 5))) :=
    ⟨0, Nat.zero_le _, rfl, (Own.lit (base := w.heap.size) (e := 5) w [by8 34] (Nat.le_refl _) (by simp [maxLen])), (Below.refl _ _).alloc (Nat.le_refl _) _⟩
  go_enter Tryd.func18, Tryd.ntmps18
  go_wp2_with fail
  go_loopw [3, 8] (fun v3 v8 wr => QuoteRel w s.data.toList v3 v8 wr) (fun _ v8 _ => s.size - (intOf v8).toNat)
  case atStart => exact H0.out
  case round =>
    obtain ⟨k, hk, rfl, HO, HB⟩ := hrel
    rw [hlen] at hk
    have HS := hid HB.out.size
    have hbnd : ((s.data.toList.take k).flatMap Tk.qc).length ≤ 400000000 := by
      have h1 := Tk.qcs_len (s.data.toList.take k)
      have h2 : (s.data.toList.take k).length ≤ k := List.length_take_le _ _
      omega
    by_cases hlt : k < s.size
    · have HC := hid (appChar_any w.heap.size u3 _ s[k] wr HO.out HS.out (by simp only [List.length_cons]; omega))
      have HST : Hid (34 :: (s.data.toList.take (k + 1)).flatMap Tk.qc = 34 :: (s.data.toList.take k).flatMap Tk.qc ++ Tk.qc s[k]) := by
        show _ = _
        rw [Tk.take_step (l := s.data.toList) (k := k) (by rw [hlen]; exact hlt)]
        rfl
      clear hbnd
      go_wp2_with fail
      refine HC.out.mono ?_
      rintro e w1 ⟨v1, rfl, ho1, hb1⟩
      have HO1 := hid ho1
      clear ho1
      go_wp2_with fail
      refine ⟨⟨k + 1, by rw [hlen]; omega, by go_num, by rw [HST.out]; exact HO1.out, HB.out.trans hb1⟩, ?_⟩
      simp [intOf]; omega
    · have hk2 : k = s.size := by omega
      subst hk2
      have htk : Hid (s.data.toList.take s.size = s.data.toList) := List.take_of_length_le (by rw [hlen]; exact Nat.le_refl _)
      rw [htk.out] at HO hbnd
      have hbnd2 : (34 :: s.data.toList.flatMap Tk.qc).length ≤ 400000001 := by simp only [List.length_cons]; omega
      clear hbnd
      have HE : Hid (Tk.quote s.data.toList = (34 :: s.data.toList.flatMap Tk.qc) ++ [34]) := rfl
      generalize 34 :: s.data.toList.flatMap Tk.qc = pre at *
      go_wp2_with (at_builtin; refine wpList_app8 rfl (.tmp 17) (.tmp 18) rfl w.heap.size u3 pre 34 34 rfl rfl HO.out rfl (by omega) HS.out ?_; intro v' w' hown' hb'; obtain ⟨A', n', c', hv'⟩ := (OwnB.bs hown').form'; subst hv'; have hcv := (OwnB.bs hown').conv; unfold strOf at hcv)
      go_ret
      exact ⟨by rw [HE.out]; rfl, HB.out.trans hb'⟩
end Go.Proofs.YtodcgdiejmdaaaaDoor
