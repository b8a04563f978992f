/-
  The reference's keywords, letters and digits, by their contracts.
-/
import Derived.Test.YtodcgdiejmdaaaaDoorTKw
namespace Go.Proofs.YtodcgdiejmdaaaaDoor
open Go.RowKit

/-- Cells of strings, from an address on. -/
def RdS (w : World) (g : Nat) (l : List (List UInt8)) : Prop := ∀ (i : Nat) (s : List UInt8), l[i]? = some s → w.cell? ⟨g, i, none⟩ = some (.string ⟨s.toArray⟩)
theorem RdS.below {w w' : World} {g : Nat} {l : List (List UInt8)} (h : RdS w g l) (hb : Below w.heap.size w w') : RdS w' g l :=
  fun i s hi => (hb.cell (World.block_lt_of_cell? w _ (h i s hi))).trans (h i s hi)
theorem rds_new (w : World) (l : List (List UInt8)) : RdS (w.alloc (.cells (l.map fun s => Value.string ⟨s.toArray⟩).toArray 9)) w.heap.size l := by
  intro i s hi
  rw [World.cell?_alloc_mark]
  simp [hi]

theorem keywords_any (w : World) : Calls Tryd.prog 25 #[] w fun e w' => e = .returned (.slice (some ⟨w.heap.size, 0, none⟩) 27 27) ∧ Below w.heap.size w w' ∧ RdS w' w.heap.size Tk.kws := by
  go_enter Tryd.func25, Tryd.ntmps25
  go_wp2_with fail
  go_ret
  exact ⟨rfl, (Below.refl _ _).alloc (Nat.le_refl _) _, rds_new w Tk.kws⟩
/-- The reference's signs. -/
def sgs : List (List UInt8) := [[61, 61], [33, 61], [60, 61], [62, 61], [40], [41], [123], [125], [91], [93], [44], [59], [46], [58], [61], [60], [62], [43], [45], [42], [47], [37]]
theorem signs_any (w : World) : Calls Tryd.prog 41 #[] w fun e w' => e = .returned (.slice (some ⟨w.heap.size, 0, none⟩) 22 22) ∧ Below w.heap.size w w' ∧ RdS w' w.heap.size sgs := by
  go_enter Tryd.func41, Tryd.ntmps41
  go_wp2_with fail
  go_ret
  exact ⟨rfl, (Below.refl _ _).alloc (Nat.le_refl _) _, rds_new w sgs⟩

theorem take_not {l : List (List UInt8)} {s : List UInt8} {k : Nat} (h : k < l.length) (h1 : (l.take k).contains s = false) (h2 : l[k] ≠ s) : (l.take (k + 1)).contains s = false := by
  rw [List.take_succ_eq_append_getElem h]
  simp only [List.contains_eq_any_beq, List.any_append, Bool.or_eq_false_iff] at h1 ⊢
  refine ⟨h1, ?_⟩
  simp only [List.any_cons, List.any_nil, Bool.or_false, beq_eq_false_iff_ne]
  exact fun e => h2 e.symm

set_option maxRecDepth 100000 in
set_option maxHeartbeats 2000000 in
theorem rkw_any (l : List UInt8) (w : World) :
    Calls Tryd.prog 15 #[.string ⟨l.toArray⟩] w fun e w' => e = .returned (.bool (Tk.kw l)) ∧ Below w.heap.size w w' := by
  have h27 : Tk.kws.length = 27 := rfl
  have HK : Hid (Tk.kw l = Tk.kws.contains l) := rfl
  have CK := hid (keywords_any w)
  generalize Tk.kw l = b at *
  generalize Tk.kws = ks at *
  go_enter Tryd.func15, Tryd.ntmps15
  go_wp2_with fail
  refine CK.out.mono ?_
  rintro e w1 ⟨rfl, hb1, hr⟩
  have HB1 := hid hb1
  have HR := hid hr
  clear hb1 hr
  go_wp2_with fail
  go_loop [7] (fun v7 => ∃ k : Nat, k ≤ 27 ∧ v7 = .int .i64 (k : Int) ∧ Hid ((ks.take k).contains l = false)) (fun v7 => 27 - (intOf v7).toNat)
  case atStart => exact ⟨0, by omega, rfl, by simp [Hid]⟩
  case round =>
    obtain ⟨k, hk, rfl, ht⟩ := hrel
    by_cases hlt : k < 27
    · have hkl : k < ks.length := by omega
      have hc := HR.out k ks[k] (List.getElem?_eq_getElem hkl)
      by_cases he : ks[k] = l
      · have HE : Hid (b = true) := by
          show _ = _
          rw [HK.out, ← he]
          simp
        have hd : (ks[k] == l) = true := by simpa using he
        clear he
        go_wp2_with fail
        go_ret
        rw [HE.out]
        exact ⟨rfl, HB1.out⟩
      · have HS := hid (take_not hkl ht.out he)
        have hd : (ks[k] == l) = false := by simpa using he
        clear he
        go_wp2_with fail
        refine ⟨⟨k + 1, by omega, by go_num, HS.out⟩, ?_⟩
        simp [intOf]; omega
    · have hk2 : k = 27 := by omega
      have HE : Hid (b = false) := by
        have h := ht.out
        rw [List.take_of_length_le (by omega)] at h
        show _ = _
        rw [HK.out, h]
      clear ht
      subst hk2
      go_wp2_with fail
      go_ret
      rw [HE.out]
      exact ⟨rfl, HB1.out⟩
end Go.Proofs.YtodcgdiejmdaaaaDoor
