/-
  Rising, ascending, fitsKind, wellFormed (program and reference), Short, Within, Future, Right of the reference: contracts.
-/
import Derived.Test.YtpoofeiajmkfdaaVMeas
import Derived.Deep.QuietTactic
import Derived.BigQuiet
import Derived.Deep.Draws
import Derived.WalkLawsBesides
namespace Go.Proofs.Ytpoofeiajmkfdaa
open Go.RowKit

theorem below_drewN {B : Nat} {a w : World} (h : Below B a w) (n : Nat) : Below B a (w.drewN n) := ⟨h.os, h.tape, h.output, h.size, h.block⟩

theorem rising_iff (ks : List ByteArray) : V.rising ks = true ↔ ∀ j (h : j + 1 < ks.length), V.lt ks[j] ks[j + 1] = true := by
  induction ks with
  | nil => simp [V.rising]
  | cons a ks ih =>
    cases ks with
    | nil => simp [V.rising]
    | cons b ks =>
      rw [V.rising, Bool.and_eq_true, ih]
      constructor
      · rintro ⟨h1, h2⟩ j hj
        cases j with
        | zero => exact h1
        | succ j => exact h2 j (by simpa using hj)
      · intro h
        exact ⟨h 0 (by simp), fun j hj => h (j + 1) (by simpa using hj)⟩

set_option maxRecDepth 100000 in
set_option maxHeartbeats 1000000 in
theorem rising_any (ks : List ByteArray) (kv : Value) (w : World) (S : Nat → Prop) (hks : ks.length * 16 ≤ 140737488351232) (hr : RdN w S 1 kv ks.length (ks.map Value.string)) :
    Calls Try.prog 71 #[kv] w fun e w' => e = .returned (.bool (V.rising ks)) ∧ Below w.heap.size w w' := by
  have HR := hid hr
  obtain ⟨A, c, rfl, h1, h2⟩ := hr.form
  have HI := hid (rising_iff ks)
  clear hr
  generalize V.rising ks = d at HI
  go_enter Try.func71, Try.ntmps71
  go_wp2_with fail
  go_loopw [3] (fun v3 wr => ∃ i : Nat, (i + 1 ≤ ks.length ∨ i = 0) ∧ v3 = .int .i64 ((i : Int) + 1) ∧ Hid (∀ j (h : j + 1 < ks.length), j < i → V.lt ks[j] ks[j + 1] = true) ∧ Below w.heap.size w wr) (fun v3 _ => ks.length + 1 - (intOf v3).toNat)
  case atStart => exact ⟨0, .inr rfl, rfl, fun j h hj => absurd hj (by omega), Below.refl _ _⟩
  case round =>
    obtain ⟨i, hi, rfl, hs, hb⟩ := hrel
    by_cases hlt : i + 1 < ks.length
    · obtain ⟨b, o, cc, he, hq⟩ := keys_all (HR.out.below hb (by omega)) (by omega)
      injection he with he1 he2 he3
      subst he1
      have q0 := hq i (by omega)
      have q1 := hq (i + 1) hlt
      clear he2 he3 hq
      have hw1 : IntKind.i64.wrap ((i : Int) + 1 - 1) = (i : Int) := by rw [Int.add_sub_cancel]; exact IntWalk.i64_in _ (by omega)
      cases hx : V.lt ks[i] ks[i + 1]
      · have hx' : Op.bytesLess ks[i].toList ks[i + 1].toList = false := hx
        have HX := hid hx
        clear hx
        go_wp2_with fail
        go_quiet (fail)
        go_wp2_with fail
        go_ret
        refine ⟨ret_bool ?_, below_drewN hb nq⟩
        cases d
        · rfl
        · have := (HI.out.1 rfl) i hlt
          rw [HX.out] at this
          cases this
      · have hx' : Op.bytesLess ks[i].toList ks[i + 1].toList = true := hx
        have HS : Hid (∀ j (h : j + 1 < ks.length), j < i + 1 → V.lt ks[j] ks[j + 1] = true) := fun j h hj => by
          by_cases hji : j = i
          · subst hji; exact hx
          · exact hs.out j h (by omega)
        clear hx hs
        go_wp2_with fail
        go_quiet (fail)
        go_wp2_with fail
        go_roundw
        case rel => exact ⟨i + 1, .inl (by omega), by go_num, HS, below_drewN hb nq⟩
        case measure => simp [intOf]; omega
    · go_wp2_with fail
      go_ret
      refine ⟨ret_bool ?_, hb⟩
      exact (HI.out.2 fun j h => hs.out j h (by omega)).symm

set_option maxRecDepth 100000 in
set_option maxHeartbeats 1000000 in
theorem ascending_any (ks : List ByteArray) (kv : Value) (w : World) (S : Nat → Prop) (hks : ks.length * 16 ≤ 140737488351232) (hr : RdN w S 1 kv ks.length (ks.map Value.string)) :
    Calls Try.prog 122 #[kv] w fun e w' => e = .returned (.bool (V.rising ks)) ∧ Below w.heap.size w w' := by
  have HR := hid hr
  obtain ⟨A, c, rfl, h1, h2⟩ := hr.form
  have HI := hid (rising_iff ks)
  clear hr
  generalize V.rising ks = d at HI
  go_enter Try.func122, Try.ntmps122
  go_wp2_with fail
  go_loopw [3] (fun v3 wr => ∃ i : Nat, (i + 1 ≤ ks.length ∨ i = 0) ∧ v3 = .int .i64 ((i : Int) + 1) ∧ Hid (∀ j (h : j + 1 < ks.length), j < i → V.lt ks[j] ks[j + 1] = true) ∧ Below w.heap.size w wr) (fun v3 _ => ks.length + 1 - (intOf v3).toNat)
  case atStart => exact ⟨0, .inr rfl, rfl, fun j h hj => absurd hj (by omega), Below.refl _ _⟩
  case round =>
    obtain ⟨i, hi, rfl, hs, hb⟩ := hrel
    by_cases hlt : i + 1 < ks.length
    · obtain ⟨b, o, cc, he, hq⟩ := keys_all (HR.out.below hb (by omega)) (by omega)
      injection he with he1 he2 he3
      subst he1
      have q0 := hq i (by omega)
      have q1 := hq (i + 1) hlt
      clear he2 he3 hq
      have hw1 : IntKind.i64.wrap ((i : Int) + 1 - 1) = (i : Int) := by rw [Int.add_sub_cancel]; exact IntWalk.i64_in _ (by omega)
      cases hx : V.lt ks[i] ks[i + 1]
      · have hx' : Op.bytesLess ks[i].toList ks[i + 1].toList = false := hx
        have HX := hid hx
        clear hx
        go_wp2_with fail
        go_quiet (fail)
        go_wp2_with fail
        go_ret
        refine ⟨ret_bool ?_, below_drewN hb nq⟩
        cases d
        · rfl
        · have := (HI.out.1 rfl) i hlt
          rw [HX.out] at this
          cases this
      · have hx' : Op.bytesLess ks[i].toList ks[i + 1].toList = true := hx
        have HS : Hid (∀ j (h : j + 1 < ks.length), j < i + 1 → V.lt ks[j] ks[j + 1] = true) := fun j h hj => by
          by_cases hji : j = i
          · subst hji; exact hx
          · exact hs.out j h (by omega)
        clear hx hs
        go_wp2_with fail
        go_quiet (fail)
        go_wp2_with fail
        go_roundw
        case rel => exact ⟨i + 1, .inl (by omega), by go_num, HS, below_drewN hb nq⟩
        case measure => simp [intOf]; omega
    · go_wp2_with fail
      go_ret
      refine ⟨ret_bool ?_, hb⟩
      exact (HI.out.2 fun j h => hs.out j h (by omega)).symm


theorem size0 (s : ByteArray) : (s.size = 0) = (s.toList = []) := by
  rw [ByteArray.toList_eq]
  cases s with
  | mk d => simp [ByteArray.size]
theorem emp0 (s : ByteArray) : (s = ByteArray.empty) = (s.toList = []) := by
  rw [← size0]
  simp
theorem len0 {α : Type} (l : List α) : ((l.length : Int) == 0) = decide (l = []) := by
  cases l with
  | nil => rfl
  | cons a l => simp; omega
theorem str_empty {s : ByteArray} (h : s.size = 0) : s = ⟨#[]⟩ := by
  cases s with
  | mk d =>
    congr 1
    exact Array.eq_empty_of_size_eq_zero h

set_option maxRecDepth 100000 in
set_option maxHeartbeats 2000000 in
theorem fitsKind_any (v : V) (a : Value) (w : World) (S : Nat → Prop) (hv : VA w S a v) :
    Calls Try.prog 93 #[a] w fun e w' => e = .returned (.bool (V.fit v.k v.n v.s v.l.length v.ks)) ∧ Below w.heap.size w w' := by
  match v with
  | .mk k n s l ks =>
  obtain ⟨A, c, A', c', ics, rfl, ho, hl, hr, hvs, hk⟩ := hv.open_
  have hks : ks.length * 16 ≤ 140737488351232 := ho.2.2.2.2.2.2
  have HK := hid hk
  clear hv ho hr hvs hk
  simp only [V.k, V.n, V.s, V.l, V.ks]
  have hkk : k = 0 ∨ k = 1 ∨ k = 2 ∨ k = 3 ∨ k = 4 ∨ k = 5 ∨ k = 6 ∨ ((k == 0) = false ∧ (k == 1) = false ∧ (k == 2) = false ∧ (k == 3) = false ∧ (k == 4) = false ∧ (k == 5) = false ∧ (k == 6) = false) := by
    simp; omega
  rcases hkk with rfl | rfl | rfl | rfl | rfl | rfl | rfl | ⟨h0, h1, h2, h3, h4, h5, h6⟩
  all_goals
    go_enter Try.func93, Try.ntmps93
    go_wp2_with fail
    go_quiet (fail)
    go_wp2_with (go_at_call 122; refine (ascending_any ks _ _ S hks (HK.out.below (below_drewN (below_box _) _) (by omega))).mono ?_; rintro e w1 ⟨rfl, hb1⟩)
    all_goals
      go_ret
      refine ⟨ret_bool ?_, ?_⟩
      · simp_all [V.fit, emp0, len0] <;> intros <;> omega
      · first | exact below_drewN (below_box _) _ | exact bstep (below_drewN (below_box _) _) hb1
end Go.Proofs.Ytpoofeiajmkfdaa
