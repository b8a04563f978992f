/-
  WellFormed, Future, Short, Within, Right of the reference: contracts.
-/
import Derived.Test.YtpoofeiajmkfdaaVWf2
namespace Go.Proofs.Ytpoofeiajmkfdaa
open Go.RowKit

theorem callb {P : Program} {f : FuncId} {args : Array Value} {w : World} {Q : World → Prop} {b b' : Bool} (hb : b = b') (h : Calls P f args w fun e w' => e = .returned (.bool b) ∧ Q w') :
    Calls P f args w fun e w' => e = .returned (.bool b') ∧ Q w' := by subst hb; exact h

theorem any_no {P : V → Bool} {l : List V} {i : Nat} (hi : i < l.length) (hp : P l[i] = true) : l.any P = true :=
  List.any_eq_true.2 ⟨l[i], List.getElem_mem hi, hp⟩
theorem any_end {P : V → Bool} {l : List V} {i : Nat} (h : ∀ u ∈ l.take i, (!P u) = true) (hi : ¬ i < l.length) : l.any P = false := by
  rw [List.take_of_length_le (by omega)] at h
  rw [List.any_eq_false]
  intro u hu
  have := h u hu
  simpa using this

set_option maxRecDepth 100000 in
set_option maxHeartbeats 400000 in
theorem rfut_any (m : Nat) : ∀ (v : V) (a : Value) (w : World) (S : Nat → Prop), V.size v ≤ m → VA w S a v →
    Calls Try.prog 66 #[a] w fun e w' => e = .returned (.bool (V.fut v)) ∧ Below w.heap.size w w' := by
  induction m with
  | zero => intro v a w S h; have := V.size_pos v; omega
  | succ m ih =>
    intro v a w S hm hv
    match v with
    | .mk k n s l ks =>
    obtain ⟨A, c, A', c', ics, rfl, ho, hl, hr, hvs, _⟩ := hv.open_
    have HR := hid hr
    have HV := hid hvs
    have HM : Hid (∀ u ∈ l, V.size u ≤ m) := fun u hu => by
      have := V.size_mem hu
      rw [V.size_mk] at hm
      omega
    have HD : Hid (V.fut (.mk k n s l ks) = (k == 6 || l.any V.fut)) := by show _ = _; rw [V.fut_mk, V.futL_any]
    clear hv ho hr hvs hm
    generalize V.fut (.mk k n s l ks) = dd at HD
    have IH := hid ih
    clear ih
    go_enter Try.func66, Try.ntmps66
    go_wp2_with fail
    go_loopw [3] (fun v3 wr => ∃ i : Nat, i ≤ l.length ∧ v3 = .int .i64 (i : Int) ∧ Hid (∀ u ∈ l.take i, (!V.fut u) = true) ∧ Bx w #[.int .i64 k, .int .i64 n, .string s, .slice A l.length c, .slice A' ks.length c'] wr) (fun v3 _ => l.length - (intOf v3).toNat)
    case atStart => exact ⟨0, Nat.zero_le _, rfl, fun u hu => absurd hu (by simp), Bx.refl⟩
    case round =>
      obtain ⟨i, hi, rfl, hall, hbx⟩ := hrel
      have hb := hbx.below
      have hc3 := hbx.cell 3
      have hc0 := hbx.cell 0
      simp only [List.getElem?_toArray, List.getElem?_cons_succ, List.getElem?_cons_zero] at hc3 hc0
      have HB := hid hb
      have HBX := hid hbx
      clear hb hbx
      by_cases hlt : i < l.length
      · obtain ⟨b, o, cc, k', n', s', A1, m1, c1, A2, m2, c2, he, q0, q1, q2, q3, q4, hva⟩ := items_at (HR.out.below HB.out (by omega)) (HV.out.below HB.out) i hlt
        injection he with he1 he2 he3
        subst he1
        clear he2 he3
        have HVA := hid hva
        have HM1 := hid (HM.out l[i] (List.getElem_mem hlt))
        clear hva
        cases hx : V.fut l[i]
        · have HX := hid hx
          have HY := hid (all_take (P := fun u => !V.fut u) hall.out hlt (by simp [hx]))
          clear hx
          go_wp2_with (go_at_call 66; refine (callb HX.out (IH.out _ _ _ _ HM1.out HVA.out)).mono ?_; rintro e w1 ⟨rfl, hb1⟩)
          go_roundw
          case rel => exact ⟨i + 1, by omega, by go_num, HY, HBX.out.step hb1⟩
          case measure => simp [intOf]; omega
        · have HX := hid hx
          have HY := hid (any_no hlt hx)
          clear hx
          go_wp2_with (go_at_call 66; refine (callb HX.out (IH.out _ _ _ _ HM1.out HVA.out)).mono ?_; rintro e w1 ⟨rfl, hb1⟩)
          go_ret
          exact ⟨ret_bool (by rw [HD.out, HY.out]; simp), bstep HB.out hb1⟩
      · have HX := hid (any_end hall.out hlt)
        go_wp2_with fail
        go_ret
        exact ⟨ret_bool (by rw [HD.out, HX.out]; simp), HB.out⟩

set_option maxRecDepth 100000 in
set_option maxHeartbeats 4000000 in
theorem rwf_any (m : Nat) : ∀ (v : V) (a : Value) (w : World) (S : Nat → Prop), V.size v ≤ m → VA w S a v →
    Calls Try.prog 39 #[a] w fun e w' => e = .returned (.bool (V.wf v)) ∧ Below w.heap.size w w' := by
  induction m with
  | zero => intro v a w S h; have := V.size_pos v; omega
  | succ m ih =>
    intro v a w S hm hv
    match v with
    | .mk k n s l ks =>
    obtain ⟨A, c, A', c', ics, rfl, ho, hl, hr, hvs, hk⟩ := hv.open_
    have hks : ks.length * 16 ≤ 140737488351232 := ho.2.2.2.2.2.2
    have HR := hid hr
    have HV := hid hvs
    have HK := hid hk
    have HM : Hid (∀ u ∈ l, V.size u ≤ m) := fun u hu => by
      have := V.size_mem hu
      rw [V.size_mk] at hm
      omega
    have HD : Hid (V.wf (.mk k n s l ks) = (V.fit k n s l.length ks && l.all V.wf)) := by show _ = _; rw [V.wf_mk, V.wfL_all]
    clear hv ho hr hvs hm hk
    generalize V.wf (.mk k n s l ks) = dd at HD
    have IH := hid ih
    clear ih
    go_enter Try.func39, Try.ntmps39
    go_wp2_with fail
    go_loopw [3] (fun v3 wr => ∃ i : Nat, i ≤ l.length ∧ v3 = .int .i64 (i : Int) ∧ Hid (∀ u ∈ l.take i, V.wf u = true) ∧ Bx w #[.int .i64 k, .int .i64 n, .string s, .slice A l.length c, .slice A' ks.length c'] wr) (fun v3 _ => l.length - (intOf v3).toNat)
    case atStart => exact ⟨0, Nat.zero_le _, rfl, fun u hu => absurd hu (by simp), Bx.refl⟩
    case round =>
      obtain ⟨i, hi, rfl, hall, hbx⟩ := hrel
      have hb := hbx.below
      have hc3 := hbx.cell 3
      simp only [List.getElem?_toArray, List.getElem?_cons_succ, List.getElem?_cons_zero] at hc3
      have HB := hid hb
      have HBX := hid hbx
      clear hb hbx
      by_cases hlt : i < l.length
      · obtain ⟨b, o, cc, k', n', s', A1, m1, c1, A2, m2, c2, he, q0, q1, q2, q3, q4, hva⟩ := items_at (HR.out.below HB.out (by omega)) (HV.out.below HB.out) i hlt
        injection he with he1 he2 he3
        subst he1
        clear he2 he3
        have HVA := hid hva
        have HM1 := hid (HM.out l[i] (List.getElem_mem hlt))
        clear hva
        cases hx : V.wf l[i]
        · have HX := hid hx
          have HY := hid (all_no hlt hx)
          clear hx
          go_wp2_with (go_at_call 39; refine (callb HX.out (IH.out _ _ _ _ HM1.out HVA.out)).mono ?_; rintro e w1 ⟨rfl, hb1⟩)
          go_ret
          exact ⟨ret_bool (by rw [HD.out, HY.out]; simp), bstep HB.out hb1⟩
        · have HX := hid hx
          have HY := hid (all_take hall.out hlt hx)
          clear hx
          go_wp2_with (go_at_call 39; refine (callb HX.out (IH.out _ _ _ _ HM1.out HVA.out)).mono ?_; rintro e w1 ⟨rfl, hb1⟩)
          go_roundw
          case rel => exact ⟨i + 1, by omega, by go_num, HY, HBX.out.step hb1⟩
          case measure => simp [intOf]; omega
      · have HD2 : Hid (dd = V.fit k n s l.length ks) := by show _ = _; rw [HD.out, all_end hall.out hlt]; simp
        have hc0 := HBX.out.cell 0
        have hc1 := HBX.out.cell 1
        have hc2 := HBX.out.cell 2
        have hc4 := HBX.out.cell 4
        simp only [List.getElem?_toArray, List.getElem?_cons_succ, List.getElem?_cons_zero] at hc0 hc1 hc2 hc4
        clear HD hall HM HV HR IH hi
        have hkk : k = 0 ∨ k = 1 ∨ k = 2 ∨ k = 3 ∨ k = 4 ∨ k = 5 ∨ k = 6 ∨ ((k == 0) = false ∧ (k == 1) = false ∧ (k == 2) = false ∧ (k == 3) = false ∧ (k == 4) = false ∧ (k == 5) = false ∧ (k == 6) = false) := by
          simp; omega
        rcases hkk with rfl | rfl | rfl | rfl | rfl | rfl | rfl | ⟨h0, h1, h2, h3, h4, h5, h6⟩
        all_goals
          go_wp2_with (go_at_call 71; refine (rising_any ks _ _ S hks (HK.out.below HB.out (by omega))).mono ?_; rintro e w1 ⟨rfl, hb1⟩)
          all_goals
            go_ret
            refine ⟨ret_bool ?_, ?_⟩
            · rw [HD2.out]
              simp_all [V.fit, emp0, len0] <;> intros <;> omega
            · first | exact HB.out | exact bstep HB.out hb1
end Go.Proofs.Ytpoofeiajmkfdaa
