/-
  wellFormed of the program, WellFormed, Future of the reference: contracts.
-/
import Derived.Test.YtpoofeiajmkfdaaVWf
namespace Go.Proofs.Ytpoofeiajmkfdaa
open Go.RowKit

theorem all_take {P : V → Bool} {l : List V} {i : Nat} (h : ∀ u ∈ l.take i, P u = true) (hi : i < l.length) (hp : P l[i] = true) : ∀ u ∈ l.take (i + 1), P u = true := by
  rw [take_succ_l l i hi]
  intro u hu
  rcases List.mem_append.1 hu with hu | hu
  · exact h u hu
  · rw [List.mem_singleton.1 hu]; exact hp
theorem all_end {P : V → Bool} {l : List V} {i : Nat} (h : ∀ u ∈ l.take i, P u = true) (hi : ¬ i < l.length) : l.all P = true := by
  rw [List.take_of_length_le (by omega)] at h
  exact List.all_eq_true.2 h
theorem all_no {P : V → Bool} {l : List V} {i : Nat} (hi : i < l.length) (hp : P l[i] = false) : l.all P = false := by
  cases h : l.all P with
  | false => rfl
  | true =>
    have := List.all_eq_true.1 h l[i] (List.getElem_mem hi)
    rw [hp] at this
    cases this

set_option maxRecDepth 100000 in
set_option maxHeartbeats 400000 in
theorem wellFormed_any (m : Nat) : ∀ (v : V) (a : Value) (w : World) (S : Nat → Prop), V.size v ≤ m → VA w S a v →
    Calls Try.prog 64 #[a] w fun e w' => e = .returned (.bool (V.wf v)) ∧ Below w.heap.size w w' := by
  induction m with
  | zero => intro v a w S h; have := V.size_pos v; omega
  | succ m ih =>
    intro v a w S hm hv
    have HVv := hid hv
    match v with
    | .mk k n s l ks =>
    obtain ⟨A, c, A', c', ics, rfl, ho, hl, hr, hvs, _⟩ := hv.open_
    have HR := hid hr
    have HV := hid hvs
    have HM : Hid (∀ u ∈ l, V.size u ≤ m) := fun u hu => by
      have := V.size_mem hu
      rw [V.size_mk] at hm
      omega
    have HD : Hid (V.wf (.mk k n s l ks) = (V.fit k n s l.length ks && l.all V.wf)) := by show _ = _; rw [V.wf_mk, V.wfL_all]
    have F : Hid (∀ W : World, Below w.heap.size w W → Calls Try.prog 93 #[.agg #[.int .i64 k, .int .i64 n, .string s, .slice A l.length c, .slice A' ks.length c']] W fun e w' => e = .returned (.bool (V.fit k n s l.length ks)) ∧ Below W.heap.size W w') :=
      fun W hW => fitsKind_any (.mk k n s l ks) _ W S (HVv.out.below hW)
    clear hv ho hr hvs hm HVv
    generalize V.wf (.mk k n s l ks) = dd at HD
    generalize V.fit k n s l.length ks = ft at HD F
    have IH := hid ih
    clear ih
    cases ft
    · go_enter Try.func64, Try.ntmps64
      go_wp2_with (go_at_call 93; refine (F.out _ (below_box _)).mono ?_; rintro e w1 ⟨rfl, hb1⟩)
      go_ret
      exact ⟨ret_bool (by rw [HD.out]; rfl), bstep (below_box _) hb1⟩
    · go_enter Try.func64, Try.ntmps64
      go_wp2_with (go_at_call 93; refine (F.out _ (below_box _)).mono ?_; rintro e w1 ⟨rfl, hb1⟩; have hbx : Bx w #[.int .i64 k, .int .i64 n, .string s, .slice A l.length c, .slice A' ks.length c'] w1 := Bx.refl.step hb1; have hc3 := hbx.cell 3; simp only [List.getElem?_toArray, List.getElem?_cons_succ, List.getElem?_cons_zero] at hc3; have HB1 := hid hbx.below; clear hbx hb1)
      clear hc3
      go_loopw [11] (fun v11 wr => ∃ i : Nat, i ≤ l.length ∧ v11 = .int .i64 (i : Int) ∧ Hid (∀ u ∈ l.take i, V.wf u = true) ∧ Below w.heap.size w wr) (fun v11 _ => l.length - (intOf v11).toNat)
      case atStart => exact ⟨0, Nat.zero_le _, rfl, fun u hu => absurd hu (by simp), HB1.out⟩
      case round =>
        obtain ⟨i, hi, rfl, hall, hb⟩ := hrel
        by_cases hlt : i < l.length
        · obtain ⟨b, o, cc, k', n', s', A1, m1, c1, A2, m2, c2, he, q0, q1, q2, q3, q4, hva⟩ := items_at (HR.out.below hb (by omega)) (HV.out.below hb) i hlt
          injection he with he1 he2 he3
          subst he1
          clear he2 he3
          have HVA := hid hva
          have HM1 := hid (HM.out l[i] (List.getElem_mem hlt))
          clear hva
          cases hx : V.wf l[i]
          · have HX := hid (all_no hlt hx)
            have C : Hid (∀ W, Below wr.heap.size wr W → Calls Try.prog 64 #[.agg #[.int .i64 k', .int .i64 n', .string s', .slice A1 m1 c1, .slice A2 m2 c2]] W fun e w' => e = .returned (.bool false) ∧ Below W.heap.size W w') := fun W hW => by
              have := IH.out _ _ W S HM1.out (HVA.out.below hW)
              rw [hx] at this
              exact this
            clear hx
            go_wp2_with (go_at_call 64; refine (C.out _ (below_box _)).mono ?_; rintro e w1 ⟨rfl, hb1⟩)
            go_ret
            exact ⟨ret_bool (by rw [HD.out, HX.out]; rfl), bstep hb (bstep (below_box _) hb1)⟩
          · have HX := hid (all_take hall.out hlt hx)
            have C : Hid (∀ W, Below wr.heap.size wr W → Calls Try.prog 64 #[.agg #[.int .i64 k', .int .i64 n', .string s', .slice A1 m1 c1, .slice A2 m2 c2]] W fun e w' => e = .returned (.bool true) ∧ Below W.heap.size W w') := fun W hW => by
              have := IH.out _ _ W S HM1.out (HVA.out.below hW)
              rw [hx] at this
              exact this
            clear hx
            go_wp2_with (go_at_call 64; refine (C.out _ (below_box _)).mono ?_; rintro e w1 ⟨rfl, hb1⟩)
            go_roundw
            case rel => exact ⟨i + 1, by omega, by go_num, HX, bstep hb (bstep (below_box _) hb1)⟩
            case measure => simp [intOf]; omega
        · have HX := hid (all_end hall.out hlt)
          go_wp2_with fail
          go_ret
          exact ⟨ret_bool (by rw [HD.out, HX.out]; rfl), hb⟩
end Go.Proofs.Ytpoofeiajmkfdaa
