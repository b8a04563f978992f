/-
  Short, Within, Right of the reference: contracts.
-/
import Derived.Test.YtpoofeiajmkfdaaVRef
namespace Go.Proofs.Ytpoofeiajmkfdaa
open Go.RowKit

def sk (x : ByteArray) : Bool := decide (x.size ≤ 4096)
theorem short_eq (k n : Int) (s : ByteArray) (l : List V) (ks : List ByteArray) : V.short (.mk k n s l ks) = (decide (s.size ≤ 4096) && ks.all sk && l.all V.short) := by
  rw [V.short_mk, V.shortL_all]; rfl
theorem ks_take {ks : List ByteArray} {i : Nat} (h : ∀ x ∈ ks.take i, sk x = true) (hi : i < ks.length) (hp : ks[i].size ≤ 4096) : ∀ x ∈ ks.take (i + 1), sk x = true := by
  rw [take_succ_l ks i hi]
  intro u hu
  rcases List.mem_append.1 hu with hu | hu
  · exact h u hu
  · rw [List.mem_singleton.1 hu]; simp [sk, hp]
theorem ks_end {ks : List ByteArray} {i : Nat} (h : ∀ x ∈ ks.take i, sk x = true) (hi : ¬ i < ks.length) : ks.all sk = true := by
  rw [List.take_of_length_le (by omega)] at h
  exact List.all_eq_true.2 h
theorem ks_no {ks : List ByteArray} {i : Nat} (hi : i < ks.length) (hp : ¬ ks[i].size ≤ 4096) : ks.all sk = false := by
  cases h : ks.all sk with
  | false => rfl
  | true =>
    have := List.all_eq_true.1 h ks[i] (List.getElem_mem hi)
    simp [sk] at this
    omega

set_option maxRecDepth 100000 in
set_option maxHeartbeats 1000000 in
theorem rshort_any (m : Nat) : ∀ (v : V) (a : Value) (w : World) (S : Nat → Prop), V.size v ≤ m → VA w S a v →
    Calls Try.prog 92 #[a] w fun e w' => e = .returned (.bool (V.short v)) ∧ Below w.heap.size w w' := by
  induction m with
  | zero => intro v a w S h; have := V.size_pos v; omega
  | succ m ih =>
    intro v a w S hm hv
    match v with
    | .mk k n s l ks =>
    obtain ⟨A, c, A', c', ics, rfl, ho, hl, hr, hvs, hk⟩ := hv.open_
    have hks : ks.length * 16 ≤ 140737488351232 := ho.2.2.2.2.2.2
    have hks1 : ∀ x ∈ ks, x.size ≤ 9223372036854775807 := ho.2.2.2.2.2.1
    have HKS := hid hks1
    have hss : s.size ≤ 9223372036854775807 := ho.2.2.2.2.1
    have HR := hid hr
    have HV := hid hvs
    have HK := hid hk
    have HM : Hid (∀ u ∈ l, V.size u ≤ m) := fun u hu => by
      have := V.size_mem hu
      rw [V.size_mk] at hm
      omega
    have HD := hid (short_eq k n s l ks)
    clear hv ho hr hvs hm hk hks1
    generalize V.short (.mk k n s l ks) = dd at HD
    have IH := hid ih
    clear ih
    by_cases hs : s.size ≤ 4096
    · have HD2 : Hid (dd = (ks.all sk && l.all V.short)) := by show _ = _; rw [HD.out]; simp [hs]
      clear HD
      go_enter Try.func92, Try.ntmps92
      go_wp2_with fail
      go_loopw [3] (fun v3 wr => ∃ i : Nat, i ≤ ks.length ∧ v3 = .int .i64 (i : Int) ∧ Hid (∀ u ∈ ks.take i, sk u = true) ∧ Bx w #[.int .i64 k, .int .i64 n, .string s, .slice A l.length c, .slice A' ks.length c'] wr) (fun v3 _ => ks.length - (intOf v3).toNat)
      case atStart => exact ⟨0, Nat.zero_le _, rfl, fun u hu => absurd hu (by simp), Bx.refl⟩
      case round =>
        obtain ⟨i, hi, rfl, hall, hbx⟩ := hrel
        have hb := hbx.below
        have hc4 := hbx.cell 4
        simp only [List.getElem?_toArray, List.getElem?_cons_succ, List.getElem?_cons_zero] at hc4
        have HB := hid hb
        have HBX := hid hbx
        clear hb hbx
        by_cases hlt : i < ks.length
        · obtain ⟨b, o, cc, he, hq⟩ := keys_all (HK.out.below HB.out (by omega)) (by omega)
          injection he with he1 he2 he3
          subst he1
          have q0 := hq i hlt
          clear he2 he3 hq
          have hsz := HKS.out ks[i] (List.getElem_mem hlt)
          by_cases hp : ks[i].size ≤ 4096
          · have HX := hid (ks_take hall.out hlt hp)
            go_wp2_with fail
            go_roundw
            case rel => exact ⟨i + 1, by omega, by go_num, HX, HBX.out⟩
            case measure => simp [intOf]; omega
          · have HX := hid (ks_no hlt hp)
            go_wp2_with fail
            go_ret
            exact ⟨ret_bool (by rw [HD2.out, HX.out]; rfl), HB.out⟩
        · have HX := hid (ks_end hall.out hlt)
          have HD3 : Hid (dd = l.all V.short) := by show _ = _; rw [HD2.out, HX.out]; rfl
          clear hall HX HD2 hi hks hc4
          obtain ⟨wo, rfl⟩ : ∃ wo : World, wo = wr := ⟨_, rfl⟩
          have hc4 := HBX.out.cell 4
          simp only [List.getElem?_toArray, List.getElem?_cons_succ, List.getElem?_cons_zero] at hc4
          go_wp2_with fail
          clear hc4
          go_loopw [4] (fun v4 wr => ∃ i : Nat, i ≤ l.length ∧ v4 = .int .i64 (i : Int) ∧ Hid (∀ u ∈ l.take i, V.short u = true) ∧ Bx w #[.int .i64 k, .int .i64 n, .string s, .slice A l.length c, .slice A' ks.length c'] wr) (fun v4 _ => l.length - (intOf v4).toNat)
          case atStart => exact ⟨0, Nat.zero_le _, rfl, fun u hu => absurd hu (by simp), HBX.out⟩
          case round =>
            obtain ⟨j, hj, rfl, hall, hbx⟩ := hrel
            have hb := hbx.below
            have hc3 := hbx.cell 3
            simp only [List.getElem?_toArray, List.getElem?_cons_succ, List.getElem?_cons_zero] at hc3
            clear HB HBX
            have HB := hid hb
            have HBX := hid hbx
            clear hb hbx
            by_cases hlj : j < l.length
            · obtain ⟨b, o, cc, k', n', s', A1, m1, c1, A2, m2, c2, he, q0, q1, q2, q3, q4, hva⟩ := items_at (HR.out.below HB.out (by omega)) (HV.out.below HB.out) j hlj
              injection he with he1 he2 he3
              subst he1
              clear he2 he3
              have HVA := hid hva
              have HM1 := hid (HM.out l[j] (List.getElem_mem hlj))
              clear hva
              cases hx : V.short l[j]
              · have HX := hid hx
                have HY := hid (all_no hlj hx)
                clear hx
                go_wp2_with (go_at_call 92; refine (callb HX.out (IH.out _ _ _ _ HM1.out HVA.out)).mono ?_; rintro e w1 ⟨rfl, hb1⟩)
                go_ret
                exact ⟨ret_bool (by rw [HD3.out, HY.out]), bstep HB.out hb1⟩
              · have HX := hid hx
                have HY := hid (all_take hall.out hlj hx)
                clear hx
                go_wp2_with (go_at_call 92; refine (callb HX.out (IH.out _ _ _ _ HM1.out HVA.out)).mono ?_; rintro e w1 ⟨rfl, hb1⟩)
                go_roundw
                case rel => exact ⟨j + 1, by omega, by go_num, HY, HBX.out.step hb1⟩
                case measure => simp [intOf]; omega
            · have HX := hid (all_end hall.out hlj)
              go_wp2_with fail
              go_ret
              exact ⟨ret_bool (by rw [HD3.out, HX.out]), HB.out⟩
    · go_enter Try.func92, Try.ntmps92
      go_wp2_with fail
      go_ret
      exact ⟨ret_bool (by rw [HD.out]; simp [hs]), below_box _⟩

/-- A call of a Go function that takes one value and gives a bool, of this value in whatever later world. -/
def CB (f : FuncId) (a : Value) (w : World) (b : Bool) : Prop := ∀ W : World, Below w.heap.size w W → Calls Try.prog f #[a] W fun e w' => e = .returned (.bool b) ∧ Below W.heap.size W w'
def CI (f : FuncId) (a : Value) (w : World) (n : Int) : Prop := ∀ W : World, Below w.heap.size w W → Calls Try.prog f #[a] W fun e w' => e = .returned (.int .i64 n) ∧ Below W.heap.size W w'

set_option maxRecDepth 100000 in
set_option maxHeartbeats 1000000 in
theorem rwithin_any (v : V) (a : Value) (w : World) (S : Nat → Prop) (hz : V.size v ≤ 1099511627776) (hv : VA w S a v) :
    Calls Try.prog 61 #[a] w fun e w' => e = .returned (.bool (V.within v)) ∧ Below w.heap.size w w' := by
  have C92 : Hid (CB 92 a w (V.short v)) := fun W hW => rshort_any _ v a W S (Nat.le_refl _) (hv.below hW)
  have C34 : Hid (CI 34 a w (V.depth v)) := fun W hW => rdepth_any _ v a W S (Nat.le_refl _) hz (hv.below hW)
  have C36 : Hid (CI 36 a w (V.size v)) := fun W hW => rsize_any _ v a W S (Nat.le_refl _) hz (hv.below hW)
  have HD : Hid (V.within v = (V.short v && decide (V.depth v ≤ 16) && decide (V.size v ≤ 1000))) := by show _ = _; rfl
  have hdp := V.depth_le_size v
  obtain ⟨k, n, s, l, ks⟩ := v
  obtain ⟨A, c, A', c', ics, rfl, ho, hl, hr, hvs, hk⟩ := hv.open_
  clear hv ho hr hvs hk
  generalize V.within (.mk k n s l ks) = dd at HD
  generalize V.short (.mk k n s l ks) = sh at HD C92
  generalize V.depth (.mk k n s l ks) = dp at HD C34 hdp
  generalize V.size (.mk k n s l ks) = sz at HD C36 hz hdp
  cases sh
  · go_enter Try.func61, Try.ntmps61
    go_wp2_with (go_at_call 92; refine (C92.out _ (below_box _)).mono ?_; rintro e w1 ⟨rfl, hb1⟩)
    go_ret
    exact ⟨ret_bool (by rw [HD.out]; simp), bstep (below_box _) hb1⟩
  · by_cases h1 : dp ≤ 16
    · by_cases h2 : sz ≤ 1000
      all_goals
        go_enter Try.func61, Try.ntmps61
        go_wp2_with (first
          | (go_at_call 92; refine (C92.out _ (below_box _)).mono ?_; rintro e w1 ⟨rfl, hb1⟩; have HX1 := hid (Bx.refl.step hb1); clear hb1; obtain ⟨p0, p1, p2, p3, p4⟩ := HX1.out.cells)
          | (go_at_call 34; refine (C34.out _ HX1.out.below).mono ?_; rintro e w2 ⟨rfl, hb2⟩; have HX2 := hid (HX1.out.step hb2); clear hb2 p0 p1 p2 p3 p4; obtain ⟨p0, p1, p2, p3, p4⟩ := HX2.out.cells)
          | (go_at_call 36; refine (C36.out _ HX2.out.below).mono ?_; rintro e w3 ⟨rfl, hb3⟩; have HX3 := hid (HX2.out.step hb3); clear hb3 p0 p1 p2 p3 p4))
        go_ret
        exact ⟨ret_bool (by rw [HD.out]; simp [h1, h2] <;> omega), HX3.out.below⟩
    · go_enter Try.func61, Try.ntmps61
      go_wp2_with (first
          | (go_at_call 92; refine (C92.out _ (below_box _)).mono ?_; rintro e w1 ⟨rfl, hb1⟩; have HX1 := hid (Bx.refl.step hb1); clear hb1; obtain ⟨p0, p1, p2, p3, p4⟩ := HX1.out.cells)
          | (go_at_call 34; refine (C34.out _ HX1.out.below).mono ?_; rintro e w2 ⟨rfl, hb2⟩; have HX2 := hid (HX1.out.step hb2); clear hb2 p0 p1 p2 p3 p4))
      go_ret
      exact ⟨ret_bool (by rw [HD.out]; simp [h1]), HX2.out.below⟩

set_option maxRecDepth 100000 in
set_option maxHeartbeats 1000000 in
theorem rright_any (v : V) (a : Value) (w : World) (S : Nat → Prop) (hz : V.size v ≤ 1099511627776) (hv : VA w S a v) :
    Calls Try.prog 31 #[a] w fun e w' => e = .returned (.bool (V.right v)) ∧ Below w.heap.size w w' := by
  have C39 : Hid (CB 39 a w (V.wf v)) := fun W hW => rwf_any _ v a W S (Nat.le_refl _) (hv.below hW)
  have C61 : Hid (CB 61 a w (V.within v)) := fun W hW => rwithin_any v a W S hz (hv.below hW)
  have C66 : Hid (CB 66 a w (V.fut v)) := fun W hW => rfut_any _ v a W S (Nat.le_refl _) (hv.below hW)
  have HD : Hid (V.right v = (V.within v && V.wf v && !V.fut v)) := by show _ = _; rfl
  obtain ⟨k, n, s, l, ks⟩ := v
  obtain ⟨A, c, A', c', ics, rfl, ho, hl, hr, hvs, hk⟩ := hv.open_
  clear hv ho hr hvs hk hz
  generalize V.right (.mk k n s l ks) = dd at HD
  generalize V.wf (.mk k n s l ks) = x1 at HD C39
  generalize V.within (.mk k n s l ks) = x2 at HD C61
  generalize V.fut (.mk k n s l ks) = x3 at HD C66
  cases x1
  · go_enter Try.func31, Try.ntmps31
    go_wp2_with (go_at_call 39; refine (C39.out _ (below_box _)).mono ?_; rintro e w1 ⟨rfl, hb1⟩)
    go_ret
    exact ⟨ret_bool (by rw [HD.out]; simp), bstep (below_box _) hb1⟩
  · cases x2
    · go_enter Try.func31, Try.ntmps31
      go_wp2_with (first
          | (go_at_call 39; refine (C39.out _ (below_box _)).mono ?_; rintro e w1 ⟨rfl, hb1⟩; have HX1 := hid (Bx.refl.step hb1); clear hb1; obtain ⟨p0, p1, p2, p3, p4⟩ := HX1.out.cells)
          | (go_at_call 61; refine (C61.out _ HX1.out.below).mono ?_; rintro e w2 ⟨rfl, hb2⟩; have HX2 := hid (HX1.out.step hb2); clear hb2 p0 p1 p2 p3 p4))
      go_ret
      exact ⟨ret_bool (by rw [HD.out]; simp), HX2.out.below⟩
    · cases x3
      all_goals
        go_enter Try.func31, Try.ntmps31
        go_wp2_with (first
          | (go_at_call 39; refine (C39.out _ (below_box _)).mono ?_; rintro e w1 ⟨rfl, hb1⟩; have HX1 := hid (Bx.refl.step hb1); clear hb1; obtain ⟨p0, p1, p2, p3, p4⟩ := HX1.out.cells)
          | (go_at_call 61; refine (C61.out _ HX1.out.below).mono ?_; rintro e w2 ⟨rfl, hb2⟩; have HX2 := hid (HX1.out.step hb2); clear hb2 p0 p1 p2 p3 p4; obtain ⟨p0, p1, p2, p3, p4⟩ := HX2.out.cells)
          | (go_at_call 66; refine (C66.out _ HX2.out.below).mono ?_; rintro e w3 ⟨rfl, hb3⟩; have HX3 := hid (HX2.out.step hb3); clear hb3 p0 p1 p2 p3 p4))
        go_ret
        exact ⟨ret_bool (by rw [HD.out]; simp), HX3.out.below⟩
end Go.Proofs.Ytpoofeiajmkfdaa
