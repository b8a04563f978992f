/-
  Depth, Size, Few: contracts.
-/
import Derived.Test.YtpoofeiajmkfdaaNum
import Derived.Test.YtpoofeiajmkfdaaVMem
namespace Go.Proofs.Ytpoofeiajmkfdaa
open Go.RowKit

/-- The items of a value: their sizes. -/
theorem items_size {k n : Int} {s : ByteArray} {l : List V} {ks : List ByteArray} {m : Nat} (hm : V.size (.mk k n s l ks) ≤ m + 1) (hsz : V.size (.mk k n s l ks) ≤ 1099511627776) :
    (∀ u ∈ l, V.size u ≤ m ∧ V.size u ≤ 1099511627776) ∧ V.sizeL l ≤ 1099511627775 := by
  rw [V.size_mk] at hm hsz
  exact ⟨fun u hu => by have := V.size_mem hu; exact ⟨by omega, by omega⟩, by omega⟩

theorem depthL_bound (l : List V) : V.depthL l ≤ V.sizeL l := by
  rw [V.depthL_le]
  exact fun v hv => Nat.le_trans (V.depth_le_size v) (V.size_mem hv)
theorem depth_take {l : List V} {i : Nat} (h : i < l.length) : V.depthL (l.take (i + 1)) = max (V.depthL (l.take i)) (V.depth l[i]) := by
  rw [take_succ_l l i h, V.depthL_app, V.depthL_cons, V.depthL_nil]; omega
theorem size_take {l : List V} {i : Nat} (h : i < l.length) : V.sizeL (l.take (i + 1)) = V.sizeL (l.take i) + V.size l[i] := by
  rw [take_succ_l l i h, V.sizeL_app, V.sizeL_cons, V.sizeL_nil]; omega

set_option maxRecDepth 100000 in
set_option maxHeartbeats 400000 in
theorem depth_any (m : Nat) : ∀ (v : V) (a : Value) (w : World) (S : Nat → Prop), V.size v ≤ m → V.size v ≤ 1099511627776 → VA w S a v →
    Calls Try.prog 33 #[a] w fun e w' => e = .returned (.int .i64 (V.depth v : Nat)) ∧ Below w.heap.size w w' := by
  induction m with
  | zero => intro v a w S h; have := V.size_pos v; omega
  | succ m ih =>
    intro v a w S hm hsz hv
    match v with
    | .mk k n s l ks =>
    obtain ⟨A, c, A', c', ics, rfl, ho, hl, hr, hvs, _⟩ := hv.open_
    have HR := hid hr
    have HV := hid hvs
    have hd := depthL_bound l
    obtain ⟨hm, hz⟩ := items_size hm hsz
    have HM := hid hm
    have HD := hid (V.depth_mk k n s l ks)
    clear hv ho hr hvs hm hsz
    generalize V.depth (.mk k n s l ks) = dd at HD
    have IH := hid ih
    clear ih
    go_enter Try.func33, Try.ntmps33
    go_wp2_with fail
    go_loopw [3, 9] (fun v3 v9 wr => ∃ i : Nat, i ≤ l.length ∧ v9 = .int .i64 (i : Int) ∧ v3 = .int .i64 (V.depthL (l.take i) : Nat) ∧ Below w.heap.size w wr) (fun _ v9 _ => l.length - (intOf v9).toNat)
    case atStart => exact ⟨0, Nat.zero_le _, rfl, by simp [V.depthL_nil], below_box _⟩
    case round =>
      obtain ⟨i, hi, rfl, rfl, hb⟩ := hrel
      by_cases hlt : i < l.length
      · obtain ⟨b, o, cc, k', n', s', A1, m1, c1, A2, m2, c2, he, q0, q1, q2, q3, q4, hva⟩ := items_at (HR.out.below hb (by omega)) (HV.out.below hb) i hlt
        injection he with he1 he2 he3
        subst he1
        clear he2 he3
        have HVA := hid hva
        have HM1 := hid (HM.out l[i] (List.getElem_mem hlt))
        have HT := hid (depth_take hlt)
        clear hva
        go_wp2_with (go_at_call 33; refine (IH.out _ _ _ _ HM1.out.1 HM1.out.2 (HVA.out.below (below_box _))).mono ?_; rintro e w1 ⟨rfl, hb1⟩)
        go_roundw
        case rel => exact ⟨i + 1, by omega, by go_num, congrArg (Value.int IntKind.i64) (by rw [HT.out]; split <;> omega), bstep hb (bstep (below_box _) hb1)⟩
        case measure => simp [intOf]; omega
      · have h2 : l.take i = l := List.take_of_length_le (by omega)
        have h1 : V.depthL (l.take i) ≤ 1099511627776 := by rw [h2]; omega
        have H2 := hid h2
        clear h2
        go_wp2_with fail
        go_ret
        exact ⟨ret_int (by rw [HD.out, H2.out]; omega), hb⟩

set_option maxRecDepth 100000 in
set_option maxHeartbeats 400000 in
theorem size_any (m : Nat) : ∀ (v : V) (a : Value) (w : World) (S : Nat → Prop), V.size v ≤ m → V.size v ≤ 1099511627776 → VA w S a v →
    Calls Try.prog 35 #[a] w fun e w' => e = .returned (.int .i64 (V.size v : Nat)) ∧ Below w.heap.size w w' := by
  induction m with
  | zero => intro v a w S h; have := V.size_pos v; omega
  | succ m ih =>
    intro v a w S hm hsz hv
    match v with
    | .mk k n s l ks =>
    obtain ⟨A, c, A', c', ics, rfl, ho, hl, hr, hvs, _⟩ := hv.open_
    have HR := hid hr
    have HV := hid hvs
    obtain ⟨hm, hz⟩ := items_size hm hsz
    have HM := hid hm
    have HD := hid (V.size_mk k n s l ks)
    clear hv ho hr hvs hm hsz
    generalize V.size (.mk k n s l ks) = dd at HD
    have IH := hid ih
    clear ih
    go_enter Try.func35, Try.ntmps35
    go_wp2_with fail
    go_loopw [3, 9] (fun v3 v9 wr => ∃ i : Nat, i ≤ l.length ∧ v9 = .int .i64 (i : Int) ∧ v3 = .int .i64 ((1 + V.sizeL (l.take i) : Nat) : Int) ∧ Below w.heap.size w wr) (fun _ v9 _ => l.length - (intOf v9).toNat)
    case atStart => exact ⟨0, Nat.zero_le _, rfl, by simp [V.sizeL_nil], below_box _⟩
    case round =>
      obtain ⟨i, hi, rfl, rfl, hb⟩ := hrel
      by_cases hlt : i < l.length
      · obtain ⟨b, o, cc, k', n', s', A1, m1, c1, A2, m2, c2, he, q0, q1, q2, q3, q4, hva⟩ := items_at (HR.out.below hb (by omega)) (HV.out.below hb) i hlt
        injection he with he1 he2 he3
        subst he1
        clear he2 he3
        have HVA := hid hva
        have HM1 := hid (HM.out l[i] (List.getElem_mem hlt))
        have hq := V.sizeL_take l (i + 1)
        have HT := hid (size_take hlt)
        rw [size_take hlt] at hq
        clear hva
        go_wp2_with (go_at_call 35; refine (IH.out _ _ _ _ HM1.out.1 HM1.out.2 (HVA.out.below (below_box _))).mono ?_; rintro e w1 ⟨rfl, hb1⟩)
        go_roundw
        case rel => exact ⟨i + 1, by omega, by go_num, congrArg (Value.int IntKind.i64) (by rw [HT.out]; omega), bstep hb (bstep (below_box _) hb1)⟩
        case measure => simp [intOf]; omega
      · have H2 := hid (List.take_of_length_le (Nat.le_of_not_lt hlt))
        go_wp2_with fail
        go_ret
        exact ⟨ret_int (by rw [HD.out, H2.out]), hb⟩

set_option maxRecDepth 100000 in
set_option maxHeartbeats 400000 in
theorem rdepth_any (m : Nat) : ∀ (v : V) (a : Value) (w : World) (S : Nat → Prop), V.size v ≤ m → V.size v ≤ 1099511627776 → VA w S a v →
    Calls Try.prog 34 #[a] w fun e w' => e = .returned (.int .i64 (V.depth v : Nat)) ∧ Below w.heap.size w w' := by
  induction m with
  | zero => intro v a w S h; have := V.size_pos v; omega
  | succ m ih =>
    intro v a w S hm hsz hv
    match v with
    | .mk k n s l ks =>
    obtain ⟨A, c, A', c', ics, rfl, ho, hl, hr, hvs, _⟩ := hv.open_
    have HR := hid hr
    have HV := hid hvs
    have hd := depthL_bound l
    obtain ⟨hm, hz⟩ := items_size hm hsz
    have HM := hid hm
    have HD := hid (V.depth_mk k n s l ks)
    clear hv ho hr hvs hm hsz
    generalize V.depth (.mk k n s l ks) = dd at HD
    have IH := hid ih
    clear ih
    go_enter Try.func34, Try.ntmps34
    go_wp2_with fail
    go_loopw [3, 4] (fun v3 v4 wr => ∃ i : Nat, i ≤ l.length ∧ v4 = .int .i64 (i : Int) ∧ v3 = .int .i64 (V.depthL (l.take i) : Nat) ∧ Bx w #[.int .i64 k, .int .i64 n, .string s, .slice A l.length c, .slice A' ks.length c'] wr) (fun _ v4 _ => l.length - (intOf v4).toNat)
    case atStart => exact ⟨0, Nat.zero_le _, rfl, by simp [V.depthL_nil], Bx.refl⟩
    case round =>
      obtain ⟨i, hi, rfl, rfl, hbx⟩ := hrel
      have hb := hbx.below
      have hc3 := hbx.cell 3
      simp only [List.getElem?_toArray, List.getElem?_cons_succ, List.getElem?_cons_zero] at hc3
      have HB := hid hb
      have HBX := hid hbx
      clear hb hbx
      by_cases hlt : i < l.length
      · obtain ⟨b, o, cc, k', n', s', A1, m1, c1, A2, m2, c2, he, q0, q1, q2, q3, q4, hva⟩ := items_at (HR.out.below HB.out (by omega)) (HV.out.below HB.out) i hlt
        injection he with he1 he2 he3
        subst he1
        clear he2 he3
        have HVA := hid hva
        have HM1 := hid (HM.out l[i] (List.getElem_mem hlt))
        have HT := hid (depth_take hlt)
        clear hva
        go_wp2_with (go_at_call 34; refine (IH.out _ _ _ _ HM1.out.1 HM1.out.2 HVA.out).mono ?_; rintro e w1 ⟨rfl, hb1⟩)
        all_goals
          go_roundw
          case rel => exact ⟨i + 1, by omega, by go_num, congrArg (Value.int IntKind.i64) (by rw [HT.out]; omega), HBX.out.step hb1⟩
          case measure => simp [intOf]; omega
      · have h2 : l.take i = l := List.take_of_length_le (by omega)
        have h1 : V.depthL (l.take i) ≤ 1099511627776 := by rw [h2]; omega
        have H2 := hid h2
        clear h2
        go_wp2_with fail
        go_ret
        exact ⟨ret_int (by rw [HD.out, H2.out]; omega), HB.out⟩

set_option maxRecDepth 100000 in
set_option maxHeartbeats 400000 in
theorem rsize_any (m : Nat) : ∀ (v : V) (a : Value) (w : World) (S : Nat → Prop), V.size v ≤ m → V.size v ≤ 1099511627776 → VA w S a v →
    Calls Try.prog 36 #[a] w fun e w' => e = .returned (.int .i64 (V.size v : Nat)) ∧ Below w.heap.size w w' := by
  induction m with
  | zero => intro v a w S h; have := V.size_pos v; omega
  | succ m ih =>
    intro v a w S hm hsz hv
    match v with
    | .mk k n s l ks =>
    obtain ⟨A, c, A', c', ics, rfl, ho, hl, hr, hvs, _⟩ := hv.open_
    have HR := hid hr
    have HV := hid hvs
    obtain ⟨hm, hz⟩ := items_size hm hsz
    have HM := hid hm
    have HD := hid (V.size_mk k n s l ks)
    clear hv ho hr hvs hm hsz
    generalize V.size (.mk k n s l ks) = dd at HD
    have IH := hid ih
    clear ih
    go_enter Try.func36, Try.ntmps36
    go_wp2_with fail
    go_loopw [3, 4] (fun v3 v4 wr => ∃ i : Nat, i ≤ l.length ∧ v4 = .int .i64 (i : Int) ∧ v3 = .int .i64 ((1 + V.sizeL (l.take i) : Nat) : Int) ∧ Bx w #[.int .i64 k, .int .i64 n, .string s, .slice A l.length c, .slice A' ks.length c'] wr) (fun _ v4 _ => l.length - (intOf v4).toNat)
    case atStart => exact ⟨0, Nat.zero_le _, rfl, by simp [V.sizeL_nil], Bx.refl⟩
    case round =>
      obtain ⟨i, hi, rfl, rfl, hbx⟩ := hrel
      have hb := hbx.below
      have hc3 := hbx.cell 3
      simp only [List.getElem?_toArray, List.getElem?_cons_succ, List.getElem?_cons_zero] at hc3
      have HB := hid hb
      have HBX := hid hbx
      clear hb hbx
      by_cases hlt : i < l.length
      · obtain ⟨b, o, cc, k', n', s', A1, m1, c1, A2, m2, c2, he, q0, q1, q2, q3, q4, hva⟩ := items_at (HR.out.below HB.out (by omega)) (HV.out.below HB.out) i hlt
        injection he with he1 he2 he3
        subst he1
        clear he2 he3
        have HVA := hid hva
        have HM1 := hid (HM.out l[i] (List.getElem_mem hlt))
        have hq := V.sizeL_take l (i + 1)
        have HT := hid (size_take hlt)
        rw [size_take hlt] at hq
        clear hva
        go_wp2_with (go_at_call 36; refine (IH.out _ _ _ _ HM1.out.1 HM1.out.2 HVA.out).mono ?_; rintro e w1 ⟨rfl, hb1⟩)
        go_roundw
        case rel => exact ⟨i + 1, by omega, by go_num, congrArg (Value.int IntKind.i64) (by rw [HT.out]; omega), HBX.out.step hb1⟩
        case measure => simp [intOf]; omega
      · have H2 := hid (List.take_of_length_le (Nat.le_of_not_lt hlt))
        go_wp2_with fail
        go_ret
        exact ⟨ret_int (by rw [HD.out, H2.out]), HB.out⟩

/-- What the loop of few has in hand. -/
def fewAt (l : List V) (i N : Nat) : Int := if 1 + V.sizeL (l.take i) ≤ N then (N : Int) - 1 - V.sizeL (l.take i) else -1
theorem fewAt_lo (l : List V) (i N : Nat) : -1 ≤ fewAt l i N ∧ fewAt l i N ≤ N := by
  unfold fewAt; split <;> omega
theorem fewAt_zero (l : List V) (N : Nat) : (N : Int) - 1 = fewAt l 0 N := by
  unfold fewAt; simp only [List.take_zero, V.sizeL_nil]; split <;> omega
theorem fewAt_next {l : List V} {i N M : Nat} (h : i < l.length) (hM : fewAt l i N = (M : Int)) : V.few l[i] M = fewAt l (i + 1) N := by
  unfold fewAt at hM ⊢
  unfold V.few
  rw [size_take h]
  have := V.size_pos l[i]
  split at hM
  · by_cases hc : V.size l[i] ≤ M
    · rw [if_pos hc, if_pos (by omega)]; omega
    · rw [if_neg hc, if_neg (by omega)]
  · omega
theorem fewAt_end {k n : Int} {s : ByteArray} {l : List V} {ks : List ByteArray} {N : Nat} : V.few (.mk k n s l ks) N = fewAt l l.length N := by
  unfold V.few fewAt
  rw [V.size_mk, List.take_length]
  split
  · omega
  · rfl
theorem fewAt_neg {l : List V} {i N : Nat} (h : fewAt l i N < 0) : fewAt l l.length N = fewAt l i N := by
  unfold fewAt at h ⊢
  have := V.sizeL_take l i
  rw [List.take_length]
  split at h
  · omega
  · rw [if_neg (by omega), if_neg (by omega)]

set_option maxRecDepth 100000 in
set_option maxHeartbeats 400000 in
theorem few_any (m : Nat) : ∀ (v : V) (a : Value) (N : Nat) (w : World) (S : Nat → Prop), V.size v ≤ m → N ≤ 1099511627776 → VA w S a v →
    Calls Try.prog 56 #[a, .int .i64 (N : Int)] w fun e w' => e = .returned (.int .i64 (V.few v N)) ∧ Below w.heap.size w w' := by
  induction m with
  | zero => intro v a N w S h; have := V.size_pos v; omega
  | succ m ih =>
    intro v a N w S hm hN hv
    match v with
    | .mk k n s l ks =>
    obtain ⟨A, c, A', c', ics, rfl, ho, hl, hr, hvs, _⟩ := hv.open_
    have HR := hid hr
    have HV := hid hvs
    have HM : Hid (∀ u ∈ l, V.size u ≤ m) := fun u hu => by
      have := V.size_mem hu
      rw [V.size_mk] at hm
      omega
    have HD : Hid (V.few (.mk k n s l ks) N = fewAt l l.length N) := fewAt_end
    clear hv ho hr hvs hm
    generalize V.few (.mk k n s l ks) N = dd at HD
    have IH := hid ih
    clear ih
    go_enter Try.func56, Try.ntmps56
    go_wp2_with fail
    go_loopw [1, 5] (fun v1 v5 wr => ∃ i : Nat, i ≤ l.length ∧ v5 = .int .i64 (i : Int) ∧ v1 = .int .i64 (fewAt l i N) ∧ Bx w #[.int .i64 k, .int .i64 n, .string s, .slice A l.length c, .slice A' ks.length c'] wr) (fun _ v5 _ => l.length - (intOf v5).toNat)
    case atStart => exact ⟨0, Nat.zero_le _, rfl, congrArg (Value.int IntKind.i64) (fewAt_zero l N), Bx.refl⟩
    case round =>
      obtain ⟨i, hi, rfl, rfl, hbx⟩ := hrel
      have hb := hbx.below
      have hc3 := hbx.cell 3
      simp only [List.getElem?_toArray, List.getElem?_cons_succ, List.getElem?_cons_zero] at hc3
      have HB := hid hb
      have HBX := hid hbx
      clear hb hbx
      obtain ⟨f1, f2⟩ := fewAt_lo l i N
      by_cases hlt : i < l.length
      · by_cases h0 : 0 ≤ fewAt l i N
        · obtain ⟨b, o, cc, k', n', s', A1, m1, c1, A2, m2, c2, he, q0, q1, q2, q3, q4, hva⟩ := items_at (HR.out.below HB.out (by omega)) (HV.out.below HB.out) i hlt
          injection he with he1 he2 he3
          subst he1
          clear he2 he3
          have HVA := hid hva
          have HM1 := hid (HM.out l[i] (List.getElem_mem hlt))
          obtain ⟨M, hM⟩ := Int.eq_ofNat_of_zero_le h0
          have HT := hid (fewAt_next hlt hM)
          rw [hM]
          rw [hM] at f1 f2
          clear hva hM h0
          go_wp2_with (go_at_call 56; refine (IH.out _ _ _ _ _ HM1.out (by omega) HVA.out).mono ?_; rintro e w1 ⟨rfl, hb1⟩)
          go_roundw
          case rel => exact ⟨i + 1, by omega, by go_num, congrArg (Value.int IntKind.i64) HT.out, HBX.out.step hb1⟩
          case measure => simp [intOf]; omega
        · have h0' : fewAt l i N < 0 := by omega
          have HE := hid (fewAt_neg h0')
          clear h0
          generalize fewAt l i N = x at HE f1 f2 h0' ⊢
          go_wp2_with fail
          go_ret
          exact ⟨ret_int (by rw [HD.out, HE.out]), HB.out⟩
      · have HE : Hid (fewAt l l.length N = fewAt l i N) := by show _ = _; rw [show i = l.length by omega]
        generalize fewAt l i N = x at HE f1 f2 ⊢
        go_wp2_with fail
        go_ret
        exact ⟨ret_int (by rw [HD.out, HE.out]), HB.out⟩

theorem few_yes {v : V} {N : Nat} : decide (0 ≤ V.few v N) = decide (V.size v ≤ N) := by
  unfold V.few
  by_cases h : V.size v ≤ N
  · rw [if_pos h]; simp [h]
  · rw [if_neg h]; simp [h]

set_option maxRecDepth 100000 in
set_option maxHeartbeats 400000 in
theorem Few_any (v : V) (a : Value) (N : Nat) (w : World) (S : Nat → Prop) (hN : N ≤ 1099511627776) (hv : VA w S a v) :
    Calls Try.prog 11 #[a, .int .i64 (N : Int)] w fun e w' => e = .returned (.bool (decide (V.size v ≤ N))) ∧ Below w.heap.size w w' := by
  have HF := hid (few_yes (v := v) (N := N))
  have HV := hid hv
  match v with
  | .mk k n s l ks =>
  obtain ⟨A, c, A', c', ics, rfl, ho, hl, hr, hvs, _⟩ := hv.open_
  clear ho hr hvs hv
  generalize V.mk k n s l ks = v at *
  generalize decide (V.size v ≤ N) = d at HF ⊢
  go_enter Try.func11, Try.ntmps11
  go_wp2_with (go_at_call 56; refine (few_any _ _ _ _ _ _ (Nat.le_refl _) hN (HV.out.below (below_box _))).mono ?_; rintro e w1 ⟨rfl, hb1⟩)
  go_ret
  exact ⟨ret_bool (by rw [← HF.out]), bstep (below_box _) hb1⟩
end Go.Proofs.Ytpoofeiajmkfdaa
