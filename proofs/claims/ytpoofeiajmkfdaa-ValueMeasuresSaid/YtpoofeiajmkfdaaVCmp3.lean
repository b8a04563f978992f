/-
  compare and Order of the program, with cmp.Compare and slices.CompareFunc: contracts.
-/
import Derived.Test.YtpoofeiajmkfdaaVCmp2
namespace Go.Proofs.Ytpoofeiajmkfdaa
open Go.RowKit

theorem isNaN_int (n : Int) (w : World) : Calls Try.prog 124 #[.int .i64 n] w fun e w' => e = .returned (.bool false) ∧ w = w' := by
  go_enter Try.func124, Try.ntmps124
  go_wp2
  go_ret
  exact ⟨ret_bool (by simp), rfl⟩
theorem isNaN_str (s : ByteArray) (w : World) : Calls Try.prog 119 #[.string s] w fun e w' => e = .returned (.bool false) ∧ w = w' := by
  go_enter Try.func119, Try.ntmps119
  go_wp2
  go_ret
  exact ⟨ret_bool (by simp), rfl⟩

set_option maxHeartbeats 400000 in
theorem compareI (a b : Int) (w : World) : Calls Try.prog 95 #[.int .i64 a, .int .i64 b] w fun e w' => e = .returned (.int .i64 (V.cI a b)) ∧ w = w' := by
  have HD : Hid (V.cI a b = if a < b then -1 else if b < a then 1 else 0) := by show _ = _; rfl
  generalize V.cI a b = r at HD
  by_cases h1 : a < b
  · have H1 := hid h1
    go_enter Try.func95, Try.ntmps95
    go_wp2_with (go_at_call 124; refine (isNaN_int _ _).mono ?_; rintro e w' ⟨rfl, rfl⟩)
    go_ret
    exact ⟨ret_int (by rw [HD.out, if_pos (by omega)]), rfl⟩
  · by_cases h2 : b < a
    · go_enter Try.func95, Try.ntmps95
      go_wp2_with (go_at_call 124; refine (isNaN_int _ _).mono ?_; rintro e w' ⟨rfl, rfl⟩)
      go_ret
      exact ⟨ret_int (by rw [HD.out, if_neg (by omega), if_pos (by omega)]), rfl⟩
    · go_enter Try.func95, Try.ntmps95
      go_wp2_with (go_at_call 124; refine (isNaN_int _ _).mono ?_; rintro e w' ⟨rfl, rfl⟩)
      go_ret
      exact ⟨ret_int (by rw [HD.out, if_neg (by omega), if_neg (by omega)]), rfl⟩

set_option maxHeartbeats 400000 in
theorem compareS (a b : ByteArray) (w : World) : Calls Try.prog 90 #[.string a, .string b] w fun e w' => e = .returned (.int .i64 (V.cS a b)) ∧ w = w' := by
  cases h1 : V.lt a b
  · by_cases he : a = b
    · subst he
      rw [V.cS_self]
      have h1' : Op.bytesLess a.toList a.toList = false := h1
      clear h1
      go_enter Try.func90, Try.ntmps90
      go_wp2_with (go_at_call 119; refine (isNaN_str _ _).mono ?_; rintro e w' ⟨rfl, rfl⟩)
      go_ret
      exact ⟨rfl, rfl⟩
    · have h2 : V.lt b a = true := by
        cases h : V.lt b a with
        | true => rfl
        | false => exact absurd (V.lt_total h1 h) he
      have hr : V.cS a b = 1 := by unfold V.cS; simp [h1, h2]
      rw [hr]
      have h1' : Op.bytesLess a.toList b.toList = false := h1
      have h3 : ¬ a.toList = b.toList := fun e => he (ba_ext e)
      have h4 : (a.toList == b.toList) = false := by simp [h3]
      clear h1 h2 he hr
      go_enter Try.func90, Try.ntmps90
      go_wp2_with (go_at_call 119; refine (isNaN_str _ _).mono ?_; rintro e w' ⟨rfl, rfl⟩)
      go_ret
      exact ⟨rfl, rfl⟩
  · have hr : V.cS a b = -1 := by unfold V.cS; simp [h1]
    rw [hr]
    have h1' : Op.bytesLess a.toList b.toList = true := h1
    clear h1 hr
    go_enter Try.func90, Try.ntmps90
    go_wp2_with (go_at_call 119; refine (isNaN_str _ _).mono ?_; rintro e w' ⟨rfl, rfl⟩)
    go_ret
    exact ⟨rfl, rfl⟩

theorem eg69 : ∀ args w, (callFunc 69 args).run Try.prog w = .ok (.enter 69 args) w := enters_of Try.func69 (by kernel_rfl) rfl

/-- compare of the items: the contracts that come in. -/
def CmpOf (l : List V) (l' : List V) : Prop := ∀ v ∈ l, ∀ u ∈ l', ∀ (a b : Value) (W : World) (S T : Nat → Prop), VA W S a v → VA W T b u → Calls Try.prog 69 #[a, b] W fun e w' => e = .returned (.int .i64 (V.cmp v u)) ∧ Below W.heap.size W w'

set_option maxRecDepth 100000 in
set_option maxHeartbeats 1000000 in
theorem compareFuncV (l l' : List V) (H : CmpOf l l') (iv iv' : Value) (ics ics' : List Value) (w : World) (S T : Nat → Prop) (_hl : l.length ≤ 9223372036854775807) (_hl' : l'.length ≤ 9223372036854775807)
    (hr : RdN w S 5 iv l.length ics) (hvs : VsC w S l ics) (hr' : RdN w T 5 iv' l'.length ics') (hvs' : VsC w T l' ics') :
    Calls Try.prog 96 #[iv, iv', .func (.func 69) #[] #[]] w fun e w' => e = .returned (.int .i64 (V.cmpL l l')) ∧ Below w.heap.size w w' := by
  have HH := hid H
  have HR := hid hr
  have HV := hid hvs
  have HR' := hid hr'
  have HV' := hid hvs'
  obtain ⟨A, c, rfl, _, _⟩ := hr.form
  obtain ⟨A', c', rfl, _, _⟩ := hr'.form
  have eg := eg69
  have HD : Hid (V.cmpL l l' = restL l l' 0) := by show _ = _; unfold restL; simp
  clear hr hr' hvs hvs' H
  generalize V.cmpL l l' = r at HD
  go_enter Try.func96, Try.ntmps96
  go_wp2_with fail
  go_loopw [13] (fun v13 wr => ∃ i : Nat, i ≤ l.length ∧ i ≤ l'.length ∧ v13 = .int .i64 (i : Int) ∧ Hid (r = restL l l' i) ∧ Below w.heap.size w wr) (fun v13 _ => l.length - (intOf v13).toNat)
  case atStart => exact ⟨0, Nat.zero_le _, Nat.zero_le _, rfl, HD.out, Below.refl _ _⟩
  case round =>
    clear HD
    obtain ⟨j, hj, hj', rfl, hres, hb⟩ := hrel
    by_cases hlj : j < l.length
    · obtain ⟨b1, o1, z1, k1, n1, s1, A1, m1, c1, A2, m2, c2, he, q0, q1, q2, q3, q4, hva⟩ := items_at (HR.out.below hb (by omega)) (HV.out.below hb) j hlj
      injection he with he1 he2 he3
      subst he1
      clear he2 he3
      have HVA := hid hva
      clear hva
      by_cases hlj' : j < l'.length
      · obtain ⟨b3, o3, z3, k3, n3, s3, A3, m3, c3, A4, m4, c4, he', t0, t1, t2, t3, t4, hva'⟩ := items_at (HR'.out.below hb (by omega)) (HV'.out.below hb) j hlj'
        injection he' with he1' he2' he3'
        subst he1'
        clear he2' he3'
        have HVA' := hid hva'
        clear hva'
        have t0' := alloc_cell t0
        have t1' := alloc_cell t1
        have t2' := alloc_cell t2
        have t3' := alloc_cell t3
        have t4' := alloc_cell t4
        clear t0 t1 t2 t3 t4
        have HC := hid (restL_at hlj hlj')
        have C : Hid (∀ W, Below wr.heap.size wr W → Calls Try.prog 69 #[.agg #[.int .i64 k1, .int .i64 n1, .string s1, .slice A1 m1 c1, .slice A2 m2 c2], .agg #[.int .i64 k3, .int .i64 n3, .string s3, .slice A3 m3 c3, .slice A4 m4 c4]] W fun e w' => e = .returned (.int .i64 (V.cmp l[j] l'[j])) ∧ Below W.heap.size W w') := fun W hW =>
          HH.out l[j] (List.getElem_mem hlj) l'[j] (List.getElem_mem hlj') _ _ W S T (HVA.out.below hW) (HVA'.out.below hW)
        generalize V.cmp l[j] l'[j] = x at C HC
        by_cases hx0 : x = 0
        · subst hx0
          go_wp2_with fail
          refine (C.out _ (bstep (below_box _) (below_box _))).mono ?_
          rintro e w3 ⟨rfl, hb3⟩
          go_wp2_with fail
          go_roundw
          case rel => exact ⟨j + 1, by omega, by omega, by go_num, (show r = _ by rw [hres.out, HC.out]; simp), bstep hb (bstep (bstep (below_box _) (below_box _)) hb3)⟩
          case measure => simp [intOf]; omega
        · have hx1 : (x != 0) = true := by simp [hx0]
          have HX := hid hx0
          clear hx0
          go_wp2_with fail
          refine (C.out _ (bstep (below_box _) (below_box _))).mono ?_
          rintro e w3 ⟨rfl, hb3⟩
          go_wp2_with fail
          go_ret
          exact ⟨ret_int (by rw [hres.out, HC.out, if_pos HX.out]), bstep hb (bstep (bstep (below_box _) (below_box _)) hb3)⟩
      · have HC := hid (restL_end hj hj' (by omega))
        go_wp2_with fail
        go_ret
        exact ⟨ret_int (by rw [hres.out, HC.out, if_neg (by omega), if_pos (by omega)]), bstep hb (below_box _)⟩
    · have HC := hid (restL_end hj hj' (by omega))
      by_cases hc1 : l.length < l'.length
      · go_wp2_with fail
        go_ret
        exact ⟨ret_int (by rw [hres.out, HC.out, if_pos (by omega)]), hb⟩
      · go_wp2_with fail
        go_ret
        exact ⟨ret_int (by rw [hres.out, HC.out, if_neg (by omega), if_neg (by omega)]), hb⟩

set_option maxRecDepth 100000 in
set_option maxHeartbeats 2000000 in
theorem comparePairs_any (k n : Int) (s : ByteArray) (l : List V) (ks : List ByteArray) (k' n' : Int) (s' : ByteArray) (l' : List V) (ks' : List ByteArray) (H : CmpOf l l') (a b : Value) (w : World) (S T : Nat → Prop)
    (hv : VA w S a (.mk k n s l ks)) (hu : VA w T b (.mk k' n' s' l' ks')) (hlk : l.length = ks.length) (hlk' : l'.length = ks'.length) :
    Calls Try.prog 97 #[a, b] w fun e w' => e = .returned (.int .i64 (V.cmpP l ks l' ks')) ∧ Below w.heap.size w w' := by
  obtain ⟨A, c, B, d, ics, rfl, ho, hl, hr, hvs, hk⟩ := hv.open_
  obtain ⟨A', c', B', d', ics', rfl, ho', hl', hr', hvs', hk'⟩ := hu.open_
  have hks : ks.length * 16 ≤ 140737488351232 := ho.2.2.2.2.2.2
  have hks' : ks'.length * 16 ≤ 140737488351232 := ho'.2.2.2.2.2.2
  have HD : Hid (V.cmpP l ks l' ks' = restP l ks l' ks' 0) := by show _ = _; unfold restP; simp
  have HLK := hid hlk
  have HLK' := hid hlk'
  have HH := hid H
  have HR := hid hr
  have HV := hid hvs
  have HK := hid hk
  have HR' := hid hr'
  have HV' := hid hvs'
  have HK' := hid hk'
  clear hv hu ho ho' hr hvs hk hr' hvs' hk' H hlk hlk'
  generalize V.cmpP l ks l' ks' = r at HD
  go_enter Try.func97, Try.ntmps97
  go_wp2_with fail
  all_goals
    go_loopw [15] (fun v15 wr => ∃ i : Nat, i ≤ ks.length ∧ i ≤ ks'.length ∧ v15 = .int .i64 (i : Int) ∧ Hid (r = restP l ks l' ks' i) ∧ Bx2 w #[.int .i64 k, .int .i64 n, .string s, .slice A l.length c, .slice B ks.length d] #[.int .i64 k', .int .i64 n', .string s', .slice A' l'.length c', .slice B' ks'.length d'] wr) (fun v15 _ => ks.length - (intOf v15).toNat)
    case atStart => exact ⟨0, Nat.zero_le _, Nat.zero_le _, rfl, HD.out, Bx2.refl⟩
    case round =>
      clear HD
      obtain ⟨i, hi, hi', rfl, hres, hbx⟩ := hrel
      have HBX := hid hbx
      obtain ⟨⟨p0, p1, p2, p3, p4⟩, ⟨r0, r1, r2, r3, r4⟩⟩ := hbx.cells
      clear hbx p0 p1 p2 r0 r1 r2
      by_cases hlt : i < ks.length ∧ i < ks'.length
      · obtain ⟨g1, g2⟩ := hlt
        have h1 : i < l.length := by have := HLK.out; omega
        have h2 : i < l'.length := by have := HLK'.out; omega
        obtain ⟨x1, x2, x3, he, hq⟩ := keys_all (HK.out.below HBX.out.below (by omega)) (by omega)
        injection he with he1 he2 he3
        subst he1
        have q0 := hq i g1
        obtain ⟨y1, y2, y3, he', hq'⟩ := keys_all (HK'.out.below HBX.out.below (by omega)) (by omega)
        injection he' with he1' he2' he3'
        subst he1'
        have q0' := hq' i g2
        clear he2 he3 hq he2' he3' hq'
        have HC := hid (restP_at h1 h2 g1 g2)
        generalize ks[i] = xx at q0 HC
        generalize ks'[i] = yy at q0' HC
        obtain ⟨x, hx⟩ : ∃ x, V.cS xx yy = x := ⟨_, rfl⟩
        have HX := hid hx
        clear hx
        by_cases hx0 : x = 0
        · subst hx0
          have HC2 : Hid (restP l ks l' ks' i = if V.cmp l[i] l'[i] ≠ 0 then V.cmp l[i] l'[i] else restP l ks l' ks' (i + 1)) := by
            show _ = _
            rw [HC.out, HX.out, if_neg (by omega)]
          go_wp2_with fail
          go_quiet ((go_at_call 90; exact quiet_left (calli HX.out (compareS _ _ _))))
          have HBQ := hid (HBX.out.drewN nq)
          generalize wr.drewN nq = wq at HBQ ⊢
          clear HBX p3 p4 r3 r4
          obtain ⟨⟨p0, p1, p2, p3, p4⟩, ⟨r0, r1, r2, r3, r4⟩⟩ := HBQ.out.cells
          clear p0 p1 p2 p4 r0 r1 r2 r4
          obtain ⟨b1, o1, z1, k1, n1, s1, A1, m1, c1, A2, m2, c2, he, q0, q1, q2, q3, q4, hva⟩ := items_at (HR.out.below HBQ.out.below (by omega)) (HV.out.below HBQ.out.below) i h1
          injection he with he1 he2 he3
          subst he1
          obtain ⟨b3, o3, z3, k3, n3, s3, A3, m3, c3, A4, m4, c4, he', t0, t1, t2, t3, t4, hva'⟩ := items_at (HR'.out.below HBQ.out.below (by omega)) (HV'.out.below HBQ.out.below) i h2
          injection he' with he1' he2' he3'
          subst he1'
          clear he2 he3 he2' he3'
          have HVA := hid hva
          have HVA' := hid hva'
          clear hva hva'
          have C : Hid (∀ e f, VA wq S e l[i] → VA wq T f l'[i] → Calls Try.prog 69 #[e, f] wq.drew fun e w' => e = .returned (.int .i64 (V.cmp l[i] l'[i])) ∧ Below wq.drew.heap.size wq.drew w') := fun e f he hf =>
            HH.out l[i] (List.getElem_mem h1) l'[i] (List.getElem_mem h2) _ _ _ S T he.drew hf.drew
          have HBY := hid (HBQ.out.drewN 1)
          generalize V.cmp l[i] l'[i] = z at C HC2
          by_cases hz0 : z = 0
          · subst hz0
            go_wp2_with fail
            go_still_tail 10, (by kernel_rfl)
            change wpList _ _ _ _ _ wq.drew
            change Hid (Bx2 w _ _ wq.drew) at HBY
            generalize wq.drew = w2 at C HBY
            go_wp2_with (go_at_call 69; refine (C.out _ _ HVA.out HVA'.out).mono ?_; rintro e w3 ⟨rfl, hb3⟩)
            go_roundw
            case rel => exact ⟨i + 1, by omega, by omega, by go_num, (show r = _ by rw [hres.out, HC2.out]; simp), HBY.out.step hb3⟩
            case measure => simp [intOf]; omega
          · have hx1 : (z != 0) = true := by simp [hz0]
            have HZ := hid hz0
            clear hz0
            go_wp2_with fail
            go_still_tail 10, (by kernel_rfl)
            change wpList _ _ _ _ _ wq.drew
            change Hid (Bx2 w _ _ wq.drew) at HBY
            generalize wq.drew = w2 at C HBY
            go_wp2_with (go_at_call 69; refine (C.out _ _ HVA.out HVA'.out).mono ?_; rintro e w3 ⟨rfl, hb3⟩)
            go_ret
            exact ⟨ret_int (by rw [hres.out, HC2.out, if_pos HZ.out]), bstep HBY.out.below hb3⟩
        · have hx1 : (x != 0) = true := by simp [hx0]
          have HX0 := hid hx0
          clear hx0
          go_wp2_with fail
          go_quiet ((go_at_call 90; exact quiet_left (calli HX.out (compareS _ _ _))))
          go_wp2_with fail
          go_ret
          exact ⟨ret_int (by rw [hres.out, HC.out, HX.out, if_pos HX0.out]), below_drewN HBX.out.below _⟩
      · have HE : Hid (r = V.cI (ks.length : Int) (ks'.length : Int)) := by
          show _ = _
          rw [hres.out, restP_end (by have := HLK.out; omega) (by have := HLK'.out; omega) (by have := HLK.out; have := HLK'.out; omega)]
          have e1 := HLK.out
          have e2 := HLK'.out
          unfold V.cI
          rw [e1, e2]
          repeat' split
          all_goals omega
        go_wp2_with (go_at_call 95; refine (compareI _ _ _).mono ?_; rintro e w' ⟨rfl, rfl⟩)
        go_ret
        exact ⟨ret_int HE.out.symm, HBX.out.below⟩

set_option maxRecDepth 100000 in
set_option maxHeartbeats 4000000 in
theorem cmp_any (m : Nat) : ∀ (v u : V) (a b : Value) (w : World) (S T : Nat → Prop), V.size v ≤ m → VA w S a v → VA w T b u → V.wf v = true → V.wf u = true →
    Calls Try.prog 69 #[a, b] w fun e w' => e = .returned (.int .i64 (V.cmp v u)) ∧ Below w.heap.size w w' := by
  induction m with
  | zero => intro v u a b w S T h; have := V.size_pos v; omega
  | succ m ih =>
    intro v u a b w S T hm hv hu hwv hwu
    match v, u with
    | .mk k n s l ks, .mk k' n' s' l' ks' =>
    have HIV := V.wf_items hwv
    have HIU := V.wf_items hwu
    have HCO : CmpOf l l' := fun x hx y hy a b W S T h1 h2 => ih x y a b W S T (by have := V.size_mem hx; rw [V.size_mk] at hm; omega) h1 h2 (HIV x hx) (HIU y hy)
    have HVV := hv
    have HUU := hu
    obtain ⟨A, c, B, d, ics, rfl, ho, hl, hr, hvs, hk⟩ := hv.open_
    obtain ⟨A', c', B', d', ics', rfl, ho', hl', hr', hvs', hk'⟩ := hu.open_
    have C96 : Hid (∀ W, Below w.heap.size w W → Calls Try.prog 96 #[.slice A l.length c, .slice A' l'.length c', .func (.func 69) #[] #[]] W fun e w' => e = .returned (.int .i64 (V.cmpL l l')) ∧ Below W.heap.size W w') := fun W hW =>
      compareFuncV l l' HCO _ _ ics ics' W S T hl hl' (hr.below hW (by omega)) (hvs.below hW) (hr'.below hW (by omega)) (hvs'.below hW)
    have C97 : Hid (k = 5 → k' = 5 → ∀ W, Below w.heap.size w W → Calls Try.prog 97 #[.agg #[.int .i64 k, .int .i64 n, .string s, .slice A l.length c, .slice B ks.length d], .agg #[.int .i64 k', .int .i64 n', .string s', .slice A' l'.length c', .slice B' ks'.length d']] W fun e w' => e = .returned (.int .i64 (V.cmpP l ks l' ks')) ∧ Below W.heap.size W w') := fun h5 h5' W hW =>
      comparePairs_any k n s l ks k' n' s' l' ks' HCO _ _ W S T (HVV.below hW) (HUU.below hW) (V.len_of_wf hwv h5) (V.len_of_wf hwu h5')
    have HD := hid (V.cmp_mk k n s l ks k' n' s' l' ks')
    clear hv hu ho ho' hr hvs hk hr' hvs' hk' hm ih HVV HUU HCO HIV HIU hwv hwu
    generalize V.cmp (.mk k n s l ks) (.mk k' n' s' l' ks') = r at HD
    generalize V.cmpL l l' = rl at HD C96
    generalize V.cmpP l ks l' ks' = rp at HD C97
    have HBB : Hid (∀ cs ds, Below w.heap.size w ((w.alloc (.cells cs 26)).alloc (.cells ds 26))) := fun cs ds => bstep (below_box _) (below_box _)
    by_cases hk : k = k'
    · subst hk
      have hkk : k = 1 ∨ k = 2 ∨ k = 3 ∨ k = 4 ∨ k = 5 ∨ k = 6 ∨ ((k == 1) = false ∧ (k == 2) = false ∧ (k == 3) = false ∧ (k == 4) = false ∧ (k == 5) = false ∧ (k == 6) = false) := by
        simp; omega
      rcases hkk with rfl | rfl | rfl | rfl | rfl | rfl | ⟨h1, h2, h3, h4, h5, h6⟩
      · have HR : Hid (r = V.cI n n') := by show _ = _; rw [HD.out]; simp
        clear HD
        go_enter Try.func69, Try.ntmps69
        go_wp2_with (go_at_call 95; refine (compareI _ _ _).mono ?_; rintro e w' ⟨rfl, rfl⟩)
        go_ret
        exact ⟨ret_int HR.out.symm, HBB.out _ _⟩
      · have HR : Hid (r = V.cI n n') := by show _ = _; rw [HD.out]; simp
        clear HD
        go_enter Try.func69, Try.ntmps69
        go_wp2_with (go_at_call 95; refine (compareI _ _ _).mono ?_; rintro e w' ⟨rfl, rfl⟩)
        go_ret
        exact ⟨ret_int HR.out.symm, HBB.out _ _⟩
      · have HR : Hid (r = V.cS s s') := by show _ = _; rw [HD.out]; simp
        clear HD
        go_enter Try.func69, Try.ntmps69
        go_wp2_with (go_at_call 90; refine (compareS _ _ _).mono ?_; rintro e w' ⟨rfl, rfl⟩)
        go_ret
        exact ⟨ret_int HR.out.symm, HBB.out _ _⟩
      · have HR : Hid (r = rl) := by show _ = _; rw [HD.out]; simp
        clear HD
        go_enter Try.func69, Try.ntmps69
        go_wp2_with (go_at_call 96; refine (C96.out _ (HBB.out _ _)).mono ?_; rintro e w3 ⟨rfl, hb3⟩)
        go_ret
        exact ⟨ret_int HR.out.symm, bstep (HBB.out _ _) hb3⟩
      · have HR : Hid (r = rp) := by show _ = _; rw [HD.out]; simp
        have C97' := hid (C97.out rfl rfl)
        clear HD C97
        go_enter Try.func69, Try.ntmps69
        go_wp2_with (go_at_call 97; refine (C97'.out _ (HBB.out _ _)).mono ?_; rintro e w3 ⟨rfl, hb3⟩)
        go_ret
        exact ⟨ret_int HR.out.symm, bstep (HBB.out _ _) hb3⟩
      · have HR : Hid (r = V.cI n n') := by show _ = _; rw [HD.out]; simp
        clear HD
        go_enter Try.func69, Try.ntmps69
        go_wp2_with (go_at_call 95; refine (compareI _ _ _).mono ?_; rintro e w' ⟨rfl, rfl⟩)
        go_ret
        exact ⟨ret_int HR.out.symm, HBB.out _ _⟩
      · have HR : Hid (r = 0) := by
          show _ = _
          simp only [beq_eq_false_iff_ne, ne_eq] at h1 h2 h3 h4 h5 h6
          rw [HD.out]; simp [h1, h2, h3, h4, h5, h6]
        clear HD
        go_enter Try.func69, Try.ntmps69
        go_wp2_with fail
        go_ret
        exact ⟨ret_int HR.out.symm, HBB.out _ _⟩
    · have hk2 : (k != k') = true := by simp [hk]
      have HR : Hid (r = V.cI k k') := by show _ = _; rw [HD.out, if_pos hk]
      clear HD hk
      go_enter Try.func69, Try.ntmps69
      go_wp2_with (go_at_call 95; refine (compareI _ _ _).mono ?_; rintro e w' ⟨rfl, rfl⟩)
      go_ret
      exact ⟨ret_int HR.out.symm, HBB.out _ _⟩

set_option maxRecDepth 100000 in
set_option maxHeartbeats 2000000 in
theorem order_any (v u : V) (a b : Value) (w : World) (S T : Nat → Prop) (hv : VA w S a v) (hu : VA w T b u) :
    Calls Try.prog 37 #[a, b] w fun e w' => e = .returned (.int .i64 (ord v u)) ∧ Below w.heap.size w w' := by
  have C1 : Hid (∀ W, Below w.heap.size w W → Calls Try.prog 64 #[a] W fun e w' => e = .returned (.bool (V.wf v)) ∧ Below W.heap.size W w') := fun W hW => wellFormed_any _ v a W S (Nat.le_refl _) (hv.below hW)
  have C2 : Hid (∀ W, Below w.heap.size w W → Calls Try.prog 64 #[b] W fun e w' => e = .returned (.bool (V.wf u)) ∧ Below W.heap.size W w') := fun W hW => wellFormed_any _ u b W T (Nat.le_refl _) (hu.below hW)
  have C3 : Hid (V.wf v = true → V.wf u = true → ∀ W, Below w.heap.size w W → Calls Try.prog 69 #[a, b] W fun e w' => e = .returned (.int .i64 (V.cmp v u)) ∧ Below W.heap.size W w') := fun h1 h2 W hW => cmp_any _ v u a b W S T (Nat.le_refl _) (hv.below hW) (hu.below hW) h1 h2
  have HD : Hid (ord v u = if V.wf v = true ∧ V.wf u = true then V.cmp v u else 0) := by show _ = _; rfl
  obtain ⟨k, n, s, l, ks⟩ := v
  obtain ⟨k', n', s', l', ks'⟩ := u
  obtain ⟨A, c, B, d, ics, rfl, ho, hl, hr, hvs, hk⟩ := hv.open_
  obtain ⟨A', c', B', d', ics', rfl, ho', hl', hr', hvs', hk'⟩ := hu.open_
  clear hv hu ho ho' hr hvs hk hr' hvs' hk'
  generalize ord (.mk k n s l ks) (.mk k' n' s' l' ks') = r at HD
  generalize V.cmp (.mk k n s l ks) (.mk k' n' s' l' ks') = z at HD C3
  generalize V.wf (.mk k n s l ks) = x1 at HD C1 C3
  generalize V.wf (.mk k' n' s' l' ks') = x2 at HD C2 C3
  cases x1
  · go_enter Try.func37, Try.ntmps37
    go_wp2_with (go_at_call 64; refine (C1.out _ (bstep (below_box _) (below_box _))).mono ?_; rintro e w3 ⟨rfl, hb3⟩)
    go_ret
    exact ⟨ret_int (by rw [HD.out]; simp), bstep (bstep (below_box _) (below_box _)) hb3⟩
  · cases x2
    · go_enter Try.func37, Try.ntmps37
      go_wp2_with fail
      refine (C1.out _ (bstep (below_box _) (below_box _))).mono ?_
      rintro e w3 ⟨rfl, hb3⟩
      have HBX := hid (Bx2.refl.step hb3)
      clear hb3
      obtain ⟨⟨p0, p1, p2, p3, p4⟩, ⟨r0, r1, r2, r3, r4⟩⟩ := HBX.out.cells
      go_wp2_with fail
      refine (C2.out _ HBX.out.below).mono ?_
      rintro e w4 ⟨rfl, hb4⟩
      have HBY := hid (HBX.out.step hb4)
      clear hb4 p0 p1 p2 p3 p4 r0 r1 r2 r3 r4
      go_wp2_with fail
      go_ret
      exact ⟨ret_int (by rw [HD.out]; simp), HBY.out.below⟩
    · have C3' := hid (C3.out rfl rfl)
      go_enter Try.func37, Try.ntmps37
      go_wp2_with fail
      refine (C1.out _ (bstep (below_box _) (below_box _))).mono ?_
      rintro e w3 ⟨rfl, hb3⟩
      have HBX := hid (Bx2.refl.step hb3)
      clear hb3
      obtain ⟨⟨p0, p1, p2, p3, p4⟩, ⟨r0, r1, r2, r3, r4⟩⟩ := HBX.out.cells
      go_wp2_with fail
      refine (C2.out _ HBX.out.below).mono ?_
      rintro e w4 ⟨rfl, hb4⟩
      have HBY := hid (HBX.out.step hb4)
      clear hb4 p0 p1 p2 p3 p4 r0 r1 r2 r3 r4
      obtain ⟨⟨p0, p1, p2, p3, p4⟩, ⟨r0, r1, r2, r3, r4⟩⟩ := HBY.out.cells
      go_wp2_with fail
      refine (C3'.out _ HBY.out.below).mono ?_
      rintro e w5 ⟨rfl, hb5⟩
      go_wp2_with fail
      go_ret
      exact ⟨ret_int (by rw [HD.out]; simp), bstep HBY.out.below hb5⟩
end Go.Proofs.Ytpoofeiajmkfdaa
