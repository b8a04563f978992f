/-
  compare and Order of the reference: contracts.
-/
import Derived.Test.YtpoofeiajmkfdaaVCmp
namespace Go.Proofs.Ytpoofeiajmkfdaa
open Go.RowKit

theorem quiet_add_left {P : Program} {f : FuncId} {args : Array Value} {w : World} {a n : Nat} {v : Value}
    (h : Calls P f args (w.drewN (a + n)) fun e w' => e = .returned v ∧ w.drewN (a + n) = w') :
    Calls P f args (w.drewN (a + n)) fun e w'' => e = .returned v ∧ ∃ m, w'' = w.drewN (a + m) :=
  h.mono fun _ _ ⟨he, hm⟩ => ⟨he, n, hm.symm⟩
theorem quiet_left {P : Program} {f : FuncId} {args : Array Value} {w : World} {n : Nat} {v : Value}
    (h : Calls P f args (w.drewN n) fun e w' => e = .returned v ∧ w.drewN n = w') : Calls P f args (w.drewN n) fun e w'' => e = .returned v ∧ ∃ m, w'' = w.drewN m :=
  h.mono fun _ _ ⟨he, hm⟩ => ⟨he, n, hm.symm⟩

set_option maxRecDepth 100000 in
set_option maxHeartbeats 4000000 in
theorem rcmp_any (m : Nat) : ∀ (v u : V) (a b : Value) (w : World) (S T : Nat → Prop), V.size v ≤ m → VA w S a v → VA w T b u → V.wf v = true → V.wf u = true →
    Calls Try.prog 70 #[a, b] w fun e w' => e = .returned (.int .i64 (V.cmp v u)) ∧ Below w.heap.size w w' := by
  induction m with
  | zero => intro v u a b w S T h; have := V.size_pos v; omega
  | succ m ih =>
    intro v u a b w S T hm hv hu hwv hwu
    match v, u with
    | .mk k n s l ks, .mk k' n' s' l' ks' =>
    obtain ⟨A, c, B, d, ics, rfl, ho, hl, hr, hvs, hk⟩ := hv.open_
    obtain ⟨A', c', B', d', ics', rfl, ho', hl', hr', hvs', hk'⟩ := hu.open_
    have HALT := hid (V.cmp_alt hwv hwu)
    by_cases hall : k = k' ∧ n = n' ∧ s = s'
    · obtain ⟨rfl, rfl, rfl⟩ := hall
      have HD : Hid (V.cmp (.mk k n s l ks) (.mk k n s l' ks') = rest k l ks l' ks' 0) := by
        show _ = _
        rw [HALT.out]
        unfold rest restP restL
        simp only [ne_eq, not_true_eq_false, if_false, List.drop_zero]
      have HIV := hid (V.wf_items hwv)
      have HIU := hid (V.wf_items hwu)
      have HLK : Hid (k = 5 → l.length = ks.length ∧ l'.length = ks'.length) := fun h => ⟨V.len_of_wf hwv h, V.len_of_wf hwu h⟩
      have HR := hid hr
      have HV := hid hvs
      have HK := hid hk
      have HR' := hid hr'
      have HV' := hid hvs'
      have HK' := hid hk'
      have HM : Hid (∀ u ∈ l, V.size u ≤ m) := fun u hu => by
        have := V.size_mem hu
        rw [V.size_mk] at hm
        omega
      have IH := hid ih
      clear hv hu ho ho' hr hvs hk hr' hvs' hk' hm ih HALT hwv hwu
      by_cases hk5 : k = 5
      · have HK5 := hid hk5
        subst hk5
        generalize V.cmp (.mk _ n s l ks) (.mk _ n s l' ks') = r at HD
        go_enter Try.func70, Try.ntmps70
        go_wp2_with fail
        go_loopw [5] (fun v5 wr => ∃ i : Nat, i ≤ l.length ∧ i ≤ l'.length ∧ v5 = .int .i64 (i : Int) ∧ Hid (r = rest 5 l ks l' ks' i) ∧ Bx2 w #[.int .i64 5, .int .i64 n, .string s, .slice A l.length c, .slice B ks.length d] #[.int .i64 5, .int .i64 n, .string s, .slice A' l'.length c', .slice B' ks'.length d'] wr) (fun v5 _ => l.length - (intOf v5).toNat)
        case atStart => exact ⟨0, Nat.zero_le _, Nat.zero_le _, rfl, HD.out, Bx2.refl⟩
        case round =>
          clear HD
          obtain ⟨i, hi, hi', rfl, hres, hbx⟩ := hrel
          have HBX := hid hbx
          obtain ⟨⟨p0, p1, p2, p3, p4⟩, ⟨r0, r1, r2, r3, r4⟩⟩ := hbx.cells
          clear hbx p1 p2 r0 r1 r2
          by_cases hlt : i < l.length ∧ i < l'.length
          · obtain ⟨h1, h2⟩ := hlt
            obtain ⟨hlk, hlk'⟩ := HLK.out HK5.out
            have g1 : i < ks.length := by omega
            have g2 : i < ks'.length := by omega
            clear hlk hlk'
            obtain ⟨x1, x2, x3, he, hq⟩ := keys_all (HK.out.below HBX.out.below (by omega)) (by omega)
            injection he with he1 he2 he3
            subst he1
            have q0 := hq i g1
            obtain ⟨y1, y2, y3, he', hq'⟩ := keys_all (HK'.out.below HBX.out.below (by omega)) (by omega)
            injection he' with he1' he2' he3'
            subst he1'
            have q0' := hq' i g2
            clear he2 he3 hq he2' he3' hq'
            by_cases hx : ks[i] = ks'[i]
            · have HC := hid (rest_cmp h1 h2 (k := 5) (ks := ks) (ks' := ks') (fun _ => ⟨g1, g2, hx⟩))
              rw [← hx] at q0'
              clear hx
              generalize ks[i] = xx at q0 q0'
              go_wp2_with fail
              go_quiet (fail)
              have HBQ := hid (HBX.out.drewN nq)
              generalize wr.drewN nq = wq at HBQ ⊢
              clear HBX p0 p3 p4 r3 r4
              obtain ⟨⟨p0, p1, p2, p3, p4⟩, ⟨r0, r1, r2, r3, r4⟩⟩ := HBQ.out.cells
              clear p0 p1 p2 p4 r0 r1 r2 r4
              obtain ⟨b1, o1, z1, k1, n1, s1, A1, m1, c1, A2, m2, c2, he, q0, q1, q2, q3, q4, hva⟩ := items_at (HR.out.below HBQ.out.below (by omega)) (HV.out.below HBQ.out.below) i h1
              injection he with he1 he2 he3
              subst he1
              obtain ⟨b3, o3, z3, k3, n3, s3, A3, m3, c3, A4, m4, c4, he', t0, t1, t2, t3, t4, hva'⟩ := items_at (HR'.out.below HBQ.out.below (by omega)) (HV'.out.below HBQ.out.below) i h2
              injection he' with he1' he2' he3'
              subst he1'
              clear he2 he3 he2' he3'
              have HVA := hid hva
              have HVA' := hid hva'
              have HM1 := hid (HM.out l[i] (List.getElem_mem h1))
              clear hva hva'
              have C : Hid (∀ e f, VA wq S e l[i] → VA wq T f l'[i] → Calls Try.prog 70 #[e, f] wq.drew fun e w' => e = .returned (.int .i64 (V.cmp l[i] l'[i])) ∧ Below wq.drew.heap.size wq.drew w') := fun e f he hf =>
                IH.out _ _ _ _ _ S T HM1.out he.drew hf.drew (HIV.out _ (List.getElem_mem h1)) (HIU.out _ (List.getElem_mem h2))
              have HBY := hid (HBQ.out.drewN 1)
              generalize V.cmp l[i] l'[i] = x at C HC
              by_cases hx0 : x = 0
              · subst hx0
                go_wp2_with fail
                go_still_tail 10, (by kernel_rfl)
                change wpList _ _ _ _ _ wq.drew
                change Hid (Bx2 w _ _ wq.drew) at HBY
                generalize wq.drew = w2 at C HBY
                go_wp2_with (go_at_call 70; refine (C.out _ _ HVA.out HVA'.out).mono ?_; rintro e w3 ⟨rfl, hb3⟩)
                go_roundw
                case rel => exact ⟨i + 1, by omega, by omega, by go_num, (show r = _ by rw [hres.out, HC.out]; simp), HBY.out.step hb3⟩
                case measure => simp [intOf]; omega
              · have hx1 : (x != 0) = true := by simp [hx0]
                have HX := hid hx0
                clear hx0
                go_wp2_with fail
                go_still_tail 10, (by kernel_rfl)
                change wpList _ _ _ _ _ wq.drew
                change Hid (Bx2 w _ _ wq.drew) at HBY
                generalize wq.drew = w2 at C HBY
                go_wp2_with (go_at_call 70; refine (C.out _ _ HVA.out HVA'.out).mono ?_; rintro e w3 ⟨rfl, hb3⟩)
                go_ret
                exact ⟨ret_int (by rw [hres.out, HC.out, if_pos HX.out]), bstep HBY.out.below hb3⟩
            · have HC := hid (rest_key (k := 5) rfl h1 h2 g1 g2 hx)
              generalize ks[i] = xx at q0 hx HC
              generalize ks'[i] = yy at q0' hx HC
              have hx1 : ¬ xx.toList = yy.toList := fun h => hx (ba_ext h)
              have hx2 : (xx.toList == yy.toList) = false := by simp [hx1]
              have hx3 : (xx.toList != yy.toList) = true := by simp [hx1]
              clear hx
              go_wp2_with fail
              go_quiet (fail)
              go_wp2_with fail
              cases hz : V.lt xx yy
              · have hz' : Op.bytesLess xx.toList yy.toList = false := hz
                have HZ := hid hz
                clear hz
                go_quiet ((go_at_call 98; exact quiet_add_left (sign_f _)))
                go_wp2_with fail
                go_ret
                exact ⟨ret_int (by rw [hres.out, HC.out, HZ.out]; rfl), by first | exact below_drewN HBX.out.below _ | exact below_drewN (below_drewN HBX.out.below _) _⟩
              · have hz' : Op.bytesLess xx.toList yy.toList = true := hz
                have HZ := hid hz
                clear hz
                go_quiet ((go_at_call 98; exact quiet_add_left (sign_t _ _)))
                go_wp2_with fail
                go_ret
                exact ⟨ret_int (by rw [hres.out, HC.out, HZ.out]; rfl), by first | exact below_drewN HBX.out.below _ | exact below_drewN (below_drewN HBX.out.below _) _⟩
          · have HC := hid (rest_end (k := 5) (ks := ks) (ks' := ks') hi hi' hlt)
            have HH := hid hlt
            clear hlt
            by_cases hc1 : l.length < l'.length
            · have d1 : decide ((l.length : Int) < (l'.length : Int)) = true := by simp [hc1]
              have hxx : ¬ i < l.length := by have := HH.out; omega
              go_wp2_with (go_at_call 98; refine (sign_t _ _).mono ?_; rintro e w' ⟨rfl, rfl⟩)
              go_ret
              exact ⟨ret_int (by rw [hres.out, HC.out]; simp [hc1]), HBX.out.below⟩
            · have d1 : decide ((l.length : Int) < (l'.length : Int)) = false := by simp; omega
              by_cases hc2 : l'.length < l.length
              · have d2 : decide ((l'.length : Int) < (l.length : Int)) = true := by simp [hc2]
                have hxx : ¬ i < l'.length := by have := HH.out; omega
                have hxy : i < l.length := by omega
                go_wp2_with (go_at_call 98; refine (sign_f _).mono ?_; rintro e w' ⟨rfl, rfl⟩)
                go_ret
                exact ⟨ret_int (by rw [hres.out, HC.out, if_neg (by omega), if_pos (by omega)]), HBX.out.below⟩
              · have d2 : decide ((l'.length : Int) < (l.length : Int)) = false := by simp; omega
                have hxx : ¬ i < l.length := by have := HH.out; omega
                go_wp2_with (go_at_call 98; refine (sign_z _).mono ?_; rintro e w' ⟨rfl, rfl⟩)
                go_ret
                exact ⟨ret_int (by rw [hres.out, HC.out, if_neg (by omega), if_neg (by omega)]), HBX.out.below⟩
      · have HK5 := hid hk5
        have hk5' : (k == 5) = false := by simp [hk5]
        clear hk5
        generalize V.cmp (.mk _ n s l ks) (.mk _ n s l' ks') = r at HD
        go_enter Try.func70, Try.ntmps70
        go_wp2_with fail
        go_loopw [5] (fun v5 wr => ∃ i : Nat, i ≤ l.length ∧ i ≤ l'.length ∧ v5 = .int .i64 (i : Int) ∧ Hid (r = rest k l ks l' ks' i) ∧ Bx2 w #[.int .i64 k, .int .i64 n, .string s, .slice A l.length c, .slice B ks.length d] #[.int .i64 k, .int .i64 n, .string s, .slice A' l'.length c', .slice B' ks'.length d'] wr) (fun v5 _ => l.length - (intOf v5).toNat)
        case atStart => exact ⟨0, Nat.zero_le _, Nat.zero_le _, rfl, HD.out, Bx2.refl⟩
        case round =>
          clear HD
          obtain ⟨i, hi, hi', rfl, hres, hbx⟩ := hrel
          have HBX := hid hbx
          obtain ⟨⟨p0, p1, p2, p3, p4⟩, ⟨r0, r1, r2, r3, r4⟩⟩ := hbx.cells
          clear hbx p1 p2 r0 r1 r2
          by_cases hlt : i < l.length ∧ i < l'.length
          · obtain ⟨h1, h2⟩ := hlt
            have HC := hid (rest_cmp h1 h2 (k := k) (ks := ks) (ks' := ks') (fun e => absurd e HK5.out))
            go_wp2_with fail
            go_quiet (fail)
            have HBQ := hid (HBX.out.drewN nq)
            generalize wr.drewN nq = wq at HBQ ⊢
            clear HBX p0 p3 p4 r3 r4
            obtain ⟨⟨p0, p1, p2, p3, p4⟩, ⟨r0, r1, r2, r3, r4⟩⟩ := HBQ.out.cells
            clear p0 p1 p2 p4 r0 r1 r2 r4
            obtain ⟨b1, o1, z1, k1, n1, s1, A1, m1, c1, A2, m2, c2, he, q0, q1, q2, q3, q4, hva⟩ := items_at (HR.out.below HBQ.out.below (by omega)) (HV.out.below HBQ.out.below) i h1
            injection he with he1 he2 he3
            subst he1
            obtain ⟨b3, o3, z3, k3, n3, s3, A3, m3, c3, A4, m4, c4, he', t0, t1, t2, t3, t4, hva'⟩ := items_at (HR'.out.below HBQ.out.below (by omega)) (HV'.out.below HBQ.out.below) i h2
            injection he' with he1' he2' he3'
            subst he1'
            clear he2 he3 he2' he3'
            have HVA := hid hva
            have HVA' := hid hva'
            have HM1 := hid (HM.out l[i] (List.getElem_mem h1))
            clear hva hva'
            have C : Hid (∀ e f, VA wq S e l[i] → VA wq T f l'[i] → Calls Try.prog 70 #[e, f] wq.drew fun e w' => e = .returned (.int .i64 (V.cmp l[i] l'[i])) ∧ Below wq.drew.heap.size wq.drew w') := fun e f he hf =>
              IH.out _ _ _ _ _ S T HM1.out he.drew hf.drew (HIV.out _ (List.getElem_mem h1)) (HIU.out _ (List.getElem_mem h2))
            have HBY := hid (HBQ.out.drewN 1)
            generalize V.cmp l[i] l'[i] = x at C HC
            by_cases hx0 : x = 0
            · subst hx0
              go_wp2_with fail
              go_still_tail 10, (by kernel_rfl)
              change wpList _ _ _ _ _ wq.drew
              change Hid (Bx2 w _ _ wq.drew) at HBY
              generalize wq.drew = w2 at C HBY
              go_wp2_with (go_at_call 70; refine (C.out _ _ HVA.out HVA'.out).mono ?_; rintro e w3 ⟨rfl, hb3⟩)
              go_roundw
              case rel => exact ⟨i + 1, by omega, by omega, by go_num, (show r = _ by rw [hres.out, HC.out]; simp), HBY.out.step hb3⟩
              case measure => simp [intOf]; omega
            · have hx1 : (x != 0) = true := by simp [hx0]
              have HX := hid hx0
              clear hx0
              go_wp2_with fail
              go_still_tail 10, (by kernel_rfl)
              change wpList _ _ _ _ _ wq.drew
              change Hid (Bx2 w _ _ wq.drew) at HBY
              generalize wq.drew = w2 at C HBY
              go_wp2_with (go_at_call 70; refine (C.out _ _ HVA.out HVA'.out).mono ?_; rintro e w3 ⟨rfl, hb3⟩)
              go_ret
              exact ⟨ret_int (by rw [hres.out, HC.out, if_pos HX.out]), bstep HBY.out.below hb3⟩
          · have HC := hid (rest_end (k := k) (ks := ks) (ks' := ks') hi hi' hlt)
            have HH := hid hlt
            clear hlt
            by_cases hc1 : l.length < l'.length
            · have d1 : decide ((l.length : Int) < (l'.length : Int)) = true := by simp [hc1]
              have hxx : ¬ i < l.length := by have := HH.out; omega
              go_wp2_with (go_at_call 98; refine (sign_t _ _).mono ?_; rintro e w' ⟨rfl, rfl⟩)
              go_ret
              exact ⟨ret_int (by rw [hres.out, HC.out]; simp [hc1]), HBX.out.below⟩
            · have d1 : decide ((l.length : Int) < (l'.length : Int)) = false := by simp; omega
              by_cases hc2 : l'.length < l.length
              · have d2 : decide ((l'.length : Int) < (l.length : Int)) = true := by simp [hc2]
                have hxx : ¬ i < l'.length := by have := HH.out; omega
                have hxy : i < l.length := by omega
                go_wp2_with (go_at_call 98; refine (sign_f _).mono ?_; rintro e w' ⟨rfl, rfl⟩)
                go_ret
                exact ⟨ret_int (by rw [hres.out, HC.out, if_neg (by omega), if_pos (by omega)]), HBX.out.below⟩
              · have d2 : decide ((l'.length : Int) < (l.length : Int)) = false := by simp; omega
                have hxx : ¬ i < l.length := by have := HH.out; omega
                go_wp2_with (go_at_call 98; refine (sign_z _).mono ?_; rintro e w' ⟨rfl, rfl⟩)
                go_ret
                exact ⟨ret_int (by rw [hres.out, HC.out, if_neg (by omega), if_neg (by omega)]), HBX.out.below⟩
    · have e1 : V.cmp (.mk k n s l ks) (.mk k' n' s' l' ks') = early k n k' n' s s' := by
        rw [HALT.out]
        unfold early
        split
        · rfl
        · split
          · rfl
          · rw [if_pos (fun e => hall ⟨by omega, by omega, e⟩)]
      rw [e1]
      exact rcmp_early k n k' n' s s' A B A' B' c d c' d' l.length ks.length l'.length ks'.length w hall

/-- Order, of either side. -/
def ord (v u : V) : Int := if V.wf v = true ∧ V.wf u = true then V.cmp v u else 0

set_option maxRecDepth 100000 in
set_option maxHeartbeats 2000000 in
theorem rorder_any (v u : V) (a b : Value) (w : World) (S T : Nat → Prop) (hv : VA w S a v) (hu : VA w T b u) :
    Calls Try.prog 38 #[a, b] w fun e w' => e = .returned (.int .i64 (ord v u)) ∧ Below w.heap.size w w' := by
  have C1 : Hid (∀ W, Below w.heap.size w W → Calls Try.prog 39 #[a] W fun e w' => e = .returned (.bool (V.wf v)) ∧ Below W.heap.size W w') := fun W hW => rwf_any _ v a W S (Nat.le_refl _) (hv.below hW)
  have C2 : Hid (∀ W, Below w.heap.size w W → Calls Try.prog 39 #[b] W fun e w' => e = .returned (.bool (V.wf u)) ∧ Below W.heap.size W w') := fun W hW => rwf_any _ u b W T (Nat.le_refl _) (hu.below hW)
  have C3 : Hid (V.wf v = true → V.wf u = true → ∀ W, Below w.heap.size w W → Calls Try.prog 70 #[a, b] W fun e w' => e = .returned (.int .i64 (V.cmp v u)) ∧ Below W.heap.size W w') := fun h1 h2 W hW => rcmp_any _ v u a b W S T (Nat.le_refl _) (hv.below hW) (hu.below hW) h1 h2
  have HD : Hid (ord v u = if V.wf v = true ∧ V.wf u = true then V.cmp v u else 0) := by show _ = _; rfl
  obtain ⟨k, n, s, l, ks⟩ := v
  obtain ⟨k', n', s', l', ks'⟩ := u
  obtain ⟨A, c, B, d, ics, rfl, ho, hl, hr, hvs, hk⟩ := hv.open_
  obtain ⟨A', c', B', d', ics', rfl, ho', hl', hr', hvs', hk'⟩ := hu.open_
  clear hv hu ho ho' hr hvs hk hr' hvs' hk'
  generalize ord (.mk k n s l ks) (.mk k' n' s' l' ks') = r at HD
  generalize V.cmp (.mk k n s l ks) (.mk k' n' s' l' ks') = z at HD C3
  generalize V.wf (.mk k n s l ks) = x1 at HD C1 C3
  generalize V.wf (.mk k' n' s' l' ks') = x2 at HD C2 C3
  cases x1
  · go_enter Try.func38, Try.ntmps38
    go_wp2_with (go_at_call 39; refine (C1.out _ (bstep (below_box _) (below_box _))).mono ?_; rintro e w3 ⟨rfl, hb3⟩)
    go_ret
    exact ⟨ret_int (by rw [HD.out]; simp), bstep (bstep (below_box _) (below_box _)) hb3⟩
  · cases x2
    · go_enter Try.func38, Try.ntmps38
      go_wp2_with fail
      refine (C1.out _ (bstep (below_box _) (below_box _))).mono ?_
      rintro e w3 ⟨rfl, hb3⟩
      have HBX := hid (Bx2.refl.step hb3)
      clear hb3
      obtain ⟨⟨p0, p1, p2, p3, p4⟩, ⟨r0, r1, r2, r3, r4⟩⟩ := HBX.out.cells
      go_wp2_with fail
      refine (C2.out _ HBX.out.below).mono ?_
      rintro e w4 ⟨rfl, hb4⟩
      have HBY := hid (HBX.out.step hb4)
      clear hb4 p0 p1 p2 p3 p4 r0 r1 r2 r3 r4
      go_wp2_with fail
      go_ret
      exact ⟨ret_int (by rw [HD.out]; simp), HBY.out.below⟩
    · have C3' := hid (C3.out rfl rfl)
      go_enter Try.func38, Try.ntmps38
      go_wp2_with fail
      refine (C1.out _ (bstep (below_box _) (below_box _))).mono ?_
      rintro e w3 ⟨rfl, hb3⟩
      have HBX := hid (Bx2.refl.step hb3)
      clear hb3
      obtain ⟨⟨p0, p1, p2, p3, p4⟩, ⟨r0, r1, r2, r3, r4⟩⟩ := HBX.out.cells
      go_wp2_with fail
      refine (C2.out _ HBX.out.below).mono ?_
      rintro e w4 ⟨rfl, hb4⟩
      have HBY := hid (HBX.out.step hb4)
      clear hb4 p0 p1 p2 p3 p4 r0 r1 r2 r3 r4
      obtain ⟨⟨p0, p1, p2, p3, p4⟩, ⟨r0, r1, r2, r3, r4⟩⟩ := HBY.out.cells
      go_wp2_with fail
      refine (C3'.out _ HBY.out.below).mono ?_
      rintro e w5 ⟨rfl, hb5⟩
      go_wp2_with fail
      go_ret
      exact ⟨ret_int (by rw [HD.out]; simp), bstep HBY.out.below hb5⟩
end Go.Proofs.Ytpoofeiajmkfdaa
