/-
  Same of the program, with slices.Equal and slices.EqualFunc: contracts.
-/
import Derived.Test.YtpoofeiajmkfdaaVSame
import Derived.Shelf.Abstract
namespace Go.Proofs.Ytpoofeiajmkfdaa
open Go.RowKit

set_option maxRecDepth 100000 in
set_option maxHeartbeats 1000000 in
theorem equalS (ks ks' : List ByteArray) (kv kv' : Value) (w : World) (S T : Nat → Prop) (hl : ks.length ≤ 9223372036854775807) (hl' : ks'.length ≤ 9223372036854775807)
    (hr : RdN w S 1 kv ks.length (ks.map Value.string)) (hr' : RdN w T 1 kv' ks'.length (ks'.map Value.string)) :
    Calls Try.prog 67 #[kv, kv'] w fun e w' => e = .returned (.bool (decide (ks = ks'))) ∧ Below w.heap.size w w' := by
  have HK := hid hr
  have HK' := hid hr'
  obtain ⟨A, c, rfl, _, _⟩ := hr.form
  obtain ⟨A', c', rfl, _, _⟩ := hr'.form
  have HD : Hid (decide (ks = ks') = true ↔ ks = ks') := by show _ ↔ _; simp
  clear hr hr'
  generalize decide (ks = ks') = dd at HD
  by_cases hkk : ks.length = ks'.length
  · have HKK := hid hkk
    have hb2 : ((ks.length : Int) != (ks'.length : Int)) = false := by simp [hkk]
    clear hkk
    go_enter Try.func67, Try.ntmps67
    go_wp2_with fail
    go_loopw [13] (fun v13 wr => ∃ i : Nat, i ≤ ks.length ∧ v13 = .int .i64 (i : Int) ∧ Hid (ks.take i = ks'.take i) ∧ Below w.heap.size w wr) (fun v13 _ => ks.length - (intOf v13).toNat)
    case atStart => exact ⟨0, Nat.zero_le _, rfl, rfl, Below.refl _ _⟩
    case round =>
      obtain ⟨i, hi, rfl, htk, hb⟩ := hrel
      by_cases hlt : i < ks.length
      · obtain ⟨x1, x2, x3, he, hq⟩ := keys_all (HK.out.below hb (by omega)) (by omega)
        injection he with he1 he2 he3
        subst he1
        have q0 := hq i hlt
        have hlt' : i < ks'.length := by have := HKK.out; omega
        obtain ⟨y1, y2, y3, he', hq'⟩ := keys_all (HK'.out.below hb (by omega)) (by omega)
        injection he' with he1' he2' he3'
        subst he1'
        have q0' := hq' i hlt'
        clear he2 he3 hq he2' he3' hq'
        by_cases hx : ks[i] = ks'[i]
        · have HT := hid (take_eq htk.out hlt hlt' hx)
          rw [← hx] at q0'
          clear hx
          generalize ks[i] = xx at q0 q0'
          go_wp2_with fail
          go_quiet (fail)
          go_wp2_with fail
          go_roundw
          case rel => exact ⟨i + 1, by omega, by go_num, HT.out, below_drewN hb _⟩
          case measure => simp [intOf]; omega
        · have HNE := hid (ne_at hlt hlt' hx)
          generalize ks[i] = xx at q0 hx
          generalize ks'[i] = yy at q0' hx
          have hx1 : ¬ xx.toList = yy.toList := fun h => hx (ba_ext h)
          have hx2 : (xx.toList == yy.toList) = false := by simp [hx1]
          have hx3 : (xx.toList != yy.toList) = true := by simp [hx1]
          clear hx
          go_wp2_with fail
          go_quiet (fail)
          go_wp2_with fail
          go_ret
          refine ⟨ret_bool ?_, below_drewN hb _⟩
          cases dd
          · rfl
          · exact absurd (HD.out.1 rfl) HNE.out
      · have HKE := hid (take_end htk.out HKK.out hlt)
        go_wp2_with fail
        go_ret
        exact ⟨ret_bool (HD.out.2 HKE.out).symm, hb⟩
  · have hb2 : ((ks.length : Int) != (ks'.length : Int)) = true := by simp; omega
    have HNE : Hid (ks ≠ ks') := fun e => hkk (by rw [e])
    clear hkk
    go_enter Try.func67, Try.ntmps67
    go_wp2_with fail
    go_ret
    refine ⟨ret_bool ?_, Below.refl _ _⟩
    cases dd
    · rfl
    · exact absurd (HD.out.1 rfl) HNE.out

theorem alloc_cell {w : World} {p : Addr} {u : Value} (h : w.cell? p = some u) : ∀ o, (w.alloc o).cell? p = some u :=
  fun o => (World.cell?_alloc_lt w o p (World.block_lt_of_cell? w p h)).trans h

theorem eg32 : ∀ args w, (callFunc 32 args).run Try.prog w = .ok (.enter 32 args) w := enters_of Try.func32 (by kernel_rfl) rfl

/-- EqualFunc at Same: the items' contracts come in. -/
def SameOf (l : List V) : Prop := ∀ v ∈ l, ∀ (u : V) (a b : Value) (W : World) (S T : Nat → Prop), VA W S a v → VA W T b u → Calls Try.prog 32 #[a, b] W fun e w' => e = .returned (.bool (V.same v u)) ∧ Below W.heap.size W w'

set_option maxRecDepth 100000 in
set_option maxHeartbeats 1000000 in
theorem equalFuncV (l l' : List V) (H : SameOf l) (iv iv' : Value) (ics ics' : List Value) (w : World) (S T : Nat → Prop) (_hl : l.length ≤ 9223372036854775807) (_hl' : l'.length ≤ 9223372036854775807)
    (hr : RdN w S 5 iv l.length ics) (hvs : VsC w S l ics) (hr' : RdN w T 5 iv' l'.length ics') (hvs' : VsC w T l' ics') :
    Calls Try.prog 68 #[iv, iv', .func (.func 32) #[] #[]] w fun e w' => e = .returned (.bool (V.sameL l l')) ∧ Below w.heap.size w w' := by
  have HH := hid H
  have HR := hid hr
  have HV := hid hvs
  have HR' := hid hr'
  have HV' := hid hvs'
  obtain ⟨A, c, rfl, _, _⟩ := hr.form
  obtain ⟨A', c', rfl, _, _⟩ := hr'.form
  have eg := eg32
  have HD : Hid (V.sameL l l' = true ↔ l = l') := V.sameL_iff (fun v _ u => V.same_iff v u) l'
  clear hr hr' hvs hvs' H
  generalize V.sameL l l' = dd at HD
  by_cases hll : l.length = l'.length
  · have HLL := hid hll
    have hb2 : ((l.length : Int) != (l'.length : Int)) = false := by simp [hll]
    clear hll
    go_enter Try.func68, Try.ntmps68
    go_wp2_with fail
    go_loopw [17] (fun v17 wr => ∃ i : Nat, i ≤ l.length ∧ v17 = .int .i64 (i : Int) ∧ Hid (l.take i = l'.take i) ∧ Below w.heap.size w wr) (fun v17 _ => l.length - (intOf v17).toNat)
    case atStart => exact ⟨0, Nat.zero_le _, rfl, rfl, Below.refl _ _⟩
    case round =>
      obtain ⟨j, hj, rfl, htk, hb⟩ := hrel
      by_cases hlj : j < l.length
      · have hlj' : j < l'.length := by have := HLL.out; omega
        obtain ⟨b1, o1, z1, k1, n1, s1, A1, m1, c1, A2, m2, c2, he, q0, q1, q2, q3, q4, hva⟩ := items_at (HR.out.below hb (by omega)) (HV.out.below hb) j hlj
        injection he with he1 he2 he3
        subst he1
        obtain ⟨b3, o3, z3, k3, n3, s3, A3, m3, c3, A4, m4, c4, he', t0, t1, t2, t3, t4, hva'⟩ := items_at (HR'.out.below hb (by omega)) (HV'.out.below hb) j hlj'
        injection he' with he1' he2' he3'
        subst he1'
        clear he2 he3 he2' he3'
        have HVA := hid hva
        have HVA' := hid hva'
        clear hva hva'
        have t0' := alloc_cell t0
        have t1' := alloc_cell t1
        have t2' := alloc_cell t2
        have t3' := alloc_cell t3
        have t4' := alloc_cell t4
        clear t0 t1 t2 t3 t4
        have C : Hid (∀ W, Below wr.heap.size wr W → Calls Try.prog 32 #[.agg #[.int .i64 k1, .int .i64 n1, .string s1, .slice A1 m1 c1, .slice A2 m2 c2], .agg #[.int .i64 k3, .int .i64 n3, .string s3, .slice A3 m3 c3, .slice A4 m4 c4]] W fun e w' => e = .returned (.bool (V.same l[j] l'[j])) ∧ Below W.heap.size W w') := fun W hW =>
          HH.out l[j] (List.getElem_mem hlj) _ _ _ W S T (HVA.out.below hW) (HVA'.out.below hW)
        cases hx : V.same l[j] l'[j]
        · have HX := hid hx
          have HNE : Hid (l ≠ l') := ne_at hlj hlj' (fun e => by rw [e, V.same_self] at hx; cases hx)
          clear hx
          go_wp2_with fail
          refine (callb HX.out (C.out _ (bstep (below_box _) (below_box _)))).mono ?_
          rintro e w3 ⟨rfl, hb3⟩
          go_wp2_with fail
          go_ret
          refine ⟨ret_bool ?_, bstep hb (bstep (bstep (below_box _) (below_box _)) hb3)⟩
          cases dd
          · rfl
          · exact absurd (HD.out.1 rfl) HNE.out
        · have HX := hid hx
          have HT := hid (take_eq htk.out hlj hlj' ((V.same_iff _ _).1 hx))
          clear hx
          go_wp2_with fail
          refine (callb HX.out (C.out _ (bstep (below_box _) (below_box _)))).mono ?_
          rintro e w3 ⟨rfl, hb3⟩
          go_wp2_with fail
          go_roundw
          case rel => exact ⟨j + 1, by omega, by go_num, HT.out, bstep hb (bstep (bstep (below_box _) (below_box _)) hb3)⟩
          case measure => simp [intOf]; omega
      · have HLE := hid (take_end htk.out HLL.out hlj)
        go_wp2_with fail
        go_ret
        exact ⟨ret_bool (HD.out.2 HLE.out).symm, hb⟩
  · have hb2 : ((l.length : Int) != (l'.length : Int)) = true := by simp; omega
    have HNE : Hid (l ≠ l') := fun e => hll (by rw [e])
    clear hll
    go_enter Try.func68, Try.ntmps68
    go_wp2_with fail
    go_ret
    refine ⟨ret_bool ?_, Below.refl _ _⟩
    cases dd
    · rfl
    · exact absurd (HD.out.1 rfl) HNE.out

set_option maxRecDepth 100000 in
set_option maxHeartbeats 2000000 in
theorem same_any (m : Nat) : ∀ (v u : V) (a b : Value) (w : World) (S T : Nat → Prop), V.size v ≤ m → VA w S a v → VA w T b u →
    Calls Try.prog 32 #[a, b] w fun e w' => e = .returned (.bool (V.same v u)) ∧ Below w.heap.size w w' := by
  induction m with
  | zero => intro v u a b w S T h; have := V.size_pos v; omega
  | succ m ih =>
    intro v u a b w S T hm hv hu
    match v, u with
    | .mk k n s l ks, .mk k' n' s' l' ks' =>
    obtain ⟨A, c, B, d, ics, rfl, ho, hl, hr, hvs, hk⟩ := hv.open_
    obtain ⟨A', c', B', d', ics', rfl, ho', hl', hr', hvs', hk'⟩ := hu.open_
    have hks : ks.length * 16 ≤ 140737488351232 := ho.2.2.2.2.2.2
    have hks' : ks'.length * 16 ≤ 140737488351232 := ho'.2.2.2.2.2.2
    have HD := hid (V.same_mk k n s l ks k' n' s' l' ks')
    have C67 : Hid (∀ W, Below w.heap.size w W → Calls Try.prog 67 #[.slice B ks.length d, .slice B' ks'.length d'] W fun e w' => e = .returned (.bool (decide (ks = ks'))) ∧ Below W.heap.size W w') := fun W hW =>
      equalS ks ks' _ _ W S T (by omega) (by omega) (hk.below hW (by omega)) (hk'.below hW (by omega))
    have C68 : Hid (∀ W, Below w.heap.size w W → Calls Try.prog 68 #[.slice A l.length c, .slice A' l'.length c', .func (.func 32) #[] #[]] W fun e w' => e = .returned (.bool (V.sameL l l')) ∧ Below W.heap.size W w') := fun W hW =>
      equalFuncV l l' (fun x hx y a b W S T h1 h2 => ih x y a b W S T (by have := V.size_mem hx; rw [V.size_mk] at hm; omega) h1 h2) _ _ ics ics' W S T hl hl' (hr.below hW (by omega)) (hvs.below hW) (hr'.below hW (by omega)) (hvs'.below hW)
    clear hv hu ho ho' hr hvs hk hr' hvs' hk' hm ih hks hks'
    generalize V.same (.mk k n s l ks) (.mk k' n' s' l' ks') = dd at HD
    by_cases hall : k = k' ∧ n = n' ∧ s.toList = s'.toList
    · obtain ⟨rfl, rfl, hs⟩ := hall
      have hs := ba_ext hs
      subst hs
      generalize decide (ks = ks') = x1 at HD C67
      generalize V.sameL l l' = x2 at HD C68
      cases x1
      · go_enter Try.func32, Try.ntmps32
        go_wp2_with (go_at_call 67; refine (C67.out _ (bstep (below_box _) (below_box _))).mono ?_; rintro e w3 ⟨rfl, hb3⟩)
        go_ret
        exact ⟨ret_bool (by rw [HD.out]; simp), bstep (bstep (below_box _) (below_box _)) hb3⟩
      · go_enter Try.func32, Try.ntmps32
        go_wp2_with (first
          | (go_at_call 67; refine (C67.out _ (bstep (below_box _) (below_box _))).mono ?_; rintro e w3 ⟨rfl, hb3⟩; have HBX := hid (Bx2.refl.step hb3); clear hb3; obtain ⟨⟨p0, p1, p2, p3, p4⟩, ⟨r0, r1, r2, r3, r4⟩⟩ := HBX.out.cells)
          | (go_at_call 68; refine (C68.out _ HBX.out.below).mono ?_; rintro e w4 ⟨rfl, hb4⟩; clear p0 p1 p2 p3 p4 r0 r1 r2 r3 r4))
        go_ret
        exact ⟨ret_bool (by rw [HD.out]; simp), bstep HBX.out.below hb4⟩
    · have HX : Hid (dd = false) := by
        show _ = _
        cases dd
        · rfl
        · have := HD.out
          simp at this
          exact (hall ⟨this.1.1.1.1, this.1.1.1.2, by rw [this.1.1.2]⟩).elim
      have HH := hid hall
      clear hall HD
      go_enter Try.func32, Try.ntmps32
      go_wp2_with fail
      all_goals first
        | (go_ret; exact ⟨ret_bool HX.out.symm, bstep (below_box _) (below_box _)⟩)
        | (exfalso; apply HH.out; refine ⟨?_, ?_, ?_⟩ <;> first | assumption | omega | (simp only [beq_iff_eq] at *; omega))
end Go.Proofs.Ytpoofeiajmkfdaa
