/-
  Same of the reference: contract.
-/
import Derived.Test.YtpoofeiajmkfdaaVRef2
import Derived.StillTailTactics
namespace Go.Proofs.Ytpoofeiajmkfdaa
open Go.RowKit

/-- Two boxed structs: the boxes stand, and all that was there before them. -/
def Bx2 (w : World) (cs ds : Array Value) (wr : World) : Prop := Below (w.heap.size + 2) ((w.alloc (.cells cs 26)).alloc (.cells ds 26)) wr
section
variable {w wr w1 : World} {cs ds : Array Value}
theorem Bx2.refl : Bx2 w cs ds ((w.alloc (.cells cs 26)).alloc (.cells ds 26)) := Below.refl _ _
theorem Bx2.below (h : Bx2 w cs ds wr) : Below w.heap.size w wr := (bstep (below_box _) (below_box _)).trans (Below.mono h (by omega))
theorem Bx2.size (h : Bx2 w cs ds wr) : w.heap.size + 2 ≤ wr.heap.size := by have := Below.size h; simp at this; omega
theorem Bx2.step (h : Bx2 w cs ds wr) (hb : Below wr.heap.size wr w1) : Bx2 w cs ds w1 := Below.trans h (hb.mono h.size)
theorem Bx2.drewN (h : Bx2 w cs ds wr) (n : Nat) : Bx2 w cs ds (wr.drewN n) := below_drewN h n
theorem Bx2.one (h : Bx2 w cs ds wr) : Bx w cs wr := Below.trans ((Below.refl _ _).alloc (by simp) _) (Below.mono h (by omega))
theorem Bx2.block2 (h : Bx2 w cs ds wr) : wr.heap[w.heap.size + 1]? = some (.cells ds 26 (0, 0)) := by
  refine (Below.block h _ (by omega)).trans ?_
  have := heap_alloc_new (w.alloc (.cells cs 26)) (.cells ds 26)
  simpa using this
theorem Bx2.cells {a0 a1 a2 a3 a4 b0 b1 b2 b3 b4 : Value} (h : Bx2 w #[a0, a1, a2, a3, a4] #[b0, b1, b2, b3, b4] wr) :
    (wr.cell? ⟨w.heap.size, 0, none⟩ = some a0 ∧ wr.cell? ⟨w.heap.size, 1, none⟩ = some a1 ∧ wr.cell? ⟨w.heap.size, 2, none⟩ = some a2 ∧ wr.cell? ⟨w.heap.size, 3, none⟩ = some a3 ∧ wr.cell? ⟨w.heap.size, 4, none⟩ = some a4) ∧
    (wr.cell? ⟨w.heap.size + 1, 0, none⟩ = some b0 ∧ wr.cell? ⟨w.heap.size + 1, 1, none⟩ = some b1 ∧ wr.cell? ⟨w.heap.size + 1, 2, none⟩ = some b2 ∧ wr.cell? ⟨w.heap.size + 1, 3, none⟩ = some b3 ∧ wr.cell? ⟨w.heap.size + 1, 4, none⟩ = some b4) := by
  refine ⟨h.one.cells, ?_⟩
  have := fun i => cell_of_row wr (w.heap.size + 1) i _ 26 (0, 0) h.block2
  exact ⟨this 0, this 1, this 2, this 3, this 4⟩
end

theorem ba_ext {a b : ByteArray} (h : a.toList = b.toList) : a = b := by
  rw [ByteArray.toList_eq, ByteArray.toList_eq] at h
  cases a; cases b
  simp at h
  subst h
  rfl

theorem sameL_all (l l' : List V) (_h : l.length = l'.length) : V.sameL l l' = true ↔ l = l' := V.sameL_iff (fun v _ u => V.same_iff v u) l'

theorem take_eq {α : Type} {x y : List α} {i : Nat} (h : x.take i = y.take i) (h1 : i < x.length) (h2 : i < y.length) (he : x[i] = y[i]) : x.take (i + 1) = y.take (i + 1) := by
  rw [take_succ_l x i h1, take_succ_l y i h2, h, he]
theorem take_end {α : Type} {x y : List α} {i : Nat} (h : x.take i = y.take i) (hl : x.length = y.length) (h1 : ¬ i < x.length) : x = y := by
  rw [List.take_of_length_le (by omega), List.take_of_length_le (by omega)] at h
  exact h
theorem ne_at {α : Type} {x y : List α} {i : Nat} (h1 : i < x.length) (h2 : i < y.length) (he : x[i] ≠ y[i]) : x ≠ y := by
  rintro rfl
  exact he rfl

set_option maxRecDepth 100000 in
set_option maxHeartbeats 2000000 in
theorem rsame_no (k n k' n' : Int) (s s' : ByteArray) (A B A' B' : Option Addr) (c d c' d' p q p' q' : Nat) (w : World)
    (_hp : p ≤ 9223372036854775807) (_hq : q ≤ 9223372036854775807) (_hp' : p' ≤ 9223372036854775807) (_hq' : q' ≤ 9223372036854775807)
    (h : ¬ (k = k' ∧ n = n' ∧ s.toList = s'.toList ∧ p = p' ∧ q = q')) :
    Calls Try.prog 15 #[.agg #[.int .i64 k, .int .i64 n, .string s, .slice A p c, .slice B q d], .agg #[.int .i64 k', .int .i64 n', .string s', .slice A' p' c', .slice B' q' d']] w fun e w' => e = .returned (.bool false) ∧ Below w.heap.size w w' := by
  have H := hid h
  clear h
  go_enter Try.func15, Try.ntmps15
  go_wp2_with fail
  all_goals first
    | (go_ret; exact ⟨rfl, bstep (below_box _) (below_box _)⟩)
    | (exfalso; apply H.out; refine ⟨?_, ?_, ?_, ?_, ?_⟩ <;> first | assumption | omega | (simp only [bne_eq_false_iff_eq] at *; omega))

set_option maxRecDepth 100000 in
set_option maxHeartbeats 2000000 in
theorem rsame_any (m : Nat) : ∀ (v u : V) (a b : Value) (w : World) (S T : Nat → Prop), V.size v ≤ m → VA w S a v → VA w T b u →
    Calls Try.prog 15 #[a, b] w fun e w' => e = .returned (.bool (V.same v u)) ∧ Below w.heap.size w w' := by
  induction m with
  | zero => intro v u a b w S T h; have := V.size_pos v; omega
  | succ m ih =>
    intro v u a b w S T hm hv hu
    match v, u with
    | .mk k n s l ks, .mk k' n' s' l' ks' =>
    obtain ⟨A, c, B, d, ics, rfl, ho, hl, hr, hvs, hk⟩ := hv.open_
    obtain ⟨A', c', B', d', ics', rfl, ho', hl', hr', hvs', hk'⟩ := hu.open_
    have hks : ks.length * 16 ≤ 140737488351232 := ho.2.2.2.2.2.2
    have hks' : ks'.length * 16 ≤ 140737488351232 := ho'.2.2.2.2.2.2
    have HD : Hid (V.same (.mk k n s l ks) (.mk k' n' s' l' ks') = true ↔ (k = k' ∧ n = n' ∧ s = s' ∧ ks = ks' ∧ l = l')) := by
      show _ ↔ _
      rw [V.same_iff, V.mk.injEq]
      constructor
      · rintro ⟨h1, h2, h3, h4, h5⟩; exact ⟨h1, h2, h3, h5, h4⟩
      · rintro ⟨h1, h2, h3, h4, h5⟩; exact ⟨h1, h2, h3, h5, h4⟩
    have HR := hid hr
    have HV := hid hvs
    have HK := hid hk
    have HR' := hid hr'
    have HV' := hid hvs'
    have HK' := hid hk'
    have HM : Hid (∀ u ∈ l, V.size u ≤ m) := fun u hu => by
      have := V.size_mem hu
      rw [V.size_mk] at hm
      omega
    have IH := hid ih
    clear hv hu ho ho' hr hvs hk hr' hvs' hk' hm ih
    generalize V.same (.mk k n s l ks) (.mk k' n' s' l' ks') = dd at HD
    by_cases hall : k = k' ∧ n = n' ∧ s.toList = s'.toList ∧ l.length = l'.length ∧ ks.length = ks'.length
    · obtain ⟨rfl, rfl, hs, hll, hkk⟩ := hall
      have hs := ba_ext hs
      subst hs
      have HLL := hid hll
      have HKK := hid hkk
      have hb1 : ((l.length : Int) != (l'.length : Int)) = false := by simp [hll]
      have hb2 : ((ks.length : Int) != (ks'.length : Int)) = false := by simp [hkk]
      clear hll hkk
      go_enter Try.func15, Try.ntmps15
      go_wp2_with fail
      go_loopw [5] (fun v5 wr => ∃ i : Nat, i ≤ ks.length ∧ v5 = .int .i64 (i : Int) ∧ Hid (ks.take i = ks'.take i) ∧ Bx2 w #[.int .i64 k, .int .i64 n, .string s, .slice A l.length c, .slice B ks.length d] #[.int .i64 k, .int .i64 n, .string s, .slice A' l'.length c', .slice B' ks'.length d'] wr) (fun v5 _ => ks.length - (intOf v5).toNat)
      case atStart => exact ⟨0, Nat.zero_le _, rfl, rfl, Bx2.refl⟩
      case round =>
        obtain ⟨i, hi, rfl, htk, hbx⟩ := hrel
        have HBX := hid hbx
        obtain ⟨⟨p0, p1, p2, p3, p4⟩, ⟨r0, r1, r2, r3, r4⟩⟩ := hbx.cells
        clear hbx p0 p1 p2 r0 r1 r2
        by_cases hlt : i < ks.length
        · obtain ⟨x1, x2, x3, he, hq⟩ := keys_all (HK.out.below HBX.out.below (by omega)) (by omega)
          injection he with he1 he2 he3
          subst he1
          have q0 := hq i hlt
          have hlt' : i < ks'.length := by have := HKK.out; omega
          obtain ⟨y1, y2, y3, he', hq'⟩ := keys_all (HK'.out.below HBX.out.below (by omega)) (by omega)
          injection he' with he1' he2' he3'
          subst he1'
          have q0' := hq' i hlt'
          clear he2 he3 hq he2' he3' hq'
          by_cases hx : ks[i] = ks'[i]
          · have HT := hid (take_eq htk.out hlt hlt' hx)
            rw [← hx] at q0'
            clear hx
            generalize ks[i] = xx at q0 q0'
            go_wp2_with fail
            go_quiet (fail)
            go_wp2_with fail
            go_roundw
            case rel => exact ⟨i + 1, by omega, by go_num, HT.out, HBX.out.drewN _⟩
            case measure => simp [intOf]; omega
          · have HNE := hid (ne_at hlt hlt' hx)
            generalize ks[i] = xx at q0 hx
            generalize ks'[i] = yy at q0' hx
            have hx1 : ¬ xx.toList = yy.toList := fun h => hx (ba_ext h)
            have hx2 : (xx.toList == yy.toList) = false := by simp [hx1]
            have hx3 : (xx.toList != yy.toList) = true := by simp [hx1]
            clear hx
            go_wp2_with fail
            go_quiet (fail)
            go_wp2_with fail
            go_ret
            refine ⟨ret_bool ?_, below_drewN HBX.out.below _⟩
            cases dd
            · rfl
            · exact absurd (HD.out.1 rfl).2.2.2.1 HNE.out
        · have HKE := hid (take_end htk.out HKK.out hlt)
          go_wp2_with fail
          clear p3 p4 r3 r4 htk
          obtain ⟨wo, rfl⟩ : ∃ wo : World, wo = wr := ⟨_, rfl⟩
          go_loopw [6] (fun v6 wr => ∃ i : Nat, i ≤ l.length ∧ v6 = .int .i64 (i : Int) ∧ Hid (l.take i = l'.take i) ∧ Bx2 w #[.int .i64 k, .int .i64 n, .string s, .slice A l.length c, .slice B ks.length d] #[.int .i64 k, .int .i64 n, .string s, .slice A' l'.length c', .slice B' ks'.length d'] wr) (fun v6 _ => l.length - (intOf v6).toNat)
          case atStart => exact ⟨0, Nat.zero_le _, rfl, rfl, HBX.out⟩
          case round =>
            clear HBX
            obtain ⟨j, hj, rfl, htk, hbx⟩ := hrel
            have HBX := hid hbx
            obtain ⟨⟨p0, p1, p2, p3, p4⟩, ⟨r0, r1, r2, r3, r4⟩⟩ := hbx.cells
            clear hbx p0 p1 p2 p4 r0 r1 r2 r4
            by_cases hlj : j < l.length
            · have hlj' : j < l'.length := by have := HLL.out; omega
              obtain ⟨b1, o1, z1, k1, n1, s1, A1, m1, c1, A2, m2, c2, he, q0, q1, q2, q3, q4, hva⟩ := items_at (HR.out.below HBX.out.below (by omega)) (HV.out.below HBX.out.below) j hlj
              injection he with he1 he2 he3
              subst he1
              obtain ⟨b3, o3, z3, k3, n3, s3, A3, m3, c3, A4, m4, c4, he', t0, t1, t2, t3, t4, hva'⟩ := items_at (HR'.out.below HBX.out.below (by omega)) (HV'.out.below HBX.out.below) j hlj'
              injection he' with he1' he2' he3'
              subst he1'
              clear he2 he3 he2' he3'
              have HVA := hid hva
              have HVA' := hid hva'
              have HM1 := hid (HM.out l[j] (List.getElem_mem hlj))
              clear hva hva'
              cases hx : V.same l[j] l'[j]
              · have HX := hid hx
                have HNE : Hid (l ≠ l') := ne_at hlj hlj' (fun e => by rw [e, V.same_self] at hx; cases hx)
                clear hx
                go_wp2_with fail
                go_still_tail 10, (by kernel_rfl)
                change wpList _ _ _ _ _ wr.drew
                have HDR : Hid (Below wr.heap.size wr wr.drew) := (Below.refl _ _).drew
                have C : Hid (∀ e f, VA wr S e l[j] → VA wr T f l'[j] → Calls Try.prog 15 #[e, f] wr.drew fun e w' => e = .returned (.bool false) ∧ Below wr.drew.heap.size wr.drew w') := fun e f he hf =>
                  callb HX.out (IH.out _ _ _ _ _ S T HM1.out (he.below HDR.out) (hf.below HDR.out))
                have HW : Hid (Below w.heap.size w wr.drew) := HBX.out.below.drew
                generalize wr.drew = w2 at C HW
                go_wp2_with (go_at_call 15; refine (C.out _ _ HVA.out HVA'.out).mono ?_; rintro e w3 ⟨rfl, hb3⟩)
                go_ret
                refine ⟨ret_bool ?_, bstep HW.out hb3⟩
                cases dd
                · rfl
                · exact absurd (HD.out.1 rfl).2.2.2.2 HNE.out
              · have HX := hid hx
                have HT := hid (take_eq htk.out hlj hlj' ((V.same_iff _ _).1 hx))
                clear hx
                go_wp2_with fail
                go_still_tail 10, (by kernel_rfl)
                change wpList _ _ _ _ _ wr.drew
                have HDR : Hid (Below wr.heap.size wr wr.drew) := (Below.refl _ _).drew
                have C : Hid (∀ e f, VA wr S e l[j] → VA wr T f l'[j] → Calls Try.prog 15 #[e, f] wr.drew fun e w' => e = .returned (.bool true) ∧ Below wr.drew.heap.size wr.drew w') := fun e f he hf =>
                  callb HX.out (IH.out _ _ _ _ _ S T HM1.out (he.below HDR.out) (hf.below HDR.out))
                have HBY : Hid (Bx2 w #[.int .i64 k, .int .i64 n, .string s, .slice (some ⟨b1, o1, none⟩) l.length c, .slice B ks.length d] #[.int .i64 k, .int .i64 n, .string s, .slice (some ⟨b3, o3, none⟩) l'.length c', .slice B' ks'.length d'] wr.drew) := HBX.out.drewN 1
                generalize wr.drew = w2 at C HBY
                go_wp2_with (go_at_call 15; refine (C.out _ _ HVA.out HVA'.out).mono ?_; rintro e w3 ⟨rfl, hb3⟩)
                go_roundw
                case rel => exact ⟨j + 1, by omega, by go_num, HT.out, HBY.out.step hb3⟩
                case measure => simp [intOf]; omega
            · have HLE := hid (take_end htk.out HLL.out hlj)
              go_wp2_with fail
              go_ret
              exact ⟨ret_bool (HD.out.2 (by refine ⟨?_, ?_, ?_, HKE.out, HLE.out⟩ <;> trivial)).symm, HBX.out.below⟩
    · have HN : Hid (¬ (k = k' ∧ n = n' ∧ s.toList = s'.toList ∧ l.length = l'.length ∧ ks.length = ks'.length)) := hall
      have hdd : dd = false := by
        cases dd
        · rfl
        · obtain ⟨rfl, rfl, rfl, rfl, rfl⟩ := HD.out.1 rfl
          exact (hall (by simp)).elim
      subst hdd
      exact rsame_no k n k' n' s s' A B A' B' c d c' d' l.length ks.length l'.length ks'.length w hl (by omega) hl' (by omega) hall
end Go.Proofs.Ytpoofeiajmkfdaa
