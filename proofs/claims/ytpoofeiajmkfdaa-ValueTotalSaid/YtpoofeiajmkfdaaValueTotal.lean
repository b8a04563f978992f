/-
  WHAT IS PROVED: the statement ValueTotal of layer 2 (Rows.ValueTotalSaid): for every input, of any size, the Go function workflowlaw02.ValueTotal returns true, and each argument reads afterwards as it read before. CONDITIONS: none beyond the row's own.
-/
import Derived.Test.YtpoofeiajmkfdaaRows
import Derived.Test.YtpoofeiajmkfdaaVBx3
import Derived.ProofKit
import Derived.OpenShut
import Derived.ShutString
import Derived.ChangeOld
namespace Go.Proofs.Ytpoofeiajmkfdaa.valueTotal
open Go.ChangeShapes Go.WideShapes Go.ChangeAt Go.RowKit
open Go.ChangeMaps (open_string shut_string)
set_option linter.unusedVariables false

theorem rdn_len {w : World} {S : Nat → Prop} {size n m : Nat} {v : Value} {xs : List Value} (h : RdN w S size v n xs) (e : n = m) : RdN w S size v m xs := e ▸ h

set_option maxRecDepth 100000 in
set_option maxHeartbeats 40000000 in
theorem walk (w : World) (v0 : Value) (x0 : V) (h0 : VA w (fun _ => True) v0 x0) (v1 : Value) (x1 : V) (h1 : VA w (fun _ => True) v1 x1) (v2 : Value) (x2 : V) (h2 : VA w (fun _ => True) v2 x2) :
    Calls Try.prog 6 #[v0, v1, v2] w fun e w' => e = .returned (.bool true) ∧ Below w.heap.size w w' := by
  have C01 := hid (fun W (hW : Below w.heap.size w W) => order_any x0 x1 v0 v1 W _ _ (h0.below hW) (h1.below hW))
  have C10 := hid (fun W (hW : Below w.heap.size w W) => order_any x1 x0 v1 v0 W _ _ (h1.below hW) (h0.below hW))
  have C12 := hid (fun W (hW : Below w.heap.size w W) => order_any x1 x2 v1 v2 W _ _ (h1.below hW) (h2.below hW))
  have C02 := hid (fun W (hW : Below w.heap.size w W) => order_any x0 x2 v0 v2 W _ _ (h0.below hW) (h2.below hW))
  have CS := hid (fun W (hW : Below w.heap.size w W) => rsame_any _ x0 x1 v0 v1 W _ _ (Nat.le_refl _) (h0.below hW) (h1.below hW))
  have HL : Hid (∀ x ∈ [x0, x1, x2], x = x0 ∨ x = x1 ∨ x = x2) := fun x hx => by simpa using hx
  have HX : Hid ([x0, x1, x2].length = 3) := rfl
  have HM : Hid ((∀ x ∈ [x0, x1, x2], V.wf x = true) → V.wf x0 = true ∧ V.wf x1 = true ∧ V.wf x2 = true) := fun h => ⟨h _ (by simp), h _ (by simp), h _ (by simp)⟩
  obtain ⟨K0, N0, S0, A0, m0, c0, B0, q0, d0, rfl⟩ : ∃ (k n : Int) (s : ByteArray) (A : Option Addr) (m c : Nat) (A' : Option Addr) (m' c' : Nat), v0 = .agg #[.int .i64 k, .int .i64 n, .string s, .slice A m c, .slice A' m' c'] := by
    obtain ⟨cs, e, hc⟩ := h0
    obtain ⟨k, n, s, A, m, c, A', m', c', rfl⟩ := hc.form
    exact ⟨k, n, s, A, m, c, A', m', c', e⟩
  obtain ⟨K1, N1, S1, A1, m1, c1, B1, q1, d1, rfl⟩ : ∃ (k n : Int) (s : ByteArray) (A : Option Addr) (m c : Nat) (A' : Option Addr) (m' c' : Nat), v1 = .agg #[.int .i64 k, .int .i64 n, .string s, .slice A m c, .slice A' m' c'] := by
    obtain ⟨cs, e, hc⟩ := h1
    obtain ⟨k, n, s, A, m, c, A', m', c', rfl⟩ := hc.form
    exact ⟨k, n, s, A, m, c, A', m', c', e⟩
  obtain ⟨K2, N2, S2, A2, m2, c2, B2, q2, d2, rfl⟩ : ∃ (k n : Int) (s : ByteArray) (A : Option Addr) (m c : Nat) (A' : Option Addr) (m' c' : Nat), v2 = .agg #[.int .i64 k, .int .i64 n, .string s, .slice A m c, .slice A' m' c'] := by
    obtain ⟨cs, e, hc⟩ := h2
    obtain ⟨k, n, s, A, m, c, A', m', c', rfl⟩ := hc.form
    exact ⟨k, n, s, A, m, c, A', m', c', e⟩
  have HVS := hid (three_vals h0.vc h1.vc h2.vc)
  clear h0 h1 h2
  generalize [x0, x1, x2] = l at HL HX HM HVS
  go_enter Try.func6, Try.ntmps6
  go_wp2_with fail
  have HB3 := hid ((Bx3.refl (w := w) (cs := #[.int .i64 K0, .int .i64 N0, .string S0, .slice A0 m0 c0, .slice B0 q0 d0]) (ds := #[.int .i64 K1, .int .i64 N1, .string S1, .slice A1 m1 c1, .slice B1 q1 d1]) (es := #[.int .i64 K2, .int .i64 N2, .string S2, .slice A2 m2 c2, .slice B2 q2 d2])))
  have hrow := RdN_lit (w := (((w.alloc (.cells #[.int .i64 K0, .int .i64 N0, .string S0, .slice A0 m0 c0, .slice B0 q0 d0] 26)).alloc (.cells #[.int .i64 K1, .int .i64 N1, .string S1, .slice A1 m1 c1, .slice B1 q1 d1] 26)).alloc (.cells #[.int .i64 K2, .int .i64 N2, .string S2, .slice A2 m2 c2, .slice B2 q2 d2] 26))) (S := fun _ => True) (e := 26) [.int .i64 K0, .int .i64 N0, .string S0, .slice A0 m0 c0, .slice B0 q0 d0, .int .i64 K1, .int .i64 N1, .string S1, .slice A1 m1 c1, .slice B1 q1 d1, .int .i64 K2, .int .i64 N2, .string S2, .slice A2 m2 c2, .slice B2 q2 d2] 5 3 trivial rfl (by omega)
  rw [show (((w.alloc (.cells #[.int .i64 K0, .int .i64 N0, .string S0, .slice A0 m0 c0, .slice B0 q0 d0] 26)).alloc (.cells #[.int .i64 K1, .int .i64 N1, .string S1, .slice A1 m1 c1, .slice B1 q1 d1] 26)).alloc (.cells #[.int .i64 K2, .int .i64 N2, .string S2, .slice A2 m2 c2, .slice B2 q2 d2] 26)).heap.size = w.heap.size + 1 + 1 + 1 by simp] at hrow
  have HROW := hid (rdn_len hrow HX.out.symm)
  clear hrow
  have HB4 := hid (HB3.out.step (below_box (.cells #[.int .i64 K0, .int .i64 N0, .string S0, .slice A0 m0 c0, .slice B0 q0 d0, .int .i64 K1, .int .i64 N1, .string S1, .slice A1 m1 c1, .slice B1 q1 d1, .int .i64 K2, .int .i64 N2, .string S2, .slice A2 m2 c2, .slice B2 q2 d2] 26)))
  have HV4 := hid (HVS.out.below HB4.out.below)
  clear HB3 HVS
  generalize ((((w.alloc (.cells #[.int .i64 K0, .int .i64 N0, .string S0, .slice A0 m0 c0, .slice B0 q0 d0] 26)).alloc (.cells #[.int .i64 K1, .int .i64 N1, .string S1, .slice A1 m1 c1, .slice B1 q1 d1] 26)).alloc (.cells #[.int .i64 K2, .int .i64 N2, .string S2, .slice A2 m2 c2, .slice B2 q2 d2] 26)).alloc (.cells #[.int .i64 K0, .int .i64 N0, .string S0, .slice A0 m0 c0, .slice B0 q0 d0, .int .i64 K1, .int .i64 N1, .string S1, .slice A1 m1 c1, .slice B1 q1 d1, .int .i64 K2, .int .i64 N2, .string S2, .slice A2 m2 c2, .slice B2 q2 d2] 26)) = W4 at HROW HB4 HV4 ⊢
  go_loopw [16] (fun v16 wr => ∃ i : Nat, i ≤ 3 ∧ v16 = .int .i64 (i : Int) ∧ Below W4.heap.size W4 wr ∧ Hid (∀ j (h : j < l.length), j < i → V.wf l[j] = true)) (fun v16 _ => 3 - (intOf v16).toNat)
  case atStart => exact ⟨0, by omega, rfl, Below.refl _ _, fun j _ h => absurd h (by omega)⟩
  case round =>
    obtain ⟨i, hi, rfl, hb, hall⟩ := hrel
    have HBr := hid (HB4.out.step hb)
    by_cases hlt : i < 3
    · have hil : i < l.length := by have := HX.out; omega
      obtain ⟨b, o, cc, k', n', s', E1, m3, c3, E2, m4, c4, he, t0, t1, t2, t3, t4, hva⟩ := items_at (HROW.out.below hb (by omega)) (HV4.out.below hb) i hil
      injection he with he1 he2 he3
      injection he1 with he1
      injection he1 with e1 e2
      subst e1 e2
      clear he2 he3
      simp only [Nat.zero_add] at t0 t1 t2 t3 t4
      have F := hid (fun W (hW : Below wr.heap.size wr W) => few300 (hva.below hW))
      have G := hid (fun W (hW : Below wr.heap.size wr W) => rwf_any _ l[i] _ W _ (Nat.le_refl _) (hva.below hW))
      have HN : Hid (V.wf l[i] = true → ∀ j (h : j < l.length), j < i + 1 → V.wf l[j] = true) := fun hw j h hj => by
        by_cases e : j = i
        · subst e; exact hw
        · exact hall.out j h (by omega)
      clear hva
      generalize decide (V.size l[i] ≤ 300) = f at F
      generalize V.wf l[i] = g at G HN
      have HBi := hid (Bx.refl (w := wr) (cs := #[.int .i64 k', .int .i64 n', .string s', .slice E1 m3 c3, .slice E2 m4 c4]))
      cases f
      · go_wp2_with fail
        refine (F.out _ (below_box _)).mono ?_
        rintro e w1 ⟨rfl, hb1⟩
        go_wp2_with fail
        refine (vWorks_any _).mono ?_
        rintro e w2 ⟨rfl, hb2⟩
        go_wp2_with fail
        go_ret
        exact ⟨rfl, bstep HBr.out.below (bstep (bstep (below_box _) hb1) hb2)⟩
      · go_wp2_with fail
        refine (F.out _ (below_box _)).mono ?_
        rintro e w1 ⟨rfl, hb1⟩
        have HBj := hid (HBi.out.step hb1)
        clear hb1 t0 t1 t2 t3 t4
        obtain ⟨y0, y1, y2, y3, y4⟩ := HBj.out.cells
        cases g
        · go_wp2_with fail
          refine (G.out _ HBj.out.below).mono ?_
          rintro e w2 ⟨rfl, hb2⟩
          go_wp2_with fail
          refine (vWorks_any _).mono ?_
          rintro e w3 ⟨rfl, hb3⟩
          go_wp2_with fail
          go_ret
          exact ⟨rfl, bstep HBr.out.below (bstep (bstep HBj.out.below hb2) hb3)⟩
        · go_wp2_with fail
          refine (G.out _ HBj.out.below).mono ?_
          rintro e w2 ⟨rfl, hb2⟩
          have HBe := hid (bstep HBj.out.below hb2)
          clear hb2 y0 y1 y2 y3 y4
          go_wp2_with fail
          go_roundw
          case rel => exact ⟨i + 1, by omega, by go_num, bstep hb HBe.out, HN.out (by simp)⟩
          case measure => simp [intOf]; omega
    · have hw3 := HM.out (fun x hx => by
        obtain ⟨j, hj, rfl⟩ := List.getElem_of_mem hx
        exact hall.out j hj (by have := HX.out; omega))
      obtain ⟨hwa, hwb, hwc⟩ := hw3
      have D10 := hid (fun W hW => calli (ord_anti hwa hwb) (C10.out W hW))
      have DS := hid (fun W hW => callb (same_ord hwa hwb) (CS.out W hW))
      have hac : (ord x0 x1 ≤ 0 → ord x1 x2 ≤ 0 → ord x0 x2 ≤ 0) ∧ (0 ≤ ord x0 x1 → 0 ≤ ord x1 x2 → 0 ≤ ord x0 x2) := by
        refine ⟨ord_trans hwa hwb hwc, fun h1 h2 => ?_⟩
        have e1 := ord_anti hwa hwb
        have e2 := ord_anti hwb hwc
        have e3 := ord_anti hwa hwc
        have := ord_trans hwc hwb hwa (by omega) (by omega)
        omega
      have hab := ord_range x0 x1
      have hbc := ord_range x1 x2
      have hr := ord_range x0 x2
      clear hwa hwb hwc C10 CS HM HX HL hall HROW HV4 HB4
      generalize ord x0 x1 = ab at *
      generalize ord x1 x2 = bc at *
      generalize ord x0 x2 = ac at *
      rcases hab with rfl | rfl | rfl <;> rcases hbc with rfl | rfl | rfl <;> rcases hr with rfl | rfl | rfl <;> first
        | (exfalso; revert hac; decide)
        | (clear hac
           obtain ⟨⟨p0, p1, p2, p3, p4⟩, ⟨r0, r1, r2, r3, r4⟩, ⟨z0, z1, z2, z3, z4⟩⟩ := HBr.out.cells
           go_wp2_with fail
           refine (C01.out _ HBr.out.below).mono ?_
           rintro e w1 ⟨rfl, hb1⟩
           have HB1 := hid (HBr.out.step hb1)
           clear hb1 p0 p1 p2 p3 p4 r0 r1 r2 r3 r4 z0 z1 z2 z3 z4
           obtain ⟨⟨p0, p1, p2, p3, p4⟩, ⟨r0, r1, r2, r3, r4⟩, ⟨z0, z1, z2, z3, z4⟩⟩ := HB1.out.cells
           go_wp2_with fail
           refine (D10.out _ HB1.out.below).mono ?_
           rintro e w2 ⟨rfl, hb2⟩
           have HB2 := hid (HB1.out.step hb2)
           clear hb2 p0 p1 p2 p3 p4 r0 r1 r2 r3 r4 z0 z1 z2 z3 z4
           obtain ⟨⟨p0, p1, p2, p3, p4⟩, ⟨r0, r1, r2, r3, r4⟩, ⟨z0, z1, z2, z3, z4⟩⟩ := HB2.out.cells
           go_wp2_with fail
           refine (DS.out _ HB2.out.below).mono ?_
           rintro e w3 ⟨rfl, hb3⟩
           have HB3 := hid (HB2.out.step hb3)
           clear hb3 p0 p1 p2 p3 p4 r0 r1 r2 r3 r4 z0 z1 z2 z3 z4
           obtain ⟨⟨p0, p1, p2, p3, p4⟩, ⟨r0, r1, r2, r3, r4⟩, ⟨z0, z1, z2, z3, z4⟩⟩ := HB3.out.cells
           go_wp2_with fail
           refine (C12.out _ HB3.out.below).mono ?_
           rintro e w4 ⟨rfl, hb4⟩
           have HB6 := hid (HB3.out.step hb4)
           clear hb4 p0 p1 p2 p3 p4 r0 r1 r2 r3 r4 z0 z1 z2 z3 z4
           obtain ⟨⟨p0, p1, p2, p3, p4⟩, ⟨r0, r1, r2, r3, r4⟩, ⟨z0, z1, z2, z3, z4⟩⟩ := HB6.out.cells
           go_wp2_with (first
             | (go_at_call 37; refine (C02.out _ HB6.out.below).mono ?_; rintro e w5 ⟨rfl, hb5⟩; have HB6 := hid (HB6.out.step hb5); clear hb5 p0 p1 p2 p3 p4 r0 r1 r2 r3 r4 z0 z1 z2 z3 z4; obtain ⟨⟨p0, p1, p2, p3, p4⟩, ⟨r0, r1, r2, r3, r4⟩, ⟨z0, z1, z2, z3, z4⟩⟩ := HB6.out.cells)
             | (go_at_call 12; refine (vWorks_any _).mono ?_; rintro e w9 ⟨rfl, hb9⟩))
           go_ret
           exact ⟨rfl, bstep HB6.out.below hb9⟩)


theorem own : ownKnob Try.prog.godebug = none := by kernel_rfl
theorem laidOut : laidOutB Try.prog = true := by kernel_rfl

set_option maxRecDepth 100000 in
theorem lifted (os : Os) (started : os.Started) (H : Type) (enc : TypeId × Value → H) :
    ReturnsInHanded {} Try.checked os 6 .any (Rows.valueTotalSpec.pre6 enc Try.prog Try.f6 Rows.valueTotalRow.domain false) (Rows.valueTotalSpec.post enc Try.prog Try.f6 false true false false) := by
  refine returnsInHanded_of_change_sized (C := Try.checked) own started (by kernel_rfl) Try.func6
    (ChangeSpec.witness6 (enc := enc) (C := Try.checked) false ⟨#[], #[.agg #[.int .i64 0, .int .i64 0, .string ByteArray.empty, .slice none 0 0, .slice none 0 0], .agg #[.int .i64 0, .int .i64 0, .string ByteArray.empty, .slice none 0 0, .slice none 0 0], .agg #[.int .i64 0, .int .i64 0, .string ByteArray.empty, .slice none 0 0, .slice none 0 0]], []⟩ 8 (by kernel_rfl) (by kernel_rfl) (by kernel_rfl) (by kernel_rfl)) ?_
  intro W base args ds gs before hval0 hW hcnd hsz _
  have hval : ∀ (j : Nat) t v, Try.f6.params[j]? = some t → args[j]? = some v → Value.okWide Try.prog W .any base t v := hval0
  have hW' := hW
  obtain ⟨p, q, hA0, hV, rfl, hfz, hnd⟩ := hW
  have hA : DataW.TrodAll enc Try.prog W 0 (fun _ => true) true Try.f6.params.toList args.toList ds p := hA0
  rw [Try.params6] at hA hval hsz
  obtain ⟨v0, vs0, d0, ds0, p0, q0, hargs, rfl, rfl, h0, r0⟩ := trodAll_cons hA
  obtain ⟨v1, vs1, d1, ds1, p1, q1, rfl, rfl, rfl, h1, r1⟩ := trodAll_cons r0
  obtain ⟨v2, vs2, d2, ds2, p2, q2, rfl, rfl, rfl, h2, r2⟩ := trodAll_cons r1
  obtain ⟨rfl, rfl, rfl⟩ := trodAll_nil r2
  obtain rfl : args = #[v0, v1, v2] := by cases args; simp_all
  obtain ⟨rfl, rfl⟩ := trodVars_none hV
  have k0 := h0
  have lt0 : ∀ x ∈ p0, x.block < W.heap.size := by obtain ⟨m, hm⟩ := k0; exact DataW.trod_lt m _ _ _ hm
  have z0 : ∀ n ∈ d0.weights Try.prog 26, n ≤ reachBytes := fun n hn => by have := List.all_eq_true.1 hsz n (DataW.weights_mem_each (j := 0) (t := 26) (d := d0) rfl rfl n hn); simpa using this
  obtain ⟨l0, b0⟩ := open_value (hval 0 26 v0 rfl rfl) h0 z0
  have k1 := h1
  have lt1 : ∀ x ∈ p1, x.block < W.heap.size := by obtain ⟨m, hm⟩ := k1; exact DataW.trod_lt m _ _ _ hm
  have z1 : ∀ n ∈ d1.weights Try.prog 26, n ≤ reachBytes := fun n hn => by have := List.all_eq_true.1 hsz n (DataW.weights_mem_each (j := 1) (t := 26) (d := d1) rfl rfl n hn); simpa using this
  obtain ⟨l1, b1⟩ := open_value (hval 1 26 v1 rfl rfl) h1 z1
  have k2 := h2
  have lt2 : ∀ x ∈ p2, x.block < W.heap.size := by obtain ⟨m, hm⟩ := k2; exact DataW.trod_lt m _ _ _ hm
  have z2 : ∀ n ∈ d2.weights Try.prog 26, n ≤ reachBytes := fun n hn => by have := List.all_eq_true.1 hsz n (DataW.weights_mem_each (j := 2) (t := 26) (d := d2) rfl rfl n hn); simpa using this
  obtain ⟨l2, b2⟩ := open_value (hval 2 26 v2 rfl rfl) h2 z2
  clear hA0 hval0
  refine (walk W v0 l0 b0 v1 l1 b1 v2 l2 b2).mono fun e W' ⟨he, bel⟩ => ?_
  subst he
  exact ⟨_, rfl, _, _, _, [], _, [], hW', trodAll_mk1 (shut_bool Try.underlying4 _), (trodAll_cons_mk (Below.trod laidOut (by kernel_rfl) (of_decide_eq_true (by kernel_rfl)) k0 bel lt0) (trodAll_cons_mk (Below.trod laidOut (by kernel_rfl) (of_decide_eq_true (by kernel_rfl)) k1 bel lt1) (trodAll_cons_mk (Below.trod laidOut (by kernel_rfl) (of_decide_eq_true (by kernel_rfl)) k2 bel lt2) trodAll_mk0))), rfl, bel.frame _, fun h => by cases h⟩

theorem over : Rows.valueTotalRow.holds Try.pinned (OpenSpec.ofChange Rows.valueTotalSpec) :=
  OpenClaim.holds_of_wide 6 Try.f6 rfl rfl rfl rfl rfl rfl rfl ⟨rfl, rfl, rfl, rfl, rfl⟩ rfl rfl rfl rfl rfl (by kernel_rfl) Try.func6 (by kernel_rfl)
    (of_decide_eq_true (by kernel_rfl)) (by unfold Func.isWrapper; first | (rw [if_pos (by decide +kernel)]; kernel_rfl) | (rw [if_neg (by decide +kernel)]; exact ⟨rfl, rfl⟩))
    (fun os started H enc _ => lifted os started H enc)

/-- THE STATEMENT. -/
theorem proved : Rows.ValueTotalSaid := over
#print axioms proved
end Go.Proofs.Ytpoofeiajmkfdaa.valueTotal
