/-
  hasFuture of the program, with slices.ContainsFunc and slices.IndexFunc; the same of keys; fits, withinLimits, Right: contracts.
-/
import Derived.Test.YtpoofeiajmkfdaaVRef2
import Derived.Shelf.Abstract
namespace Go.Proofs.Ytpoofeiajmkfdaa
open Go.RowKit

/-- What IndexFunc gives: a place, or -1, as it is found or not. -/
def Idx (b : Bool) (w : World) (e : Ending) (w' : World) : Prop := ∃ r : Int, e = .returned (.int .i64 r) ∧ -1 ≤ r ∧ (b = true ↔ 0 ≤ r) ∧ Below w.heap.size w w'

theorem any_endP {α : Type} {P : α → Bool} {l : List α} {i : Nat} (h : ∀ u ∈ l.take i, P u = false) (hi : ¬ i < l.length) : l.any P = false := by
  rw [List.take_of_length_le (by omega)] at h
  rw [List.any_eq_false]
  intro u hu
  simp [h u hu]
theorem any_takeP {α : Type} {P : α → Bool} {l : List α} {i : Nat} (h : ∀ u ∈ l.take i, P u = false) (hi : i < l.length) (hp : P l[i] = false) : ∀ u ∈ l.take (i + 1), P u = false := by
  rw [take_succ_l l i hi]
  intro u hu
  rcases List.mem_append.1 hu with hu | hu
  · exact h u hu
  · rw [List.mem_singleton.1 hu]; exact hp
theorem any_noP {α : Type} {P : α → Bool} {l : List α} {i : Nat} (hi : i < l.length) (hp : P l[i] = true) : l.any P = true :=
  List.any_eq_true.2 ⟨l[i], List.getElem_mem hi, hp⟩

set_option maxRecDepth 100000 in
set_option maxHeartbeats 1000000 in
theorem indexFuncV (g : FuncId) (p : V → Bool) (l : List V) (H : ∀ u ∈ l, ∀ (a : Value) (W : World) (S : Nat → Prop), VA W S a u → Calls Try.prog g #[a] W fun e w' => e = .returned (.bool (p u)) ∧ Below W.heap.size W w')
    (eg : ∀ args w, (callFunc g args).run Try.prog w = .ok (.enter g args) w)
    (iv : Value) (ics : List Value) (w : World) (S : Nat → Prop) (_hl : l.length ≤ 9223372036854775807) (hr : RdN w S 5 iv l.length ics) (hvs : VsC w S l ics) :
    Calls Try.prog 123 #[iv, .func (.func g) #[] #[]] w (Idx (l.any p) w) := by
  have HH := hid H
  clear H
  obtain ⟨A, c, rfl, _, _⟩ := hr.form
  have HR := hid hr
  have HV := hid hvs
  clear hr hvs
  generalize hany : l.any p = dd
  have HD := hid hany
  clear hany
  go_enter Try.func123, Try.ntmps123
  go_wp2_with fail
  go_loopw [8] (fun v8 wr => ∃ i : Nat, i ≤ l.length ∧ v8 = .int .i64 (i : Int) ∧ Hid (∀ u ∈ l.take i, p u = false) ∧ Below w.heap.size w wr) (fun v8 _ => l.length - (intOf v8).toNat)
  case atStart => exact ⟨0, Nat.zero_le _, rfl, fun u hu => absurd hu (by simp), Below.refl _ _⟩
  case round =>
    obtain ⟨i, hi, rfl, hall, hb⟩ := hrel
    by_cases hlt : i < l.length
    · obtain ⟨b, o, cc, k', n', s', A1, m1, c1, A2, m2, c2, he, q0, q1, q2, q3, q4, hva⟩ := items_at (HR.out.below hb (by omega)) (HV.out.below hb) i hlt
      injection he with he1 he2 he3
      subst he1
      clear he2 he3
      have HVA := hid hva
      clear hva
      cases hx : p l[i]
      · have HX := hid hx
        have HY := hid (any_takeP hall.out hlt hx)
        clear hx
        go_wp2_with fail
        refine (callb HX.out (HH.out l[i] (List.getElem_mem hlt) _ _ S HVA.out)).mono ?_
        rintro e w1 ⟨rfl, hb1⟩
        go_wp2_with fail
        go_roundw
        case rel => exact ⟨i + 1, by omega, by go_num, HY, bstep hb hb1⟩
        case measure => simp [intOf]; omega
      · have HX := hid hx
        have HY := hid (any_noP hlt hx)
        clear hx
        go_wp2_with fail
        refine (callb HX.out (HH.out l[i] (List.getElem_mem hlt) _ _ S HVA.out)).mono ?_
        rintro e w1 ⟨rfl, hb1⟩
        go_wp2_with fail
        go_ret
        exact ⟨(i : Int), rfl, by omega, by rw [← HD.out, HY.out]; simp, bstep hb hb1⟩
    · have HX := hid (any_endP hall.out hlt)
      go_wp2_with fail
      go_ret
      exact ⟨-1, rfl, by omega, by rw [← HD.out, HX.out]; simp, hb⟩

set_option maxRecDepth 100000 in
set_option maxHeartbeats 1000000 in
theorem containsFuncV (g : FuncId) (p : V → Bool) (l : List V) (H : ∀ u ∈ l, ∀ (a : Value) (W : World) (S : Nat → Prop), VA W S a u → Calls Try.prog g #[a] W fun e w' => e = .returned (.bool (p u)) ∧ Below W.heap.size W w')
    (eg : ∀ args w, (callFunc g args).run Try.prog w = .ok (.enter g args) w)
    (iv : Value) (ics : List Value) (w : World) (S : Nat → Prop) (hl : l.length ≤ 9223372036854775807) (hr : RdN w S 5 iv l.length ics) (hvs : VsC w S l ics) :
    Calls Try.prog 94 #[iv, .func (.func g) #[] #[]] w fun e w' => e = .returned (.bool (l.any p)) ∧ Below w.heap.size w w' := by
  have C := hid (indexFuncV g p l H eg iv ics w S hl hr hvs)
  obtain ⟨A, c, rfl, _, _⟩ := hr.form
  clear hr hvs H eg
  generalize l.any p = dd at C
  go_enter Try.func94, Try.ntmps94
  go_wp2_with (go_at_call 123; refine C.out.mono ?_; rintro e w1 ⟨r, rfl, h1, h2, hb1⟩; have HI := hid h2; clear h2)
  go_ret
  refine ⟨ret_bool ?_, hb1⟩
  cases dd
  · have := HI.out
    simp at this
    simp; omega
  · have := HI.out
    simp at this
    simp; omega

theorem eg65 : ∀ args w, (callFunc 65 args).run Try.prog w = .ok (.enter 65 args) w := enters_of Try.func65 (by kernel_rfl) rfl
theorem eg121 : ∀ args w, (callFunc 121 args).run Try.prog w = .ok (.enter 121 args) w := enters_of Try.func121 (by kernel_rfl) rfl

set_option maxRecDepth 100000 in
set_option maxHeartbeats 1000000 in
theorem fut_any (m : Nat) : ∀ (v : V) (a : Value) (w : World) (S : Nat → Prop), V.size v ≤ m → VA w S a v →
    Calls Try.prog 65 #[a] w fun e w' => e = .returned (.bool (V.fut v)) ∧ Below w.heap.size w w' := by
  induction m with
  | zero => intro v a w S h; have := V.size_pos v; omega
  | succ m ih =>
    intro v a w S hm hv
    match v with
    | .mk k n s l ks =>
    obtain ⟨A, c, A', c', ics, rfl, ho, hl, hr, hvs, _⟩ := hv.open_
    have HD : Hid (V.fut (.mk k n s l ks) = (k == 6 || l.any V.fut)) := by show _ = _; rw [V.fut_mk, V.futL_any]
    have C : Hid (∀ W, Below w.heap.size w W → Calls Try.prog 94 #[.slice A l.length c, .func (.func 65) #[] #[]] W fun e w' => e = .returned (.bool (l.any V.fut)) ∧ Below W.heap.size W w') := fun W hW =>
      containsFuncV 65 V.fut l (fun u hu a' W' S' hva => ih u a' W' S' (by have := V.size_mem hu; rw [V.size_mk] at hm; omega) hva) eg65 _ ics W S hl (hr.below hW (by omega)) (hvs.below hW)
    clear hv ho hr hvs hm ih
    generalize V.fut (.mk k n s l ks) = dd at HD
    generalize l.any V.fut = q at HD C
    cases hk : (k == 6)
    · have HK := hid hk
      go_enter Try.func65, Try.ntmps65
      go_wp2_with (go_at_call 94; refine (C.out _ (below_box _)).mono ?_; rintro e w1 ⟨rfl, hb1⟩)
      go_ret
      exact ⟨ret_bool (by rw [HD.out, HK.out]; simp), bstep (below_box _) hb1⟩
    · have HK := hid hk
      go_enter Try.func65, Try.ntmps65
      go_wp2_with fail
      go_ret
      exact ⟨ret_bool (by rw [HD.out, HK.out]; simp), below_box _⟩

set_option maxRecDepth 100000 in
set_option maxHeartbeats 400000 in
theorem isLong_any (s : ByteArray) (w : World) (hs : s.size ≤ 9223372036854775807) : Calls Try.prog 121 #[.string s] w fun e w' => e = .returned (.bool (!sk s)) ∧ w = w' := by
  have HD : Hid ((!sk s) = decide (4096 < s.size)) := by show _ = _; unfold sk; rw [← decide_not]; congr 1; simp
  generalize (!sk s) = dd at HD
  go_enter Try.func121, Try.ntmps121
  go_wp2_with fail
  go_ret
  exact ⟨ret_bool (by rw [HD.out]; simp; omega), rfl⟩

set_option maxRecDepth 100000 in
set_option maxHeartbeats 1000000 in
theorem indexLong (ks : List ByteArray) (H : ∀ x ∈ ks, x.size ≤ 9223372036854775807)
    (kv : Value) (w : World) (S : Nat → Prop) (hl : ks.length ≤ 9223372036854775807) (hr : RdN w S 1 kv ks.length (ks.map Value.string)) :
    Calls Try.prog 145 #[kv, .func (.func 121) #[] #[]] w (Idx (ks.any fun x => !sk x) w) := by
  have HH := hid H
  clear H
  have eg := eg121
  obtain ⟨A, c, rfl, _, _⟩ := hr.form
  have HR := hid hr
  clear hr
  generalize hany : (ks.any fun x => !sk x) = dd
  have HD := hid hany
  clear hany
  go_enter Try.func145, Try.ntmps145
  go_wp2_with fail
  go_loopw [8] (fun v8 wr => ∃ i : Nat, i ≤ ks.length ∧ v8 = .int .i64 (i : Int) ∧ Hid (∀ u ∈ ks.take i, (!sk u) = false) ∧ Below w.heap.size w wr) (fun v8 _ => ks.length - (intOf v8).toNat)
  case atStart => exact ⟨0, Nat.zero_le _, rfl, fun u hu => absurd hu (by simp), Below.refl _ _⟩
  case round =>
    obtain ⟨i, hi, rfl, hall, hb⟩ := hrel
    by_cases hlt : i < ks.length
    · obtain ⟨b, o, cc, he, hq⟩ := keys_all (HR.out.below hb (by omega)) (by omega)
      injection he with he1 he2 he3
      subst he1
      have q0 := hq i hlt
      clear he2 he3 hq
      have HZ := hid (HH.out ks[i] (List.getElem_mem hlt))
      cases hx : (!sk ks[i])
      · have HX := hid hx
        have HY := hid (any_takeP (P := fun x => !sk x) hall.out hlt hx)
        clear hx
        go_wp2_with fail
        refine (callb HX.out (isLong_any ks[i] _ HZ.out)).mono ?_
        rintro e w1 ⟨rfl, rfl⟩
        go_wp2_with fail
        go_roundw
        case rel => exact ⟨i + 1, by omega, by go_num, HY, hb⟩
        case measure => simp [intOf]; omega
      · have HX := hid hx
        have HY := hid (any_noP (P := fun x => !sk x) hlt hx)
        clear hx
        go_wp2_with fail
        refine (callb HX.out (isLong_any ks[i] _ HZ.out)).mono ?_
        rintro e w1 ⟨rfl, rfl⟩
        go_wp2_with fail
        go_ret
        exact ⟨(i : Int), rfl, by omega, by rw [← HD.out, HY.out]; simp, hb⟩
    · have HX := hid (any_endP hall.out hlt)
      go_wp2_with fail
      go_ret
      exact ⟨-1, rfl, by omega, by rw [← HD.out, HX.out]; simp, hb⟩

set_option maxRecDepth 100000 in
set_option maxHeartbeats 1000000 in
theorem containsLong (ks : List ByteArray) (H : ∀ x ∈ ks, x.size ≤ 9223372036854775807)
    (kv : Value) (w : World) (S : Nat → Prop) (hl : ks.length ≤ 9223372036854775807) (hr : RdN w S 1 kv ks.length (ks.map Value.string)) :
    Calls Try.prog 120 #[kv, .func (.func 121) #[] #[]] w fun e w' => e = .returned (.bool (!ks.all sk)) ∧ Below w.heap.size w w' := by
  have C := hid (indexLong ks H kv w S hl hr)
  obtain ⟨A, c, rfl, _, _⟩ := hr.form
  clear hr H
  have e1 : (ks.any fun x => !sk x) = !ks.all sk := by rw [List.not_all_eq_any_not]
  rw [e1] at C
  clear e1
  generalize (!ks.all sk) = dd at C
  go_enter Try.func120, Try.ntmps120
  go_wp2_with (go_at_call 145; refine C.out.mono ?_; rintro e w1 ⟨r, rfl, h1, h2, hb1⟩; have HI := hid h2; clear h2)
  go_ret
  refine ⟨ret_bool ?_, hb1⟩
  cases dd
  · have := HI.out
    simp at this
    simp; omega
  · have := HI.out
    simp at this
    simp; omega
end Go.Proofs.Ytpoofeiajmkfdaa
