/-
  The program's Reader: Int, Text and Bool, each by its contract: what it returns, what the reader holds behind it, and that nothing else has changed.
-/
import Derived.Test.YtpoofeiajmkfdaaFst
namespace Go.Proofs.Ytpoofeiajmkfdaa
open Go.RowKit

/-- What Int gives: the bytes left, the error, the integer. -/
def rInt (l : List UInt8) (e lo hi : Int) : List UInt8 × Int × Int :=
  if e ≠ 0 then (l, e, 0)
  else if (Wi.pInt l).2.2 ≠ 0 then ([], (Wi.pInt l).2.2, 0)
  else if (Wi.pInt l).1 < lo ∨ hi < (Wi.pInt l).1 then ([], 14, 0)
  else (l.drop (Wi.pInt l).2.1, 0, (Wi.pInt l).1)

def IntPost (g : Nat) (l : List UInt8) (e lo hi : Int) (w : World) (en : Ending) (w' : World) : Prop :=
  en = .returned (.int .i64 (rInt l e lo hi).2.2) ∧ WR w' g (rInt l e lo hi).1 (rInt l e lo hi).2.1 ∧ Ch g w w'

/-- 's[k:]'. -/
theorem Bs.from {w : World} {A : Option Addr} {c : Nat} {l : List UInt8} (h : Bs w (.slice A l.length c) l) (k : Nat) (hk : k ≤ l.length) :
    ∃ A', (∀ W : World, (Instr.slice 50 (.slice A l.length c) (some (.int .i64 (k : Int))) none none).run Try.prog W = .ok (.slice A' (l.length - k) (c - k)) W) ∧ Bs w (.slice A' (l.length - k) (c - k)) (l.drop k) := by
  obtain ⟨i0, hi, hz0, hz1, hz2⟩ := info_parts Try.info5
  have hel : Try.prog.underlying 50 = some (.slice (Try.prog.elem 50)) := by kernel_rfl
  have hel5 : Try.prog.elem 50 = 5 := by kernel_rfl
  refine ⟨if c = k then A else A.map (·.add (k * 1)), fun W => ?_, ?_⟩
  · rw [run_slice_l W 50 A l.length c hel .i64 (k : Int) (by omega) (by omega), hel5]
    simp [sizeOf, typeInfo, hi, hz1, sliced]
  · obtain ⟨A', c', hv, h1, h2, h3⟩ := h
    injection hv with e1 e2 e3
    subst e1 e3
    refine ⟨if c = k then A else A.map (·.add (k * 1)), c - k, by simp, by simp at h1 ⊢; omega, by omega, ?_⟩
    by_cases hkl : k = l.length
    · left; simp [hkl]
    · right
      rcases h3 with h3 | ⟨ad, rfl, h3⟩
      · have h0 : l.length = 0 := by simpa using congrArg List.length h3
        omega
      · simp at h1
        rw [if_neg (by omega)]
        refine ⟨ad.add k, by simp, fun j u hu => ?_⟩
        rw [Go.Deep.add_add]
        exact h3 _ u (by rw [← hu, List.map_drop, List.getElem?_drop])

/-- 's[:k]'. -/
theorem Bs.upto {w : World} {A : Option Addr} {c : Nat} {l : List UInt8} (h : Bs w (.slice A l.length c) l) (k : Nat) (hk : k ≤ l.length) :
    ∃ A', (∀ W : World, (Instr.slice 50 (.slice A l.length c) none (some (.int .i64 (k : Int))) none).run Try.prog W = .ok (.slice A' k c) W) ∧ Bs w (.slice A' k c) (l.take k) := by
  obtain ⟨i0, hi, hz0, hz1, hz2⟩ := info_parts Try.info5
  have hel : Try.prog.underlying 50 = some (.slice (Try.prog.elem 50)) := by kernel_rfl
  have hel5 : Try.prog.elem 50 = 5 := by kernel_rfl
  obtain ⟨A', c', hv, h1, h2, h3⟩ := h
  injection hv with e1 e2 e3
  subst e1 e3
  simp at h1
  refine ⟨if c = 0 then A else A.map (·.add (0 * 1)), fun W => ?_, ?_⟩
  · rw [run_slice_h W 50 A l.length c hel .i64 (k : Int) (by omega) (by omega), hel5]
    simp [sizeOf, typeInfo, hi, hz1, sliced]
  · refine ⟨if c = 0 then A else A.map (·.add (0 * 1)), c, by simp [Nat.min_eq_left hk], by simp; omega, by omega, ?_⟩
    by_cases hk0 : l.length = 0
    · left; simp [List.eq_nil_of_length_eq_zero hk0]
    · right
      rcases h3 with h3 | ⟨ad, rfl, h3⟩
      · have := congrArg List.length h3
        simp at this
        simp [this] at hk0
      · rw [if_neg (by omega)]
        refine ⟨ad, by simp [Addr.add], fun j u hu => h3 _ u ?_⟩
        rw [List.map_take, List.getElem?_take] at hu
        split at hu
        · exact hu
        · cases hu

set_option maxRecDepth 100000 in
set_option maxHeartbeats 400000 in
theorem int_any (g : Nat) (l : List UInt8) (e lo hi : Int) (w : World) (h : WR w g l e) :
    Calls Try.prog 130 #[.pointer (some ⟨g, 0, none⟩), .int .i64 lo, .int .i64 hi] w (IntPost g l e lo hi w) := by
  have H := hid h
  by_cases he : e = 0
  · subst he
    obtain ⟨v, hg, hb, _⟩ := h
    obtain ⟨A, c, rfl⟩ := hb.form
    have hc1 := cellAt hg 1
    have hf1 := freeAt hg 1
    simp at hc1
    clear hg
    have HB := hid hb
    clear hb
    have C38 := hid (fun W (h : Bs W (.slice A l.length c) l) => first_any (.slice A l.length c) l W h)
    unfold FirstPost at C38
    have HI : Hid (∀ en w', (en = .returned (.int .i64 (rInt l 0 lo hi).2.2) ∧ WR w' g (rInt l 0 lo hi).1 (rInt l 0 lo hi).2.1 ∧ Ch g w w') → IntPost g l 0 lo hi w en w') := fun _ _ h => h
    unfold rInt at HI
    have HK : Hid ((Wi.pInt l).2.2 = 0 → (Wi.pInt l).2.1 ≤ l.length) := fun h0 => (Wi.pInt_ok (l := l) (n := (Wi.pInt l).1) (k := (Wi.pInt l).2.1) (by rw [← h0])).2.1
    generalize Wi.pInt l = p at C38 HI HK
    obtain ⟨n, k, e1⟩ := p
    by_cases he1 : e1 = 0
    · subst he1
      by_cases hr : n < lo ∨ hi < n
      · have HR := hid hr
        have hrr : n < lo ∨ (lo ≤ n ∧ hi < n) := by omega
        clear hr
        rcases hrr with h1 | ⟨h1, h2⟩
        all_goals
          go_enter Try.func130, Try.ntmps130
          go_wp2_with (first
            | (go_at_call 52; refine (err_any g l 0 _ H.out).mono ?_; rintro en w' ⟨rfl, rfl⟩)
            | (go_at_call 148; refine (C38.out _ HB.out).mono ?_; rintro en w' ⟨rfl, rfl⟩)
            | (go_at_call 129; refine (fail_any g l 0 14 _ H.out).mono ?_; rintro en w' ⟨rfl, hwr, hch⟩))
          go_ret
          refine HI.out _ _ ?_
          simp only [ne_eq, not_true_eq_false, if_false, if_pos HR.out]
          exact ⟨rfl, by simpa using hwr, hch⟩
      · obtain ⟨A', hcut, hb'⟩ := HB.out.from k (HK.out rfl)
        have HB' := hid hb'
        have HR := hid hr
        have h1 : lo ≤ n := by omega
        have h2 : n ≤ hi := by omega
        clear hb' hr
        go_enter Try.func130, Try.ntmps130
        go_wp2_with (first
          | (go_at_call 52; refine (err_any g l 0 _ H.out).mono ?_; rintro en w' ⟨rfl, rfl⟩)
          | (go_at_call 148; refine (C38.out _ HB.out).mono ?_; rintro en w' ⟨rfl, rfl⟩))
        go_ret
        refine HI.out _ _ ?_
        simp only [ne_eq, not_true_eq_false, if_false, if_neg HR.out]
        exact ⟨rfl, H.out.set1 HB'.out (fun h => absurd rfl h), Ch.set _ _ _ _⟩
    · have he1' : (e1 != 0) = true := by simp [he1]
      have he1'' : (e1 == 0) = false := by simp [he1]
      have HR := hid he1
      clear he1
      go_enter Try.func130, Try.ntmps130
      go_wp2_with (first
        | (go_at_call 52; refine (err_any g l 0 _ H.out).mono ?_; rintro en w' ⟨rfl, rfl⟩)
        | (go_at_call 148; refine (C38.out _ HB.out).mono ?_; rintro en w' ⟨rfl, rfl⟩)
        | (go_at_call 129; refine (fail_any g l 0 e1 _ H.out).mono ?_; rintro en w' ⟨rfl, hwr, hch⟩))
      go_ret
      refine HI.out _ _ ?_
      simp only [ne_eq, not_true_eq_false, if_false, if_pos HR.out]
      have hr1 : ¬ ((0 : Int) ≠ 0 ∨ e1 = 0) := by have := HR.out; omega
      rw [if_neg hr1, if_neg hr1] at hwr
      exact ⟨rfl, hwr, hch⟩
  · have he' : (e != 0) = true := by simp [he]
    have HR : Hid (rInt l e lo hi = (l, e, 0)) := by show _ = _; unfold rInt; rw [if_pos he]
    clear h he
    go_enter Try.func130, Try.ntmps130
    go_wp2_with (go_at_call 52; refine (err_any g l e _ H.out).mono ?_; rintro en w' ⟨rfl, rfl⟩)
    go_ret
    unfold IntPost
    rw [HR.out]
    exact ⟨rfl, H.out, Ch.refl⟩
end Go.Proofs.Ytpoofeiajmkfdaa
