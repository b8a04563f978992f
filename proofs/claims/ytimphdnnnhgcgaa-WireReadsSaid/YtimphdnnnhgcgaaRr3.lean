/-
  The reference's Reader: Int.
-/
import Derived.Test.YtimphdnnnhgcgaaRr2
namespace Go.Proofs.Ytimphdnnnhgcgaa
open Go.RowKit

def RIntPost (g : Nat) (l : List UInt8) (e lo hi : Int) (w : World) (en : Ending) (w' : World) : Prop :=
  en = .returned (.int .i64 (rInt l e lo hi).2.2) ∧ RR w' g (rInt l e lo hi).1 (rInt l e lo hi).2.1 ∧ Ch g w w'

theorem val_drop_le (l : List UInt8) (j : Nat) : Wi.val (l.drop j) ≤ Wi.val l := by
  induction l generalizing j with
  | nil => simp [Wi.val]
  | cons b t ih =>
    match j with
    | 0 => exact Nat.le_refl _
    | j + 1 =>
      have := ih j
      simp only [List.drop_succ_cons, Wi.val]
      omega

/-- The value of the groups from j to k. -/
def sv (l : List UInt8) (k j : Nat) : Nat := Wi.val ((l.take k).drop j)
theorem sv_end (l : List UInt8) (k : Nat) : sv l k k = 0 := by
  unfold sv
  rw [List.drop_of_length_le (by simp; omega)]
  rfl
theorem sv_step (l : List UInt8) (k t : Nat) (h : t < k) (hk : k ≤ l.length) : sv l k t = sv l k (t + 1) * 128 + (l.getD t 0).toNat % 128 := by
  unfold sv
  rw [List.drop_eq_getElem_cons (by simp; omega)]
  simp only [Wi.val]
  have : (l.take k)[t]'(by simp; omega) = l.getD t 0 := by
    simp [List.getElem_take, show t < l.length by omega]
  rw [this]
  omega
theorem sv_zero (l : List UInt8) (k : Nat) : sv l k 0 = Wi.val (l.take k) := rfl
theorem sv_le (l : List UInt8) (k j : Nat) : sv l k j ≤ Wi.val (l.take k) := val_drop_le _ _

/-- What pInt gives where there is no error. -/
theorem pInt_val {l : List UInt8} {n : Int} {k : Nat} (h : Wi.pInt l = (n, k, 0)) : 1 ≤ k ∧ k ≤ 10 ∧ k ≤ l.length ∧ n = Wi.unzig (Wi.val (l.take k)) ∧ Wi.val (l.take k) < 18446744073709551616 := by
  have h1 := Wi.pInt_err h
  have h2 := Wi.pInt_ok h
  have hk : 1 ≤ k ∧ k ≤ 10 := by
    rcases h1 with ⟨_, h1, h3⟩ | ⟨_, _, h1⟩
    · exact ⟨h1, h3⟩
    · omega
  refine ⟨hk.1, hk.2, h2.2.1, ?_, ?_⟩
  · rw [h2.1]; unfold Wi.enc; rw [Wi.val_digs, Wi.unzig_zig]
  · rw [h2.1]; unfold Wi.enc; rw [Wi.val_digs]; exact Wi.zig_lt n h2.2.2.1 h2.2.2.2

theorem unzig_cases (m : Nat) : (m % 2 = 0 ∧ Wi.unzig m = (m : Int) / 2) ∨ (m % 2 = 1 ∧ Wi.unzig m = -((m : Int) / 2) - 1) := by
  unfold Wi.unzig
  by_cases h : m % 2 = 0
  · left; rw [if_pos h]; exact ⟨h, by omega⟩
  · right; rw [if_neg h]; exact ⟨by omega, by omega⟩

set_option maxRecDepth 100000 in
set_option maxHeartbeats 2000000 in
theorem rint_any (g : Nat) (l : List UInt8) (e lo hi : Int) (w : World) (h : RR w g l e) :
    Calls Try.prog 28 #[.pointer (some ⟨g, 0, none⟩), .int .i64 lo, .int .i64 hi] w (RIntPost g l e lo hi w) := by
  have H := hid h
  have HI : Hid (∀ en w', (en = .returned (.int .i64 (rInt l e lo hi).2.2) ∧ RR w' g (rInt l e lo hi).1 (rInt l e lo hi).2.1 ∧ Ch g w w') → RIntPost g l e lo hi w en w') := fun _ _ h => h
  by_cases he : e = 0
  · subst he
    obtain ⟨v, hg, hb, _⟩ := h
    obtain ⟨A, c, rfl⟩ := hb.form
    have hc1 := cellAt hg 1
    have hf1 := freeAt hg 1
    simp at hc1
    clear hg
    have HB := hid hb
    clear hb
    have C41 := hid (fun W (h : RR W g l 0) => count_any g l 0 W h)
    unfold CountPost at C41
    unfold rInt at HI
    generalize hp : Wi.pInt l = p at C41 HI
    obtain ⟨n, k, e1⟩ := p
    by_cases he1 : e1 = 0
    · subst he1
      obtain ⟨hk1, hk10, hkl, hn, hv⟩ := pInt_val hp
      clear hp
      obtain ⟨A', hcut, hb'⟩ := HB.out.from k hkl
      have HB' := hid hb'
      have HN := hid hn
      have HV := hid hv
      have HKL := hid hkl
      clear hb' hn hv hkl
      go_enter Try.func28, Try.ntmps28
      go_wp2_with (first
        | (go_at_call 40; refine (stopped_any g l 0 _ H.out).mono ?_; rintro en w' ⟨rfl, rfl⟩)
        | (go_at_call 41; refine (C41.out _ H.out).mono ?_; rintro en w' ⟨rfl, rfl⟩))
      go_loop [9, 10] (fun v9 v10 => ∃ m : Nat, v9 = .int .u64 (m : Int) ∧ ((∃ t : Nat, t < k ∧ v10 = .int .i64 (t : Int) ∧ Hid (m = sv l k (t + 1))) ∨ (v10 = .int .i64 (-1) ∧ Hid (m = Wi.val (l.take k))))) (fun _ v10 => (intOf v10 + 1).toNat)
      case atStart => exact ⟨0, rfl, .inl ⟨k - 1, by omega, by go_num, by show _ = _; rw [show k - 1 + 1 = k by omega, sv_end]⟩⟩
      case round =>
        obtain ⟨m, rfl, hor⟩ := hrel
        rcases hor with ⟨t, htk, rfl, hm⟩ | ⟨rfl, hm⟩
        · have hst := sv_step l k t htk HKL.out
          have hle := sv_le l k t
          have hv' := HV.out
          have htl : t < l.length := by have := HKL.out; omega
          obtain ⟨ad, rfl, hcell⟩ := HB.out.at t (by have := HKL.out; omega)
          rw [← hm.out] at hst
          generalize (l.getD t 0).toNat = x at hcell hst
          have hbd : m * 128 + x % 128 < 18446744073709551616 := by omega
          have HST := hid hst
          clear hst hle hv'
          go_wp2
          go_round
          case rel =>
            refine ⟨m * 128 + x % 128, by go_num, ?_⟩
            by_cases ht0 : t = 0
            · right
              refine ⟨by go_num, ?_⟩
              show _ = _
              rw [← HST.out, ht0, sv_zero]
            · left
              refine ⟨t - 1, by omega, by go_num, ?_⟩
              show _ = _
              rw [← HST.out, show t - 1 + 1 = t by omega]
          case measure => simp [intOf]
        · rw [← hm.out] at HV HN
          have hm64 := HV.out
          clear hm
          have HM : Hid (n = Wi.unzig m) := HN.out
          rcases unzig_cases m with ⟨hpar, hz⟩ | ⟨hpar, hz⟩
          · have hp2 : ((m : Int) % 2 == 1) = false := by rw [beq_eq_false_iff_ne]; omega
            have HZ : Hid (n = (m : Int) / 2) := by show _ = _; rw [HM.out, hz]
            have HR : Hid ((n < lo ∨ hi < n) ↔ ((m : Int) / 2 < lo ∨ hi < (m : Int) / 2)) := by show _ ↔ _; rw [HZ.out]
            clear hpar hz
            by_cases hr : (m : Int) / 2 < lo ∨ hi < (m : Int) / 2
            · have HRR := hid (HR.out.2 hr)
              have hrr : (m : Int) / 2 < lo ∨ (lo ≤ (m : Int) / 2 ∧ hi < (m : Int) / 2) := by omega
              clear hr
              rcases hrr with z1 | ⟨z1, z2⟩
              all_goals
                go_wp2_with (go_at_call 42; refine (set_any g l 0 14 _ H.out).mono ?_; rintro en w' ⟨rfl, hr2, hch2⟩)
                go_ret
                refine HI.out _ _ ?_
                simp only [ne_eq, not_true_eq_false, if_false, if_pos HRR.out]
                exact ⟨rfl, hr2, hch2⟩
            · have HRR := hid (fun z => hr (HR.out.1 z))
              have z1 : lo ≤ (m : Int) / 2 := by omega
              have z2 : (m : Int) / 2 ≤ hi := by omega
              clear hr
              have hkl := HKL.out
              go_wp2
              go_ret
              refine HI.out _ _ ?_
              simp only [ne_eq, not_true_eq_false, if_false, if_neg HRR.out]
              exact ⟨ret_int HZ.out.symm, H.out.set1 HB'.out (fun h => absurd rfl h), Ch.set _ _ _ _⟩
          · have hp2 : ((m : Int) % 2 == 1) = true := by rw [beq_iff_eq]; omega
            have HZ : Hid (n = -((m : Int) / 2) - 1) := by show _ = _; rw [HM.out, hz]
            have HR : Hid ((n < lo ∨ hi < n) ↔ (-((m : Int) / 2) - 1 < lo ∨ hi < -((m : Int) / 2) - 1)) := by show _ ↔ _; rw [HZ.out]
            clear hpar hz
            by_cases hr : -((m : Int) / 2) - 1 < lo ∨ hi < -((m : Int) / 2) - 1
            · have HRR := hid (HR.out.2 hr)
              have hrr : -((m : Int) / 2) - 1 < lo ∨ (lo ≤ -((m : Int) / 2) - 1 ∧ hi < -((m : Int) / 2) - 1) := by omega
              clear hr
              rcases hrr with z1 | ⟨z1, z2⟩
              all_goals
                go_wp2_with (go_at_call 42; refine (set_any g l 0 14 _ H.out).mono ?_; rintro en w' ⟨rfl, hr2, hch2⟩)
                go_ret
                refine HI.out _ _ ?_
                simp only [ne_eq, not_true_eq_false, if_false, if_pos HRR.out]
                exact ⟨rfl, hr2, hch2⟩
            · have HRR := hid (fun z => hr (HR.out.1 z))
              have z1 : lo ≤ -((m : Int) / 2) - 1 := by omega
              have z2 : -((m : Int) / 2) - 1 ≤ hi := by omega
              clear hr
              have hkl := HKL.out
              go_wp2
              go_ret
              refine HI.out _ _ ?_
              simp only [ne_eq, not_true_eq_false, if_false, if_neg HRR.out]
              exact ⟨ret_int HZ.out.symm, H.out.set1 HB'.out (fun h => absurd rfl h), Ch.set _ _ _ _⟩
    · have he1' : (e1 != 0) = true := by simp [he1]
      have HR := hid he1
      clear he1 hp
      go_enter Try.func28, Try.ntmps28
      go_wp2_with (first
        | (go_at_call 40; refine (stopped_any g l 0 _ H.out).mono ?_; rintro en w' ⟨rfl, rfl⟩)
        | (go_at_call 41; refine (C41.out _ H.out).mono ?_; rintro en w' ⟨rfl, rfl⟩)
        | (go_at_call 42; refine (set_any g l 0 e1 _ H.out).mono ?_; rintro en w' ⟨rfl, hr2, hch2⟩))
      go_ret
      refine HI.out _ _ ?_
      simp only [ne_eq, not_true_eq_false, if_false, if_pos HR.out]
      exact ⟨rfl, hr2, hch2⟩
  · have he' : (e != 0) = true := by simp [he]
    have HR : Hid (rInt l e lo hi = (l, e, 0)) := by show _ = _; unfold rInt; rw [if_pos he]
    clear h he
    go_enter Try.func28, Try.ntmps28
    go_wp2_with (go_at_call 40; refine (stopped_any g l e _ H.out).mono ?_; rintro en w' ⟨rfl, rfl⟩)
    go_ret
    unfold RIntPost
    rw [HR.out]
    exact ⟨rfl, H.out, Ch.refl⟩
end Go.Proofs.Ytimphdnnnhgcgaa
