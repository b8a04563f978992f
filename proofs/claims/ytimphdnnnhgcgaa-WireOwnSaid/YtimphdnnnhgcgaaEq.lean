/-
  The function 'equal' of the statements: whether two slices of bytes are equal.
-/
import Derived.Test.YtimphdnnnhgcgaaRef
import Derived.Deep.QuietTactic
import Derived.BigQuiet
namespace Go.Proofs.Ytimphdnnnhgcgaa
open Go.RowKit

theorem Bs.at {w : World} {A : Option Addr} {n c : Nat} {bs : List UInt8} (h : Bs w (.slice A n c) bs) (k : Nat) (hk : k < bs.length) : ∃ ad, A = some ad ∧ w.cell? (ad.add k) = some (.int .u8 ((bs.getD k 0).toNat : Int)) := by
  obtain ⟨A', c', hv, _, _, h3⟩ := h
  injection hv with e1 e2 e3
  subst e1
  rcases h3 with h3 | ⟨ad, rfl, h3⟩
  · have := congrArg List.length h3
    simp at this
    subst this
    simp at hk
  · refine ⟨ad, rfl, h3 k _ ?_⟩
    simp [by8, List.getElem?_map, List.getElem?_eq_getElem hk]

theorem snoc_same {l1 l2 : List UInt8} {k : Nat} (h : l1.take k = l2.take k) (h1 : k < l1.length) (h2 : k < l2.length) (he : l1.getD k 0 = l2.getD k 0) : Hid (l1.take (k + 1) = l2.take (k + 1)) := by
  show _ = _
  rw [List.take_succ_eq_append_getElem h1, List.take_succ_eq_append_getElem h2, h]
  simp [h1, h2] at he
  rw [he]
theorem take_all {l1 l2 : List UInt8} {k : Nat} (h : l1.take k = l2.take k) (h1 : l1.length ≤ k) (h2 : l2.length ≤ k) : l1 = l2 := by
  rwa [List.take_of_length_le h1, List.take_of_length_le h2] at h

set_option maxRecDepth 100000 in
set_option maxHeartbeats 400000 in
theorem equal_any (v1 v2 : Value) (l1 l2 : List UInt8) (w : World) (h1 : Bs w v1 l1) (h2 : Bs w v2 l2) :
    Calls Try.prog 11 #[v1, v2] w fun e w' => e = .returned (.bool (decide (l1 = l2))) ∧ ∃ nd, w' = w.drewN nd := by
  obtain ⟨A1, c1, rfl⟩ := h1.form
  obtain ⟨A2, c2, rfl⟩ := h2.form
  by_cases hlen : l1.length = l2.length
  · generalize hn : l2.length = n at hlen h2
    have h63 : n ≤ 9223372036854775807 := by
      obtain ⟨A', c', hv, hc1, hc2, _⟩ := h1
      unfold maxLen at hc2
      simp at hc1
      omega
    rw [hlen] at h1 ⊢
    have HL1 := hid hlen
    have HL2 := hid hn
    have H1 := hid h1
    have H2 := hid h2
    clear hlen hn h1 h2
    go_enter Try.func11, Try.ntmps11
    go_wp2
    go_loopw [13] (fun v13 wr => ∃ k : Nat, k ≤ n ∧ v13 = .int .i64 k ∧ Hid (l1.take k = l2.take k) ∧ ∃ nd, wr = w.drewN nd) (fun v13 _ => n - (intOf v13).toNat)
    case atStart => exact ⟨0, Nat.zero_le _, rfl, (rfl : l1.take 0 = l2.take 0), 0, rfl⟩
    case round =>
      obtain ⟨k, hk, rfl, hpre, nd, rfl⟩ := hrel
      by_cases hlt : k < n
      · obtain ⟨ad1, rfl, hc1⟩ := H1.out.at k (by rw [HL1.out]; exact hlt)
        obtain ⟨ad2, rfl, hc2⟩ := H2.out.at k (by rw [HL2.out]; exact hlt)
        generalize hx : l1.getD k 0 = x at hc1
        generalize hy : l2.getD k 0 = y at hc2
        have HX := hid hx
        have HY := hid hy
        clear hx hy
        have hk0 : (0 : Int) ≤ (k : Int) := by omega
        have hk1 : (k : Int) < (n : Int) := by omega
        by_cases hxy : x = y
        · have hne : ((x.toNat : Int) != (y.toNat : Int)) = false := by rw [hxy]; simp
          have HXY := hid hxy
          clear hxy
          go_wp2
          go_quiet (fail)
          go_wp2
          go_roundw
          case rel => exact ⟨k + 1, by omega, by go_num, snoc_same hpre.out (by rw [HL1.out]; exact hlt) (by rw [HL2.out]; exact hlt) (by rw [HX.out, HY.out]; exact HXY.out), _, rfl⟩
          case measure => simp [intOf]; omega
        · have hne : ((x.toNat : Int) != (y.toNat : Int)) = true := by
            rw [bne_iff_ne]
            intro e
            exact hxy (UInt8.toNat_inj.1 (by omega))
          have HD : Hid (l1 ≠ l2) := fun e => hxy (by rw [← HX.out, ← HY.out, e])
          clear hxy
          go_wp2
          go_quiet (fail)
          go_wp2
          go_ret
          exact ⟨ret_bool (decide_eq_false HD.out).symm, nd + nq, World.drewN_drewN _ _ _⟩
      · go_wp2
        go_ret
        exact ⟨ret_bool (decide_eq_true (take_all hpre.out (by rw [HL1.out]; omega) (by rw [HL2.out]; omega))).symm, nd, rfl⟩
  · have hne : ((l1.length : Int) != (l2.length : Int)) = true := by rw [bne_iff_ne]; omega
    have HD : Hid (l1 ≠ l2) := fun e => hlen (by rw [e])
    clear hlen
    go_enter Try.func11, Try.ntmps11
    go_wp2
    go_ret
    exact ⟨ret_bool (decide_eq_false HD.out).symm, 0, rfl⟩
end Go.Proofs.Ytimphdnnnhgcgaa
