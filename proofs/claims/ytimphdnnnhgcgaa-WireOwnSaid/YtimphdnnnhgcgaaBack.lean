/-
  What was appended is read back, and what is read is its encoding: the plain facts on rInt, rText and rBool.
-/
import Derived.Test.YtimphdnnnhgcgaaLaw
namespace Go.Proofs.Ytimphdnnnhgcgaa
open Go.RowKit

theorem rInt_enc (n : Int) (rest : List UInt8) (lo hi : Int) (h1 : -9223372036854775808 ≤ n) (h2 : n ≤ 9223372036854775807) (hlo : lo ≤ n) (hhi : n ≤ hi) : rInt (Wi.enc n ++ rest) 0 lo hi = (rest, 0, n) := by
  unfold rInt
  rw [Wi.pInt_enc n rest h1 h2]
  simp
  omega
theorem rInt_enc_out (n : Int) (rest : List UInt8) (lo hi : Int) (h1 : -9223372036854775808 ≤ n) (h2 : n ≤ 9223372036854775807) (ho : n < lo ∨ hi < n) : rInt (Wi.enc n ++ rest) 0 lo hi = ([], 14, 0) := by
  unfold rInt
  rw [Wi.pInt_enc n rest h1 h2]
  simp
  omega
theorem rText_enc (s rest : List UInt8) (most : Int) (hs : s.length ≤ 9223372036854775807) (hm : (s.length : Int) ≤ most) : rText (encText s ++ rest) 0 most = (rest, 0, s) := by
  unfold rText encText
  rw [List.append_assoc, rInt_enc _ _ _ _ (by omega) (by omega) (by omega) hm]
  simp
theorem rBool_enc (b : Bool) (rest : List UInt8) : rBool (encBool b ++ rest) 0 = (rest, 0, b) := by
  cases b <;> simp [rBool, encBool]

theorem rInt_ok {l l' : List UInt8} {lo hi n : Int} (h : rInt l 0 lo hi = (l', 0, n)) : l = Wi.enc n ++ l' ∧ -9223372036854775808 ≤ n ∧ n ≤ 9223372036854775807 ∧ lo ≤ n ∧ n ≤ hi := by
  unfold rInt at h
  rw [if_neg (by simp)] at h
  split at h
  · rename_i h2
    simp only [Prod.mk.injEq] at h
    exact absurd h.2.1 h2
  · rename_i h2
    split at h
    · simp at h
    · rename_i h3
      simp only [Prod.mk.injEq] at h
      obtain ⟨rfl, _, rfl⟩ := h
      obtain ⟨h4, h5, h6, h7⟩ := Wi.pInt_ok (l := l) (n := (Wi.pInt l).1) (k := (Wi.pInt l).2.1) (by rw [show (0 : Int) = (Wi.pInt l).2.2 by omega])
      refine ⟨?_, h6, h7, by omega, by omega⟩
      rw [← h4, List.take_append_drop]
theorem rText_ok {l l' t : List UInt8} {most : Int} (h : rText l 0 most = (l', 0, t)) : l = encText t ++ l' := by
  unfold rText at h
  generalize hr : rInt l 0 0 most = p at h
  obtain ⟨l1, e1, n⟩ := p
  simp only [] at h
  split at h
  · rename_i h1
    simp only [Prod.mk.injEq] at h
    exact absurd h.2.1 h1
  · rename_i h1
    obtain rfl : e1 = 0 := by simpa using h1
    split at h
    · simp at h
    · rename_i h2
      simp only [Prod.mk.injEq] at h
      obtain ⟨rfl, _, rfl⟩ := h
      obtain ⟨rfl, _, _, h5, _⟩ := rInt_ok hr
      unfold encText
      rw [List.length_take_of_le (by omega), Int.toNat_of_nonneg h5, List.append_assoc, List.take_append_drop]
theorem rBool_ok {l l' : List UInt8} {b : Bool} (h : rBool l 0 = (l', 0, b)) : l = encBool b ++ l' := by
  match l with
  | [] => simp [rBool] at h
  | x :: t =>
    unfold rBool at h
    simp only [ne_eq, not_true_eq_false, if_false, List.length_cons, Nat.add_eq_zero_iff, Nat.succ_ne_self, and_false, List.getD_cons_zero, List.drop_succ_cons, List.drop_zero] at h
    split at h
    · simp at h
    · rename_i h1
      simp only [Prod.mk.injEq] at h
      obtain ⟨rfl, _, rfl⟩ := h
      have hx : x.toNat = 0 ∨ x.toNat = 1 := by omega
      rcases hx with hx | hx
      · obtain rfl : x = 0 := UInt8.toNat_inj.1 hx
        rfl
      · obtain rfl : x = 1 := UInt8.toNat_inj.1 hx
        rfl

/-- No encoding of an integer is a prefix of another one. -/
theorem enc_prefix {m n : Int} (hm1 : -9223372036854775808 ≤ m) (hm2 : m ≤ 9223372036854775807) (hn1 : -9223372036854775808 ≤ n) (hn2 : n ≤ 9223372036854775807) (h : Wi.enc m = (Wi.enc n).take (Wi.enc m).length) : m = n := by
  have h1 := Wi.pInt_enc n [] hn1 hn2
  rw [List.append_nil] at h1
  have h2 : Wi.enc n = Wi.enc m ++ (Wi.enc n).drop (Wi.enc m).length := by
    conv => rhs; lhs; rw [h]
    exact (List.take_append_drop _ _).symm
  rw [h2, Wi.pInt_enc m _ hm1 hm2] at h1
  simp only [Prod.mk.injEq] at h1
  exact h1.1

theorem strOf_str (s : ByteArray) : strOf s.data.toList = .string s := rfl
end Go.Proofs.Ytimphdnnnhgcgaa
