/-
  The function 'equal' of the statements: whether two slices of bytes are equal.
-/
import Derived.Test.YtodcgdiejmdaaaaDoorRef
import Derived.Deep.QuietTactic
import Derived.BigQuiet
namespace Go.Proofs.YtodcgdiejmdaaaaDoor
open Go.RowKit

theorem Bs.at {w : World} {A : Option Addr} {n c : Nat} {bs : List UInt8} (h : Bs w (.slice A n c) bs) (k : Nat) (hk : k < bs.length) : ∃ ad, A = some ad ∧ w.cell? (ad.add k) = some (.int .u8 ((bs.getD k 0).toNat : Int)) := by
  obtain ⟨A', c', hv, _, _, h3⟩ := h
  injection hv with e1 e2 e3
  subst e1
  rcases h3 with h3 | ⟨ad, rfl, h3⟩
  · have := congrArg List.length h3
    simp at this
    subst this
    simp at hk
  · refine ⟨ad, rfl, h3 k _ ?_⟩
    simp [by8, List.getElem?_map, List.getElem?_eq_getElem hk]

theorem snoc_same {l1 l2 : List UInt8} {k : Nat} (h : l1.take k = l2.take k) (h1 : k < l1.length) (h2 : k < l2.length) (he : l1.getD k 0 = l2.getD k 0) : Hid (l1.take (k + 1) = l2.take (k + 1)) := by
  show _ = _
  rw [List.take_succ_eq_append_getElem h1, List.take_succ_eq_append_getElem h2, h]
  simp [h1, h2] at he
  rw [he]
theorem take_all {l1 l2 : List UInt8} {k : Nat} (h : l1.take k = l2.take k) (h1 : l1.length ≤ k) (h2 : l2.length ≤ k) : l1 = l2 := by
  rwa [List.take_of_length_le h1, List.take_of_length_le h2] at h

end Go.Proofs.YtodcgdiejmdaaaaDoor
