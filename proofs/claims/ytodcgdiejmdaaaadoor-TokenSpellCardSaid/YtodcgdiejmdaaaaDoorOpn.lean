/-
  What every law wants that takes bytes: an argument of bytes opened; the bounds of an int.
-/
import Derived.Test.YtodcgdiejmdaaaaDoorPut
import Derived.ProofKit
import Derived.OpenShut
namespace Go.Proofs.YtodcgdiejmdaaaaDoor
open Go.ChangeShapes Go.WideShapes Go.ChangeAt Go.RowKit

set_option maxRecDepth 100000 in
theorem open_bytes {H : Type} {enc : TypeId × Value → H} {W : World} {base base' : Nat} {sp : Nat → Bool} {hd : Bool} {r : Reach} {v : Value} {d : DataW H} {ps : List MemPlace}
    (hval : Value.okWide Tryd.prog W r base' 48 v) (h : DataW.Trod enc Tryd.prog W base sp hd 48 v d ps) : ∃ bs : List UInt8, Bs W v bs := by
  obtain ⟨A, len, cap, rfl⟩ := okWide_slice Tryd.underlying48 hval
  obtain ⟨fuel, hf⟩ := h
  rcases open_ints Tryd.underlying48 Tryd.underlying5 (by kernel_rfl) hf with ⟨hcs, _⟩ | ⟨x, l, c, zs, hcs, _, hl, hm, hz, _, hcell, hwz⟩
  · simp [Value.cells] at hcs
    obtain ⟨rfl, rfl, rfl⟩ := hcs
    exact ⟨[], Bs.nil W⟩
  · simp [Value.cells] at hcs
    obtain ⟨rfl, rfl, rfl⟩ := hcs
    have hzl : len ≤ zs.length := by rw [hz]; split <;> omega
    refine ⟨(zs.take len).map fun n => UInt8.ofNat n.toNat, some x, cap, ?_, ?_, hm, .inr ⟨x, rfl, fun j u hu => ?_⟩⟩
    · simp [Nat.min_eq_left hzl]
    · simp; omega
    · rw [List.getElem?_map, List.getElem?_map, List.getElem?_take] at hu
      split at hu
      · rename_i hj
        have hjl : j < zs.length := by omega
        rw [List.getElem?_eq_getElem hjl] at hu
        simp at hu
        rw [hcell j hjl, ← hu]
        have hb := bounds_u8 (hwz zs[j] (List.getElem_mem hjl))
        unfold by8
        rw [Wi.ofNat_toNat (by omega)]
        simp [hjl]
        omega
      · simp at hu

theorem int_lo {n : Int} (h : (Lit.int .i64 n).wf = true) : -9223372036854775808 ≤ n := by
  simp [Lit.wf, IntKind.min, IntKind.max, IntKind.signed, IntKind.bits] at h
  omega
theorem int_hi {n : Int} (h : (Lit.int .i64 n).wf = true) : n ≤ 9223372036854775807 := by
  simp [Lit.wf, IntKind.min, IntKind.max, IntKind.signed, IntKind.bits] at h
  omega
end Go.Proofs.YtodcgdiejmdaaaaDoor
