/-
  The examples of 'works', computed.
-/
import Derived.Test.YtpoofeiajmkfdaaVFind
import Derived.Test.YtpoofeiajmkfdaaVEnc2
namespace Go.Proofs.Ytpoofeiajmkfdaa
open Go.RowKit

def strB (l : List UInt8) : ByteArray := ⟨l.toArray⟩
def mEx : V := .mk 5 0 ⟨#[]⟩ [intV 2, intV 1] [⟨#[97]⟩, ⟨#[98]⟩]
theorem of_same {r : V × Int} {v : V} {e : Int} (h : (V.same r.1 v && decide (r.2 = e)) = true) : r = (v, e) := by
  obtain ⟨a, b⟩ := r
  simp only [Bool.and_eq_true, decide_eq_true_eq] at h
  rw [(V.same_iff a v).1 h.1, h.2]
theorem map_ex1 : mapV [⟨#[98]⟩, ⟨#[97]⟩] [intV 1, intV 2] = (mEx, 0) := of_same (by decide +kernel)
theorem map_ex2 : mapV [⟨#[97]⟩, ⟨#[97]⟩] [intV 1, intV 2] = (nullV, 9) := of_same (by decide +kernel)
theorem get_ex : (if isM mEx = true then getV mEx ⟨#[97]⟩ else none) = some (intV 2) := by
  have : ∀ o : Option V, (match o with | some v => V.same v (intV 2) | none => false) = true → o = some (intV 2) := by
    intro o h
    cases o with
    | none => cases h
    | some v => rw [(V.same_iff v _).1 h]
  exact this _ (by decide +kernel)
theorem enc_ex : encV (listV [intV 5, textV ⟨#[120]⟩]) = [8, 4, 4, 10, 6, 2, 120] := by decide +kernel
theorem ord_ex : ord (intV 9) (textV ⟨#[]⟩) = -1 := by decide +kernel
end Go.Proofs.Ytpoofeiajmkfdaa
