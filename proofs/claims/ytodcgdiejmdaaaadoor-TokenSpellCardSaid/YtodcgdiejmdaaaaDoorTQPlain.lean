/-
  Layer 7, plain: literals and texts of tokens.
-/
import Derived.Test.YtodcgdiejmdaaaaDoorTPlain
namespace Go.Proofs.YtodcgdiejmdaaaaDoor
namespace Tk

def hexd (n : Nat) : UInt8 := [48, 49, 50, 51, 52, 53, 54, 55, 56, 57, 97, 98, 99, 100, 101, 102].getD n 0
/-- What stands for a byte in a canonical literal. -/
def qc (c : UInt8) : List UInt8 :=
  if c.toNat = 34 ∨ c.toNat = 92 then [92, c] else if c.toNat = 10 then [92, 110] else if c.toNat = 9 then [92, 116]
  else if c.toNat < 32 ∨ c.toNat > 126 then [92, 120, hexd (c.toNat / 16), hexd (c.toNat % 16)] else [c]
def quote (l : List UInt8) : List UInt8 := 34 :: (l.flatMap qc ++ [34])
theorem qc_len (c : UInt8) : (qc c).length ≤ 4 := by
  unfold qc
  repeat' split
  all_goals simp
theorem qcs_len (l : List UInt8) : (l.flatMap qc).length ≤ 4 * l.length := by
  induction l with
  | nil => simp
  | cons c l ih =>
    have := qc_len c
    rw [List.flatMap_cons, List.length_append, List.length_cons]; omega
theorem take_step {l : List UInt8} {k : Nat} (h : k < l.length) : (l.take (k + 1)).flatMap qc = (l.take k).flatMap qc ++ qc l[k] := by
  rw [List.take_succ_eq_append_getElem h, List.flatMap_append]; simp
end Tk
end Go.Proofs.YtodcgdiejmdaaaaDoor
