/-
  'string(b)' of bytes (for a seat without layer 1's texts).
-/
import Derived.Test.YtodcgdiejmdaaaaDoorOpn
import Derived.Test.YtodcgdiejmdaaaaDoorEq
namespace Go.Proofs.YtodcgdiejmdaaaaDoor
open Go.RowKit

def strOf (l : List UInt8) : Value := .string ⟨l.toArray⟩
theorem strOf_str (s : ByteArray) : strOf s.data.toList = .string s := rfl

set_option maxRecDepth 100000 in
/-- 'string(b)'. -/
theorem Bs.conv {w : World} {A : Option Addr} {n c : Nat} {l : List UInt8} (h : Bs w (.slice A n c) l) :
    (convert 48 9 (.slice A n c)).run Tryd.prog w = .ok (strOf l) w := by
  obtain ⟨A', c', hv, _, _, h3⟩ := h
  injection hv with e1 e2 e3
  subst e1 e2 e3
  rcases h3 with h3 | ⟨ad, rfl, h3⟩
  · have hl : l = [] := List.map_eq_nil_iff.1 h3
    subst hl
    rw [run_convert_bytes_string w 48 9 5 A _ c Tryd.underlying48 Tryd.underlying5 Tryd.underlying9]
    cases A with
    | none => simp [Conv.bytesToString]; rfl
    | some ad =>
      have := run_bytesToString (P := Tryd.prog) w ad 0 c [] (by simp [loadCells, loadCellsFrom])
      exact this
  · have := run_convert_bytes_back (P := Tryd.prog) w 48 9 5 ad c l Tryd.underlying48 Tryd.underlying5 Tryd.underlying9 (fun j hj => h3 j _ (by simp [by8, hj]))
    simpa [strOf] using this

end Go.Proofs.YtodcgdiejmdaaaaDoor
