/-
  The reference's functions that append (PutInt, PutText, PutBool of workflowref01), each by its contract: the same bytes as the program's.
-/
import Derived.Test.YtodcgdiejmdaaaaDoorPut
namespace Go.Proofs.YtodcgdiejmdaaaaDoor
open Go.RowKit

theorem Bs.alloc {w : World} {v : Value} {bs : List UInt8} (h : Bs w v bs) (o : Obj) : Bs (w.alloc o) v bs := h.below ((Below.refl _ _).alloc (Nat.le_refl _) o)

/-- 'append([]byte{}, b...)'. -/
theorem wpList_app0 {w : World} {ops : Array Oper} {rest : List Oper} {o : Oper} {a : Act} {Q : Exit → Act → World → Prop} (hgd : o.guard = none) (s x : Operand)
    (ho : o.op = .call { callee := .builtin .append, args := #[s, x], argTypes := #[48, 48] })
    (y : Value) (news : List UInt8) (hs : a.eval s = .slice (some ⟨w.heap.size, 0, none⟩) 0 0) (hx : a.eval x = y) (hrd : Bs w y news) (hl : news.length ≤ 140737488355328)
    (h : ∀ v' w', OwnB w' w.heap.size v' news → Below w.heap.size w w' → wpList Tryd.prog ops Q rest (a.put o.dst v') w') : wpList Tryd.prog ops Q (o :: rest) a (w.alloc (.cells #[] 5)) := by
  refine wpList_appB hgd s x ho w.heap.size _ y [] news hs (Own.lit (e := 5) w [] (Nat.le_refl _) (by simp)) hx (hrd.alloc _) (by simp; omega) (by simp) ?_
  intro v' w' h1 h2
  exact h v' w' h1 (((Below.refl w.heap.size w).alloc (Nat.le_refl _) _).trans h2)

/-- A byte of a string, as the walk reads it. -/
def sb (s : ByteArray) (k : Nat) : UInt8 := s.data.toList.getD k 0

end Go.Proofs.YtodcgdiejmdaaaaDoor
