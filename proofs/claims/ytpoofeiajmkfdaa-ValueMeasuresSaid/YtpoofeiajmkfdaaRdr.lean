/-
  The program's Reader in memory, and its small methods: opened, Err, Left, End, Fail.
-/
import Derived.Test.YtpoofeiajmkfdaaEq
import Derived.LaidEqlPtr
import Derived.Laws.IdiomStrings
namespace Go.Proofs.Ytpoofeiajmkfdaa
open Go.RowKit

/-- The Reader at block g has the bytes l left, and the error e. -/
def WR (w : World) (g : Nat) (l : List UInt8) (e : Int) : Prop :=
  ∃ v, w.heap[g]? = some (.cells #[.pointer (some ⟨g, 0, none⟩), v, .int .i64 e] 83 (0, 0)) ∧ Bs w v l ∧ (e ≠ 0 → l = [])

theorem cellAt {w : World} {g : Nat} {cs : Array Value} {t : TypeId} {fr : Nat × Nat} (h : w.heap[g]? = some (.cells cs t fr)) (i : Nat) : w.cell? ⟨g, i, none⟩ = cs[i]? := cell_of_row w g i cs t fr h
theorem freeAt {w : World} {g : Nat} {cs : Array Value} {t : TypeId} (h : w.heap[g]? = some (.cells cs t (0, 0))) (i : Nat) : w.frozen? ⟨g, i, none⟩ = false := frozen_of_row w g i cs t h

theorem Try.info83 : (Try.prog.info? 83).isSome = true := by kernel_rfl
theorem same30 (g : Nat) : ∀ W : World, (binOp .eql 53 (.pointer (some ⟨g, 0, none⟩)) (.pointer (some ⟨g, 0, none⟩))).run Try.prog W = .ok (.bool true) W := by
  obtain ⟨j, hj⟩ := Option.isSome_iff_exists.1 Try.info83
  exact fun W => run_eql_ptr_same W ⟨g, 0, none⟩ Try.underlying53 hj

set_option maxRecDepth 100000 in
set_option maxHeartbeats 400000 in
theorem opened_any (g : Nat) (l : List UInt8) (e : Int) (w : World) (h : WR w g l e) :
    Calls Try.prog 86 #[.pointer (some ⟨g, 0, none⟩)] w fun en w' => en = .returned (.bool true) ∧ w = w' := by
  obtain ⟨v, hg, _, _⟩ := h
  have hc0 := cellAt hg 0
  have hs := same30 g
  simp at hc0
  clear hg
  go_enter Try.func86, Try.ntmps86
  go_wp2
  go_ret
  exact ⟨rfl, rfl⟩

set_option maxRecDepth 100000 in
set_option maxHeartbeats 400000 in
theorem err_any (g : Nat) (l : List UInt8) (e : Int) (w : World) (h : WR w g l e) :
    Calls Try.prog 52 #[.pointer (some ⟨g, 0, none⟩)] w fun en w' => en = .returned (.int .i64 e) ∧ w = w' := by
  have H := hid h
  obtain ⟨v, hg, _, _⟩ := h
  have hc2 := cellAt hg 2
  simp at hc2
  clear hg
  go_enter Try.func52, Try.ntmps52
  go_wp2_with (go_at_call 86; refine (opened_any g l e _ H.out).mono ?_; rintro en w' ⟨rfl, rfl⟩)
  go_ret
  exact ⟨rfl, rfl⟩

set_option maxRecDepth 100000 in
set_option maxHeartbeats 400000 in
theorem left_any (g : Nat) (l : List UInt8) (e : Int) (w : World) (h : WR w g l e) :
    Calls Try.prog 54 #[.pointer (some ⟨g, 0, none⟩)] w fun en w' => en = .returned (.int .i64 (l.length : Int)) ∧ w = w' := by
  have H := hid h
  obtain ⟨v, hg, hb, _⟩ := h
  obtain ⟨A, c, rfl⟩ := hb.form
  have hc1 := cellAt hg 1
  simp at hc1
  clear hg hb
  go_enter Try.func54, Try.ntmps54
  go_wp2_with (go_at_call 86; refine (opened_any g l e _ H.out).mono ?_; rintro en w' ⟨rfl, rfl⟩)
  go_ret
  exact ⟨rfl, rfl⟩

def endOf (l : List UInt8) (e : Int) : Int := if e ≠ 0 then e else if l.length = 0 then 0 else 3

end Go.Proofs.Ytpoofeiajmkfdaa
