/-
  For WireOwn: a nil Reader, and one that Open did not return; Open's reader lies in new memory.
-/
import Derived.Test.YtimphdnnnhgcgaaRr4
namespace Go.Proofs.Ytimphdnnnhgcgaa
open Go.RowKit

/-- A nil Reader, or one that Open did not return. -/
def NR (w : World) (v : Value) : Prop :=
  v = .pointer none ∨ ∃ g x y, v = .pointer (some ⟨g, 0, none⟩) ∧ w.heap[g]? = some (.cells #[.pointer none, x, y] 48 (0, 0))

theorem nil_self (g : Nat) : ∀ W : World, (binOp .eql 30 (.pointer none) (.pointer (some ⟨g, 0, none⟩))).run Try.prog W = .ok (.bool false) W := by
  intro W
  have h : ∀ d : Nat, (Op.equalIn (d + 1) 30 (.pointer none) (.pointer (some ⟨g, 0, none⟩))).run Try.prog W = .ok false W := fun d => by
    simp [Op.equalIn, run_underlying Try.underlying30, sizeOf, typeInfo, sameAddr]
  simp only [binOp]
  simp [Op.equal, Op.maxDepth, h 9999]

set_option maxRecDepth 100000 in
set_option maxHeartbeats 400000 in
theorem opened_no (v : Value) (w : World) (h : NR w v) : Calls Try.prog 39 #[v] w fun en w' => en = .returned (.bool false) ∧ w = w' := by
  rcases h with rfl | ⟨g, x, y, rfl, hg⟩
  · go_enter Try.func39, Try.ntmps39
    go_wp2
    go_ret
    exact ⟨rfl, rfl⟩
  · have hc0 := cellAt hg 0
    have hns := nil_self g
    simp at hc0
    clear hg
    go_enter Try.func39, Try.ntmps39
    go_wp2
    go_ret
    exact ⟨rfl, rfl⟩

set_option maxRecDepth 100000 in
set_option maxHeartbeats 400000 in
theorem err_no (v : Value) (w : World) (h : NR w v) : Calls Try.prog 24 #[v] w fun en w' => en = .returned (.int .i64 1) ∧ w = w' := by
  have H := hid h
  clear h
  go_enter Try.func24, Try.ntmps24
  go_wp2_with (go_at_call 39; refine (opened_no v _ H.out).mono ?_; rintro en w' ⟨rfl, rfl⟩)
  go_ret
  exact ⟨rfl, rfl⟩

set_option maxRecDepth 100000 in
set_option maxHeartbeats 400000 in
theorem fail_no (v : Value) (e : Int) (w : World) (h : NR w v) : Calls Try.prog 26 #[v, .int .i64 e] w fun en w' => en = .returned (.tuple #[]) ∧ w = w' := by
  have H := hid h
  clear h
  go_enter Try.func26, Try.ntmps26
  go_wp2_with (go_at_call 24; refine (err_no v _ H.out).mono ?_; rintro en w' ⟨rfl, rfl⟩)
  refine bodyPost_ret (results_none rfl _ _ _) rfl ?_
  exact ⟨rfl, rfl⟩

set_option maxRecDepth 100000 in
set_option maxHeartbeats 400000 in
theorem int_no (v : Value) (lo hi : Int) (w : World) (h : NR w v) : Calls Try.prog 21 #[v, .int .i64 lo, .int .i64 hi] w fun en w' => en = .returned (.int .i64 0) ∧ w = w' := by
  have H := hid h
  clear h
  go_enter Try.func21, Try.ntmps21
  go_wp2_with (go_at_call 24; refine (err_no v _ H.out).mono ?_; rintro en w' ⟨rfl, rfl⟩)
  go_ret
  exact ⟨rfl, rfl⟩

set_option maxRecDepth 100000 in
set_option maxHeartbeats 400000 in
theorem text_no (v : Value) (most : Int) (w : World) (h : NR w v) : Calls Try.prog 22 #[v, .int .i64 most] w fun en w' => en = .returned (.string ⟨#[]⟩) ∧ w = w' := by
  have H := hid h
  clear h
  go_enter Try.func22, Try.ntmps22
  go_wp2_with (first
    | (go_at_call 21; refine (int_no v _ _ _ H.out).mono ?_; rintro en w' ⟨rfl, rfl⟩)
    | (go_at_call 24; refine (err_no v _ H.out).mono ?_; rintro en w' ⟨rfl, rfl⟩))
  go_ret
  exact ⟨rfl, rfl⟩

set_option maxRecDepth 100000 in
set_option maxHeartbeats 400000 in
theorem bool_no (v : Value) (w : World) (h : NR w v) : Calls Try.prog 23 #[v] w fun en w' => en = .returned (.bool false) ∧ w = w' := by
  have H := hid h
  clear h
  go_enter Try.func23, Try.ntmps23
  go_wp2_with (go_at_call 24; refine (err_no v _ H.out).mono ?_; rintro en w' ⟨rfl, rfl⟩)
  go_ret
  exact ⟨rfl, rfl⟩

set_option maxRecDepth 100000 in
set_option maxHeartbeats 400000 in
theorem end_no (v : Value) (w : World) (h : NR w v) : Calls Try.prog 27 #[v] w fun en w' => en = .returned (.int .i64 1) ∧ w = w' := by
  have H := hid h
  clear h
  go_enter Try.func27, Try.ntmps27
  go_wp2_with (go_at_call 24; refine (err_no v _ H.out).mono ?_; rintro en w' ⟨rfl, rfl⟩)
  go_ret
  exact ⟨rfl, rfl⟩

set_option maxRecDepth 100000 in
set_option maxHeartbeats 400000 in
theorem left_no (v : Value) (w : World) (h : NR w v) : Calls Try.prog 25 #[v] w fun en w' => en = .returned (.int .i64 0) ∧ w = w' := by
  have H := hid h
  clear h
  go_enter Try.func25, Try.ntmps25
  go_wp2_with (go_at_call 39; refine (opened_no v _ H.out).mono ?_; rintro en w' ⟨rfl, rfl⟩)
  go_ret
  exact ⟨rfl, rfl⟩

theorem OwnB.same {w w' : World} {base : Nat} {v : Value} {l : List UInt8} (h : OwnB w base v l) (hk : ∀ k, base ≤ k → k < w.heap.size → w'.heap[k]? = w.heap[k]?) : OwnB w' base v l := by
  rcases h.2 with ⟨rfl, h0⟩ | ⟨g, cap, cur, rfl, hbg, hg, h1⟩
  · exact ⟨h.1, .inl ⟨rfl, h0⟩⟩
  · exact ⟨h.1, .inr ⟨g, cap, cur, rfl, hbg, (hk g hbg (Array.getElem?_eq_some_iff.1 hg).1).trans hg, h1⟩⟩

/-- What Open leaves: the reader and its bytes lie in new memory: they stay while old memory is written. -/
def FarPost (l : List UInt8) (w : World) (en : Ending) (w' : World) : Prop :=
  ∃ g, en = .returned (.pointer (some ⟨g, 0, none⟩)) ∧ Below w.heap.size w w' ∧ w.heap.size ≤ g ∧ g < w'.heap.size ∧
    ∀ w'', (∀ k, w.heap.size ≤ k → k < w'.heap.size → w''.heap[k]? = w'.heap[k]?) → WR w'' g l 0

set_option maxRecDepth 100000 in
set_option maxHeartbeats 400000 in
theorem open_far (v : Value) (l : List UInt8) (w : World) (h : Bs w v l) (hl : l.length ≤ 1099511627776) :
    Calls Try.prog 18 #[v] w (FarPost l w) := by
  go_enter Try.func18, Try.ntmps18
  go_wp2_with (go_at_call 29; refine (clone_any v l 0 _ h (by omega) (by omega) hl).mono ?_; rintro en w1 ⟨v1, rfl, hown1, hb1⟩; obtain ⟨A1, c1, rfl⟩ := hown1.bs.form)
  go_ret
  have hg := heap_alloc_new w1 (.cells #[.pointer (some ⟨w1.heap.size, 0, none⟩), .slice A1 l.length c1, .int .i64 0] 48)
  have hb2 : Below w1.heap.size w1 (w1.alloc (.cells #[.pointer (some ⟨w1.heap.size, 0, none⟩), .slice A1 l.length c1, .int .i64 0] 48)) := (Below.refl _ _).alloc (Nat.le_refl _) _
  refine ⟨w1.heap.size, rfl, bstep hb1 hb2, hb1.size, by simp, fun w'' hk => ?_⟩
  have hown2 := hown1.below hb2
  exact ⟨_, (hk _ hb1.size (by simp)).trans hg, (hown2.same hk).bs, fun h => absurd rfl h⟩
end Go.Proofs.Ytimphdnnnhgcgaa
