/-
  Comparing two tokens.
-/
import Derived.Test.YtodcgdiejmdaaaaDoorTApp
import Derived.Laws.StructEq
namespace Go.Proofs.YtodcgdiejmdaaaaDoor
open Go.RowKit

theorem byS_list (a : List UInt8) : (byS a).toList = a := by rw [ByteArray.toList_eq]; rfl
theorem tok_split (t u : Tk.T) : decide (t = u) = (((t.k == u.k) && (t.at_ == u.at_)) && ((decide (t.t = u.t)) && (t.n == u.n))) := by
  obtain ⟨k, a, s, n⟩ := t
  obtain ⟨k', a', s', n'⟩ := u
  rw [Bool.eq_iff_iff]
  simp
  constructor
  · rintro ⟨h1, h2, h3, h4⟩; exact ⟨⟨h1, h2⟩, h3, h4⟩
  · rintro ⟨⟨h1, h2⟩, h3, h4⟩; exact ⟨h1, h2, h3, h4⟩
theorem fieldsTok : (Tryd.prog.fieldsOf 30).toList.map (fun f => (f.name, f.type, f.offset)) = [("Kind", 3, 0), ("At", 3, 1), ("Text", 9, 2), ("Int", 3, 3)] := by kernel_rfl
theorem eq_tok (t u : Tk.T) (w : World) : (Op.equalIn 10000 30 (.agg #[.int .i64 t.k, .int .i64 t.at_, .string (byS t.t), .int .i64 t.n]) (.agg #[.int .i64 u.k, .int .i64 u.at_, .string (byS u.t), .int .i64 u.n])).run Tryd.prog w = .ok (decide (t = u)) w := by
  rw [run_equalIn_struct w 9999 _ _ _ (by kernel_rfl) (by kernel_rfl)]
  have hf := fieldsTok
  generalize (Tryd.prog.fieldsOf 30).toList = fs at hf
  obtain ⟨f1, fs, rfl⟩ : ∃ f r, fs = f :: r := by
    cases fs with
    | nil => simp at hf
    | cons f r => exact ⟨f, r, rfl⟩
  obtain ⟨f2, fs, rfl⟩ : ∃ f r, fs = f :: r := by
    cases fs with
    | nil => simp at hf
    | cons f r => exact ⟨f, r, rfl⟩
  obtain ⟨f3, fs, rfl⟩ : ∃ f r, fs = f :: r := by
    cases fs with
    | nil => simp at hf
    | cons f r => exact ⟨f, r, rfl⟩
  obtain ⟨f4, fs, rfl⟩ : ∃ f r, fs = f :: r := by
    cases fs with
    | nil => simp at hf
    | cons f r => exact ⟨f, r, rfl⟩
  obtain rfl : fs = [] := by
    cases fs with
    | nil => rfl
    | cons f r => simp at hf
  simp only [List.map_cons, List.map_nil, List.cons.injEq, Prod.mk.injEq, and_true] at hf
  obtain ⟨⟨n1, t1, o1⟩, ⟨n2, t2, o2⟩, ⟨n3, t3, o3⟩, ⟨n4, t4, o4⟩⟩ := hf
  rw [tok_split]
  simp only [Op.eqFields, n1, t1, o1, n2, t2, o2, n3, t3, o3, n4, t4, o4]
  simp [part, go_sem, Sem.run_bind]
  rw [byS_list, byS_list]
  by_cases h1 : t.k = u.k <;> by_cases h2 : t.at_ = u.at_ <;> by_cases h3 : t.t = u.t <;> by_cases h4 : t.n = u.n <;> simp [h1, h2, h3, h4]
theorem neq_tok (t u : Tk.T) (w : World) : (binOp .neq 30 (.agg #[.int .i64 t.k, .int .i64 t.at_, .string (byS t.t), .int .i64 t.n]) (.agg #[.int .i64 u.k, .int .i64 u.at_, .string (byS u.t), .int .i64 u.n])).run Tryd.prog w = .ok (.bool (!decide (t = u))) w := by
  rw [run_neq_struct, eq_tok]; rfl
theorem eql_tok (t u : Tk.T) (w : World) : (binOp .eql 30 (.agg #[.int .i64 t.k, .int .i64 t.at_, .string (byS t.t), .int .i64 t.n]) (.agg #[.int .i64 u.k, .int .i64 u.at_, .string (byS u.t), .int .i64 u.n])).run Tryd.prog w = .ok (.bool (decide (t = u))) w := by
  rw [run_eql_struct, eq_tok]; rfl
theorem guard_tok (op : BinOp) (x y : Operand) (xs ys : Array Value) (w : World) : (eqGuard op 30 x y (.agg xs) (.agg ys)).run Tryd.prog w = .ok () w :=
  run_eqGuard_agg w op _ x y xs ys (by kernel_rfl)
end Go.Proofs.YtodcgdiejmdaaaaDoor
