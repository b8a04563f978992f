/-
  The functions that append: clone, PutInt, PutText, PutBool of wire, and PutInt, PutText, PutBool of the reference, each by its contract: the result is a new slice of the bytes of b and the encoding.
-/
import Derived.Test.YtodcgdiejmdaaaaDoorNum
import Derived.Test.YtodcgdiejmdaaaaDoorMem
namespace Go.Proofs.YtodcgdiejmdaaaaDoor
open Go.RowKit

def by8 (b : UInt8) : Value := .int .u8 (b.toNat : Int)
def Bs (w : World) (v : Value) (bs : List UInt8) : Prop := Rd w v (bs.map by8)
def OwnB (w : World) (base : Nat) (v : Value) (bs : List UInt8) : Prop := Own w base 5 v (bs.map by8)
theorem one8 (bs : List UInt8) : ∀ u ∈ bs.map by8, u.oneCell' = true := by
  intro u hu
  obtain ⟨b, _, rfl⟩ := List.mem_map.1 hu
  rfl
theorem OwnB.bs {w : World} {base : Nat} {v : Value} {bs : List UInt8} (h : OwnB w base v bs) : Bs w v bs := Own.rd h
theorem OwnB.below {w w' : World} {base : Nat} {v : Value} {bs : List UInt8} (h : OwnB w base v bs) (hb : Below w.heap.size w w') : OwnB w' base v bs := Own.below h hb
theorem OwnB.lower {w : World} {base B : Nat} {v : Value} {bs : List UInt8} (h : OwnB w base v bs) (hB : B ≤ base) : OwnB w B v bs := Own.lower h hB
theorem Bs.below {w w' : World} {v : Value} {bs : List UInt8} (h : Bs w v bs) (hb : Below w.heap.size w w') : Bs w' v bs := Rd.below h hb
theorem Bs.nil (w : World) : Bs w (.slice none 0 0) [] := Rd.nil w
theorem Bs.form {w : World} {v : Value} {bs : List UInt8} (h : Bs w v bs) : ∃ A c, v = .slice A bs.length c := by
  obtain ⟨A, c, rfl, _⟩ := h
  exact ⟨A, c, by simp⟩

theorem Tryd.info5 : (Tryd.prog.info? 5).map (fun i => (i.zero, i.size, i.bytes)) = some (some (.int .u8 0), 1, 1) := by kernel_rfl

/-- What a function leaves that returns a new slice of bytes. -/
def NewB (w : World) (bs : List UInt8) (e : Ending) (w' : World) : Prop := ∃ v', e = .returned v' ∧ OwnB w' w.heap.size v' bs ∧ Below w.heap.size w w'

/-- A literal of bytes, just made. -/
theorem lit_rd (w : World) (xs : List Value) (h : xs.length ≤ maxLen) : Rd (w.alloc (.cells xs.toArray 5)) (.slice (some ⟨w.heap.size, 0, none⟩) xs.length xs.length) xs :=
  (Own.lit (base := 0) w xs (Nat.zero_le _) h).rd

theorem lit8 {m : Nat} (h : m < 256) : Value.int .u8 (m : Int) = by8 (UInt8.ofNat m) := by
  unfold by8; rw [Wi.ofNat_toNat h]

/-- 'append(out, x)' of one byte: the literal [x] has just been made. -/
theorem wpList_app8 {wr : World} {ops : Array Oper} {rest : List Oper} {o : Oper} {a : Act} {Q : Exit → Act → World → Prop} (hgd : o.guard = none) (s x : Operand)
    (ho : o.op = .call { callee := .builtin .append, args := #[s, x], argTypes := #[48, 48] })
    (base : Nat) (v : Value) (pre : List UInt8) (k : Int) (b : UInt8) (hk : Value.int .u8 k = by8 b) (hs : a.eval s = v) (hown : OwnB wr base v pre) (hx : a.eval x = .slice (some ⟨wr.heap.size, 0, none⟩) 1 1)
    (hl : pre.length ≤ 70368744177664) (hbase : base ≤ wr.heap.size)
    (h : ∀ v' w', OwnB w' base v' (pre ++ [b]) → Below base wr w' → wpList Tryd.prog ops Q rest (a.put o.dst v') w') : wpList Tryd.prog ops Q (o :: rest) a (wr.alloc (.cells #[.int .u8 k] 5)) := by
  obtain ⟨i0, hi, hz0, hz1, hz2⟩ := info_parts Tryd.info5
  refine wpList_app (wr.alloc (.cells #[.int .u8 k] 5)) hgd s x 48 ho base 5 i0 (.int .u8 0) 1 Tryd.underlying48 hi hz0 hz1 hz2 rfl v _ (pre.map by8) [.int .u8 k] hs (Own.alloc hown _) hx
    (lit_rd wr [.int .u8 k] (by simp [maxLen])) (by intro u hu; obtain rfl := List.mem_singleton.1 hu; rfl) (by simp; omega) (by simp; omega) (by simp; omega) ?_
  intro v' w' h1 h2
  refine h v' w' ?_ (((Below.refl base wr).alloc hbase _).trans h2)
  unfold OwnB
  rw [List.map_append]
  rw [hk] at h1
  exact h1

theorem or128 (m : Nat) : bits BinOp.or IntKind.u8 ((m : Int) % 256) 128 = ((m % 128 + 128 : Nat) : Int) := by
  have h := u8_or_nat (m % 256) 128 (by omega) (by omega)
  rw [show ((m : Int) % 256) = ((m % 256 : Nat) : Int) by omega]
  rw [show ((m % 128 + 128 : Nat)) = m % 256 ||| 128 from ?_]
  · exact h
  · have h1 : m % 256 = m % 128 + (m / 128 % 2) * 128 := by omega
    rw [h1]
    rcases Nat.mod_two_eq_zero_or_one (m / 128) with e | e
    · rw [e, Nat.zero_mul, Nat.add_zero, Nat.or_comm]
      exact (nat_join 7 128 (m % 128) (by decide) (by omega)).symm ▸ (Nat.add_comm _ _)
    · rw [e, Nat.one_mul]
      have e2 : m % 128 + 128 = 128 ||| (m % 128) := by rw [nat_join 7 128 (m % 128) (by decide) (by omega)]; omega
      rw [e2, Nat.or_assoc, Nat.or_comm (m % 128) 128, ← Nat.or_assoc, Nat.or_self]

/-- The loop's relation in PutInt: what has been written, and what is left to be written. -/
def PutRel (w : World) (full : List UInt8) (v5 v6 : Value) (wr : World) : Prop :=
  ∃ (pre : List UInt8) (m : Nat), OwnB wr w.heap.size v5 pre ∧ v6 = .int .u64 (m : Int) ∧ pre ++ Wi.digs m = full ∧ m < 18446744073709551616 ∧ Below w.heap.size w wr

theorem pre_le {pre l full : List UInt8} {k : Nat} (h : pre ++ l = full) (hk : full.length ≤ k) : pre.length ≤ k := by
  have := congrArg List.length h
  simp at this
  omega

def encText (l : List UInt8) : List UInt8 := Wi.enc l.length ++ l
theorem strCells_by8 (s : ByteArray) : Lib.strCells s = s.data.toList.map by8 := rfl
theorem size_list (s : ByteArray) : s.size = s.data.toList.length := by simp

theorem NewB.form {w : World} {bs : List UInt8} {e : Ending} {w' : World} (h : NewB w bs e w') : ∃ A c, e = .returned (.slice A bs.length c) ∧ OwnB w' w.heap.size (.slice A bs.length c) bs ∧ Below w.heap.size w w' := by
  obtain ⟨v, rfl, hown, hb⟩ := h
  obtain ⟨A, c, rfl⟩ := hown.bs.form
  exact ⟨A, c, rfl, hown, hb⟩

/-- append of bytes onto bytes of the call's own. -/
theorem wpList_appB {w : World} {ops : Array Oper} {rest : List Oper} {o : Oper} {a : Act} {Q : Exit → Act → World → Prop} (hgd : o.guard = none) (s x : Operand)
    (ho : o.op = .call { callee := .builtin .append, args := #[s, x], argTypes := #[48, 48] })
    (base : Nat) (v y : Value) (xs news : List UInt8) (hs : a.eval s = v) (hown : OwnB w base v xs) (hx : a.eval x = y) (hrd : Bs w y news)
    (hl : xs.length + news.length ≤ 140737488355328) (hbase : base ≤ w.heap.size)
    (h : ∀ v' w', OwnB w' base v' (xs ++ news) → Below base w w' → wpList Tryd.prog ops Q rest (a.put o.dst v') w') : wpList Tryd.prog ops Q (o :: rest) a w := by
  obtain ⟨i0, hi, hz0, hz1, hz2⟩ := info_parts Tryd.info5
  refine wpList_app w hgd s x 48 ho base 5 i0 (.int .u8 0) 1 Tryd.underlying48 hi hz0 hz1 hz2 rfl v y (xs.map by8) (news.map by8) hs hown hx hrd (one8 news) (by simp; omega) (by simp; omega) hbase ?_
  intro v' w' h1 h2
  exact h v' w' (by unfold OwnB; rw [List.map_append]; exact h1) h2

theorem wpList_appS {w : World} {ops : Array Oper} {rest : List Oper} {o : Oper} {a : Act} {Q : Exit → Act → World → Prop} (hgd : o.guard = none) (sl x : Operand)
    (ho : o.op = .call { callee := .builtin .append, args := #[sl, x], argTypes := #[48, 9] })
    (base : Nat) (v : Value) (xs : List UInt8) (hs : a.eval sl = v) (hown : OwnB w base v xs) (s : ByteArray) (hx : a.eval x = .string s)
    (hl : xs.length + s.size ≤ 140737488355328) (hbase : base ≤ w.heap.size)
    (h : ∀ v' w', OwnB w' base v' (xs ++ s.data.toList) → Below base w w' → wpList Tryd.prog ops Q rest (a.put o.dst v') w') : wpList Tryd.prog ops Q (o :: rest) a w := by
  obtain ⟨i0, hi, hz0, hz1, hz2⟩ := info_parts Tryd.info5
  refine wpList_appStr w hgd sl x 48 9 ho base 5 i0 Tryd.underlying48 Tryd.underlying9 hi hz0 hz1 hz2 v (xs.map by8) hs hown s hx (by simpa using hl) hbase ?_
  intro v' w' h1 h2
  exact h v' w' (by unfold OwnB; rw [List.map_append]; exact h1) h2

theorem by8_bool (b : Bool) : [if b then (1 : UInt8) else 0].map by8 = [Value.int .u8 (if b then 1 else 0)] := by cases b <;> rfl
def encBool (b : Bool) : List UInt8 := [if b then 1 else 0]

end Go.Proofs.YtodcgdiejmdaaaaDoor
