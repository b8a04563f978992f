/-
  Lists of tokens in memory: append, and what is kept.
-/
import Derived.Test.YtodcgdiejmdaaaaDoorTAsc
import Derived.Maps.AppendAt
namespace Go.Proofs.YtodcgdiejmdaaaaDoor
open Go.RowKit

/-- The cells of tokens, one behind the other. -/
def tkC (t : Tk.T) : List Value := [.int .i64 t.k, .int .i64 t.at_, .string (byS t.t), .int .i64 t.n]
def tksC (l : List Tk.T) : List Value := l.flatMap tkC
theorem tksC_snoc (l : List Tk.T) (t : Tk.T) : tksC (l ++ [t]) = tksC l ++ tkC t := by simp [tksC]
theorem tksC_len (l : List Tk.T) : (tksC l).length = l.length * 4 := by
  induction l with
  | nil => rfl
  | cons t l ih =>
    have : tksC (t :: l) = tkC t ++ tksC l := rfl
    rw [this, List.length_append, ih]
    simp [tkC]; omega
/-- The slice v is the call's own and holds the tokens l. -/
def OwnT (w : World) (base : Nat) (v : Value) (l : List Tk.T) : Prop := w.ownsRow base 30 4 v l.length (tksC l)

theorem Tryd.infoTok : (Tryd.prog.info? 30).map (fun i => (i.zero, i.size, i.bytes)) = some (some (.agg #[.int .i64 0, .int .i64 0, .string ⟨#[]⟩, .int .i64 0]), 4, 40) := by kernel_rfl

theorem own_chg {w w' : World} {base g size n : Nat} {e : TypeId} {v : Value} {xs : List Value} (h : w.ownsRow base e size v n xs) (c : Ch g w w') (hg : g < base) : w'.ownsRow base e size v n xs := by
  rcases h.2 with ⟨rfl, h0⟩ | ⟨k, cap, cur, rfl, hbg, hk, h1⟩
  · exact ⟨h.1, .inl ⟨rfl, h0⟩⟩
  · exact ⟨h.1, .inr ⟨k, cap, cur, rfl, hbg, (c.block k (Array.getElem?_eq_some_iff.1 hk).1 (fun e => by injection e; omega)).trans hk, h1⟩⟩
theorem own_below {w w' : World} {base size n : Nat} {e : TypeId} {v : Value} {xs : List Value} (h : w.ownsRow base e size v n xs) (c : Below w.heap.size w w') : w'.ownsRow base e size v n xs := by
  rcases h.2 with ⟨rfl, h0⟩ | ⟨k, cap, cur, rfl, hbg, hk, h1⟩
  · exact ⟨h.1, .inl ⟨rfl, h0⟩⟩
  · exact ⟨h.1, .inr ⟨k, cap, cur, rfl, hbg, (c.block k (Array.getElem?_eq_some_iff.1 hk).1).trans hk, h1⟩⟩
theorem own_set {w : World} {base b i size n : Nat} {e : TypeId} {v u : Value} {xs : List Value} (h : w.ownsRow base e size v n xs) (hb : v.ownBlock ≠ some b) : (w.setCell ⟨b, i, none⟩ u).ownsRow base e size v n xs := by
  rcases h.2 with ⟨rfl, h0⟩ | ⟨k, cap, cur, rfl, hbg, hk, h1⟩
  · exact ⟨h.1, .inl ⟨rfl, h0⟩⟩
  · exact ⟨h.1, .inr ⟨k, cap, cur, rfl, hbg, (Below.heap_setCell w ⟨b, i, none⟩ u k (fun e => hb (by simp [Value.ownBlock, e]))).trans hk, h1⟩⟩

/-- 'append(l, t)' of one token: the literal [t] has just been made. -/
theorem wpList_appTok {wr : World} {ops : Array Oper} {rest : List Oper} {o : Oper} {a : Act} {Q : Exit → Act → World → Prop} (hgd : o.guard = none) (s x : Operand)
    (ho : o.op = .call { callee := .builtin .append, args := #[s, x], argTypes := #[23, 23] })
    (base : Nat) (v : Value) (l : List Tk.T) (t : Tk.T) (hs : a.eval s = v) (hown : OwnT wr base v l) (hx : a.eval x = .slice (some ⟨wr.heap.size, 0, none⟩) 1 1)
    (hl : l.length ≤ 1000000) (hbase : base ≤ wr.heap.size)
    (h : ∀ v' w', OwnT w' base v' (l ++ [t]) → wr.grownBy w' v.ownBlock → wpList Tryd.prog ops Q rest (a.put o.dst v') w') :
    wpList Tryd.prog ops Q (o :: rest) a (wr.alloc (.cells #[.int .i64 t.k, .int .i64 t.at_, .string (byS t.t), .int .i64 t.n] 30)) := by
  obtain ⟨i0, hi, hz0, hz1, hz2⟩ := info_parts Tryd.infoTok
  have hown2 : (wr.alloc (.cells #[.int .i64 t.k, .int .i64 t.at_, .string (byS t.t), .int .i64 t.n] 30)).ownsRow base 30 4 v l.length (tksC l) := World.ownsRow.alloc hown _
  obtain ⟨v', w', hrun, h2, h3, _, h5⟩ := run_append_own_at (P := Tryd.prog) _ base 23 o.type 30 i0 _ 4 40 Tryd.underlying23 hi hz0 hz1 hz2 rfl (by omega) v l.length (tksC l) hown2
    ⟨wr.heap.size, 0, none⟩ 1 1 (tkC t) rfl (fun j u hj => by
      rw [show (⟨wr.heap.size, 0, none⟩ : Addr).add j = ⟨wr.heap.size, j, none⟩ by simp [Addr.add]; omega, World.cell?_alloc_mark]
      match j with
      | 0 => simpa [tkC] using hj
      | 1 => simpa [tkC] using hj
      | 2 => simpa [tkC] using hj
      | 3 => simpa [tkC] using hj
      | j + 4 => simp [tkC] at hj) (by
      intro u hu
      simp only [tkC, List.mem_cons, List.not_mem_nil, or_false] at hu
      rcases hu with rfl | rfl | rfl | rfl <;> rfl) (by unfold maxLen; omega) (by omega) (by simp; omega)
  refine wpList_plain hgd fun _ hK => ?_
  unfold Oper.wp execOp
  simp only [ho, resolve, invoke, builtin, Sem.run_bind, Sem.run_pure, Result.andThen_ok, List.map_toArray, List.map_cons, List.map_nil, hs, hx, hrun]
  refine hK _ _ (h v' w' ?_ ?_)
  · show w'.ownsRow base 30 4 v' (l ++ [t]).length (tksC (l ++ [t]))
    rw [tksC_snoc, List.length_append]
    exact h2
  · exact ⟨h3.os, h3.tape, h3.output, Nat.le_trans (by simp) h3.size, fun k hk hne => (h3.block k (by simp; omega) hne).trans (by
      show (wr.heap.push _)[k]? = _
      rw [Array.getElem?_push_lt hk, Array.getElem?_eq_getElem hk])⟩
end Go.Proofs.YtodcgdiejmdaaaaDoor
