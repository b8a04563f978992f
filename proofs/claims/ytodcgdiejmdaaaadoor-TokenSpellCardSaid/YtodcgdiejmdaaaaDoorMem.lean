/-
  Words for memory, of no program: a slice that reads as a list ('Rd'), a slice of the call's own ('Own'), append, make and copy upon them, and what is kept when memory grows.
-/
import Derived.WalkKit
import Derived.WalkSpells
import Derived.WalkLawsBesides
import Derived.Maps.AppendAt
import Derived.Lib.AppendStr
import Derived.Deep.Slices
namespace Go.Proofs.YtodcgdiejmdaaaaDoor
open Go.RowKit

theorem hid {p : Prop} (h : p) : Hid p := h

/-- The slice v reads as the one-cell values xs. -/
def Rd (w : World) (v : Value) (xs : List Value) : Prop :=
  ∃ (A : Option Addr) (c : Nat), v = .slice A xs.length c ∧ xs.length ≤ c ∧ c ≤ maxLen ∧
    (xs = [] ∨ ∃ ad, A = some ad ∧ ∀ j u, xs[j]? = some u → w.cell? (ad.add j) = some u)

/-- The slice v is the call's own, from block base on, and reads as xs. -/
def Own (w : World) (base : Nat) (e : TypeId) (v : Value) (xs : List Value) : Prop := w.ownsRow base e 1 v xs.length xs

section
variable {w w' : World} {v : Value} {xs : List Value} {base B : Nat} {e : TypeId}

theorem Rd.keep (h : Rd w v xs) (hk : ∀ a u, u ∈ xs → w.cell? a = some u → w'.cell? a = some u) : Rd w' v xs := by
  obtain ⟨A, c, rfl, h1, h2, h3⟩ := h
  refine ⟨A, c, rfl, h1, h2, ?_⟩
  rcases h3 with h3 | ⟨ad, rfl, h3⟩
  · exact .inl h3
  · exact .inr ⟨ad, rfl, fun j u hj => hk _ _ (List.mem_of_getElem? hj) (h3 j u hj)⟩

theorem Rd.below (h : Rd w v xs) (hb : Below w.heap.size w w') : Rd w' v xs :=
  h.keep fun a _ _ hc => (hb.cell (World.block_lt_of_cell? w a hc)).trans hc

theorem Rd.nil (w : World) : Rd w (.slice none 0 0) [] := ⟨none, 0, rfl, Nat.le_refl _, Nat.zero_le _, .inl rfl⟩

theorem Own.rd (h : Own w base e v xs) : Rd w v xs := by
  rcases h.2 with ⟨rfl, h0⟩ | ⟨g, cap, cur, rfl, hb, hg, h1, h2, h3, h4⟩
  · have : xs = [] := List.eq_nil_of_length_eq_zero h0
    subst this
    exact Rd.nil w
  · exact ⟨_, cap, rfl, h1, h2, .inr ⟨_, rfl, World.ownsRow.cells h rfl⟩⟩

theorem Own.below (h : Own w base e v xs) (hb : Below w.heap.size w w') : Own w' base e v xs := by
  rcases h.2 with ⟨rfl, h0⟩ | ⟨g, cap, cur, rfl, hbg, hg, h1⟩
  · exact ⟨h.1, .inl ⟨rfl, h0⟩⟩
  · exact ⟨h.1, .inr ⟨g, cap, cur, rfl, hbg, (hb.block g (Array.getElem?_eq_some_iff.1 hg).1).trans hg, h1⟩⟩

theorem Own.lower (h : Own w base e v xs) (hB : B ≤ base) : Own w B e v xs := by
  rcases h.2 with ⟨rfl, h0⟩ | ⟨g, cap, cur, rfl, hbg, hg, h1⟩
  · exact ⟨h.1, .inl ⟨rfl, h0⟩⟩
  · exact ⟨h.1, .inr ⟨g, cap, cur, rfl, by omega, hg, h1⟩⟩

theorem Own.nil (w : World) (base : Nat) (e : TypeId) : Own w base e (.slice none 0 0) [] := ⟨by simp, .inl ⟨rfl, rfl⟩⟩

theorem Own.form (h : Own w base e v xs) : ∃ A c, v = .slice A xs.length c := by
  obtain ⟨A, c, hv, _⟩ := h.rd
  exact ⟨A, c, hv⟩

theorem Own.base_le (h : Own w base e v xs) : ∀ k, v.ownBlock = some k → base ≤ k := fun k hk => (World.ownsRow.lt h k hk).1

theorem Own.alloc (h : Own w base e v xs) (o : Obj) : Own (w.alloc o) base e v xs := World.ownsRow.alloc h o
theorem Own.drew (h : Own w base e v xs) : Own w.drew base e v xs := h

/-- A slice written out ('[]T{..}'), or made and filled. -/
theorem Own.lit (w : World) (cs : List Value) (hb : base ≤ w.heap.size) (hm : cs.length ≤ maxLen) :
    Own (w.alloc (.cells cs.toArray e)) base e (.slice (some ⟨w.heap.size, 0, none⟩) cs.length cs.length) cs := by
  have := World.ownsRow_lit (e := e) (size := 1) w cs.toArray cs.length hb hm (by simp)
  simpa [Own] using this

theorem below_refl (w : World) : Below w.heap.size w w := Below.refl _ _
theorem bstep {a b c : World} (h : Below a.heap.size a b) (k : Below b.heap.size b c) : Below a.heap.size a c := h.trans (k.mono h.size)

end

section
variable {P : Program} (w : World)

/-- append onto a slice of the call's own; the source nil, empty or not. -/
theorem run_app (base : Nat) (t ty e : TypeId) (i : TypeInfo) (z : Value) (bytes : Nat) (ht : P.underlying t = some (.slice e)) (hi : P.info? e = some i) (hz : i.zero = some z)
    (hsize : i.size = 1) (hby : i.bytes = bytes) (hzs : z.cells.size = 1)
    (v s : Value) (xs news : List Value) (hown : Own w base e v xs) (hrd : Rd w s news) (h1 : ∀ u ∈ news, u.oneCell' = true)
    (hbytes : (xs.length + news.length) * bytes ≤ 140737488355328) (h63 : xs.length + news.length ≤ 140737488355328) (hbase : base ≤ w.heap.size) :
    ∃ v' w', (Builtin.append_ #[t, t] ty #[v, s]).run P w = .ok v' w' ∧ Own w' base e v' (xs ++ news) ∧ w.grownBy w' v.ownBlock ∧ Below base w w' ∧
      (v'.ownBlock = v.ownBlock ∨ v'.ownBlock = some w.heap.size) := by
  obtain ⟨A, c, rfl, hc1, hc2, hcells⟩ := hrd
  have fin : ∀ w', w.grownBy w' v.ownBlock → Below base w w' := fun w' hg => (Below.refl base w).grown hg hbase hown.base_le
  by_cases hm : news = []
  · subst hm
    have hrun : (Builtin.append_ #[t, t] ty #[v, .slice A 0 c]).run P w = .ok v w := by
      rcases hown.2 with ⟨rfl, h0⟩ | ⟨g, cap, cur, rfl, _, _, hnc, _⟩
      · cases A <;> simp [Builtin.append_, run_underlying ht, sizeOf, typeInfo, hi, Builtin.lenOf, Builtin.firstCells, loadCells, loadCellsFrom]
      · cases A <;> simp [Builtin.append_, run_underlying ht, sizeOf, typeInfo, hi, Builtin.lenOf, Builtin.firstCells, loadCells, loadCellsFrom, hnc, storeCells]
    exact ⟨v, w, hrun, by simpa using hown, World.grownBy.refl w _, Below.refl _ _, .inl rfl⟩
  · rcases hcells with h | ⟨ad, rfl, hcells⟩
    · exact absurd h hm
    · obtain ⟨v', w', hrun, h2, h3, _, h5⟩ := run_append_own_at (P := P) w base t ty e i z 1 bytes ht hi hz hsize hby hzs (by omega) v xs.length xs hown ad news.length c news (by simp) hcells h1
        (by unfold maxLen; omega) hbytes hbase
      exact ⟨v', w', hrun, by simpa [Own] using h2, h3, fin w' h3, h5⟩

theorem wp_app {o : Oper} {a : Act} {K : Act → World → Prop} {Q : Exit → Act → World → Prop} (s x : Operand) (t : TypeId)
    (ho : o.op = .call { callee := .builtin .append, args := #[s, x], argTypes := #[t, t] })
    (base : Nat) (e : TypeId) (i : TypeInfo) (z : Value) (bytes : Nat) (ht : P.underlying t = some (.slice e)) (hi : P.info? e = some i) (hz : i.zero = some z)
    (hsize : i.size = 1) (hby : i.bytes = bytes) (hzs : z.cells.size = 1)
    (v y : Value) (xs news : List Value) (hs : a.eval s = v) (hown : Own w base e v xs) (hx : a.eval x = y) (hrd : Rd w y news) (h1 : ∀ u ∈ news, u.oneCell' = true)
    (hbytes : (xs.length + news.length) * bytes ≤ 140737488355328) (h63 : xs.length + news.length ≤ 140737488355328) (hbase : base ≤ w.heap.size)
    (h : ∀ v' w', Own w' base e v' (xs ++ news) → Below base w w' → w.grownBy w' v.ownBlock → (v'.ownBlock = v.ownBlock ∨ v'.ownBlock = some w.heap.size) → K (a.put o.dst v') w') : o.wp P a w K Q := by
  obtain ⟨v', w', hrun, h2, h3, h4, h5⟩ := run_app (P := P) w base t o.type e i z bytes ht hi hz hsize hby hzs v y xs news hown hrd h1 hbytes h63 hbase
  unfold Oper.wp execOp
  simp only [ho, resolve, invoke, builtin, Sem.run_bind, Sem.run_pure, Result.andThen_ok, List.map_toArray, List.map_cons, List.map_nil, hs, hx, hrun]
  exact h v' w' h2 h4 h3 h5

theorem wpList_app {ops : Array Oper} {rest : List Oper} {o : Oper} {a : Act} {Q : Exit → Act → World → Prop} (hgd : o.guard = none) (s x : Operand) (t : TypeId)
    (ho : o.op = .call { callee := .builtin .append, args := #[s, x], argTypes := #[t, t] })
    (base : Nat) (e : TypeId) (i : TypeInfo) (z : Value) (bytes : Nat) (ht : P.underlying t = some (.slice e)) (hi : P.info? e = some i) (hz : i.zero = some z)
    (hsize : i.size = 1) (hby : i.bytes = bytes) (hzs : z.cells.size = 1)
    (v y : Value) (xs news : List Value) (hs : a.eval s = v) (hown : Own w base e v xs) (hx : a.eval x = y) (hrd : Rd w y news) (h1 : ∀ u ∈ news, u.oneCell' = true)
    (hbytes : (xs.length + news.length) * bytes ≤ 140737488355328) (h63 : xs.length + news.length ≤ 140737488355328) (hbase : base ≤ w.heap.size)
    (h : ∀ v' w', Own w' base e v' (xs ++ news) → Below base w w' → wpList P ops Q rest (a.put o.dst v') w') : wpList P ops Q (o :: rest) a w :=
  wpList_plain hgd fun _ hK => wp_app w s x t ho base e i z bytes ht hi hz hsize hby hzs v y xs news hs hown hx hrd h1 hbytes h63 hbase fun v' w' h2 h4 _ _ => hK _ _ (h v' w' h2 h4)

/-- append of a string's bytes. -/
theorem wpList_appStr {ops : Array Oper} {rest : List Oper} {o : Oper} {a : Act} {Q : Exit → Act → World → Prop} (hgd : o.guard = none) (sl x : Operand) (t u : TypeId)
    (ho : o.op = .call { callee := .builtin .append, args := #[sl, x], argTypes := #[t, u] })
    (base : Nat) (e : TypeId) (i : TypeInfo) (ht : P.underlying t = some (.slice e)) (hu : P.underlying u = some .string) (hi : P.info? e = some i) (hz : i.zero = some (.int .u8 0))
    (hsize : i.size = 1) (hby : i.bytes = 1)
    (v : Value) (xs : List Value) (hs : a.eval sl = v) (hown : Own w base e v xs) (s : ByteArray) (hx : a.eval x = .string s)
    (h63 : xs.length + s.size ≤ 140737488355328) (hbase : base ≤ w.heap.size)
    (h : ∀ v' w', Own w' base e v' (xs ++ Lib.strCells s) → Below base w w' → wpList P ops Q rest (a.put o.dst v') w') : wpList P ops Q (o :: rest) a w :=
  Lib.wpList_append_own_string w hgd sl x t u ho base e i ht hu hi hz hsize hby v xs.length xs hs hown s hx (by unfold maxLen; omega) h63 hbase
    (fun v' w' h2 h3 _ => h v' w' (by simpa [Own, Lib.strCells_length] using h2) ((Below.refl base w).grown h3 hbase hown.base_le))

/-- make([]T, n, c), then copy from a slice of length n: what clone does. -/
theorem run_makeN (t e : TypeId) (i : TypeInfo) (z : Value) (ht : P.underlying t = some (.slice e)) (hi : P.info? e = some i) (hz : i.zero = some z) (hsize : i.size = 1)
    (n c : Nat) (hnc : n ≤ c) (hbytes : i.bytes * c ≤ 281474976710656) (h63 : c ≤ 9223372036854775807) :
    (Instr.makeSlice t (.int .i64 (n : Int)) (.int .i64 (c : Int))).run P w = .ok (.slice (some ⟨w.heap.size, 0, none⟩) n c) (w.alloc (.cells (madeCells z.cells c) e)) := by
  have hb : (i.bytes : Int) * (c : Int) ≤ 281474976710656 := by
    have h : ((i.bytes * c : Nat) : Int) ≤ 281474976710656 := by omega
    rwa [Int.natCast_mul] at h
  have hr := run_make (P := P) w t e i z ht hi hz .i64 .i64 n c (by omega) (by omega) hb (by omega)
  simpa [hsize] using hr

theorem Own.cap {e : TypeId} {base : Nat} (xs ys : List Value) (hb : base ≤ w.heap.size) (hm : xs.length + ys.length ≤ maxLen) :
    Own (w.alloc (.cells (xs ++ ys).toArray e)) base e (.slice (some ⟨w.heap.size, 0, none⟩) xs.length (xs.length + ys.length)) xs :=
  ⟨by simp, .inr ⟨w.heap.size, xs.length + ys.length, _, rfl, hb, heap_alloc_new w _, Nat.le_add_right _ _, hm, by simp, by simp⟩⟩

theorem setRow_new (cur cs : Array Value) (e : TypeId) : (w.alloc (.cells cur e)).setRow w.heap.size cs = w.alloc (.cells cs e) := by
  unfold World.setRow World.alloc
  cases w with
  | mk heap tape drawn os output =>
    congr 1
    apply Array.ext_getElem?
    intro i
    simp only [Array.getElem?_modify, Array.getElem?_push]
    by_cases hi : i = heap.size
    · subst hi; simp
    · rw [if_neg (fun e => hi e.symm), if_neg hi, if_neg hi]

/-- copy into a row that has just been made, from a slice as long as it. -/
theorem run_copy_new (t ty e : TypeId) (i : TypeInfo) (z : Value) (ht : P.underlying t = some (.slice e)) (hi : P.info? e = some i) (hsize : i.size = 1)
    (xs : List Value) (k c : Nat) (A : Option Addr) (hcells : xs = [] ∨ ∃ ad, A = some ad ∧ ∀ j u, xs[j]? = some u → w.cell? (ad.add j) = some u) (h1 : ∀ u ∈ xs, u.oneCell' = true) :
    (Builtin.copy_ #[t, t] ty #[.slice (some ⟨w.heap.size, 0, none⟩) xs.length (xs.length + k), .slice A xs.length c]).run P (w.alloc (.cells (madeCells #[z] (xs.length + k)) e)) =
      .ok (.int .i64 (xs.length : Int)) (w.alloc (.cells (xs ++ List.replicate k z).toArray e)) := by
  have hmade : ∀ n, madeCells #[z] n = (List.replicate n z).toArray := fun n => by
    apply Array.ext'
    rw [toList_madeCells_one]
  have hs : (P.info? e).map (·.size) = some 1 := by simp [hi, hsize]
  rcases hcells with rfl | ⟨ad, rfl, hcells⟩
  · have := run_copy_none (P := P) (w.alloc (.cells (madeCells #[z] (0 + k)) e)) t t ty e (some ⟨w.heap.size, 0, none⟩) A 0 (0 + k) 0 c ht hs rfl
    rw [hmade] at this ⊢
    simpa [goInt] using this
  · have hg : (w.alloc (.cells (madeCells #[z] (xs.length + k)) e)).heap[w.heap.size]? = some (.cells (madeCells #[z] (xs.length + k)) e (0, 0)) := heap_alloc_new w _
    have := run_copy_row P (w.alloc (.cells (madeCells #[z] (xs.length + k)) e)) t t ty e w.heap.size 0 xs.length (xs.length + k) ad xs.length c _ e xs ht hs hg (by simp)
      (fun j v hj => by rw [World.cell?_alloc_lt w _ _ (World.block_lt_of_cell? w _ (hcells j v hj))]; exact hcells j v hj) (by simp [size_madeCells]) h1
    rw [this, setRow_new]
    simp [hmade, goInt]

end
end Go.Proofs.YtodcgdiejmdaaaaDoor
