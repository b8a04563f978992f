/-
  Slices of the call's own, of elements of several cells: append, make, store; slices.Clone of strings and of values.
-/
import Derived.Test.YtpoofeiajmkfdaaVMeas
import Derived.Lib.SliceRun
namespace Go.Proofs.Ytpoofeiajmkfdaa
open Go.RowKit

section
variable {P : Program} (w : World)

theorem addr_add (b o j : Nat) : (⟨b, o, none⟩ : Addr).add j = ⟨b, o + j, none⟩ := by unfold Addr.add; split <;> simp_all

/-- append onto a slice of the call's own; the source nil, empty or not. -/
theorem run_appN (base : Nat) (t ty e : TypeId) (i : TypeInfo) (z : Value) (size bytes : Nat) (ht : P.underlying t = some (.slice e)) (hi : P.info? e = some i) (hz : i.zero = some z)
    (hsize : i.size = size) (hby : i.bytes = bytes) (hzs : z.cells.size = size) (hsz : 0 < size)
    (v s : Value) (n m : Nat) (xs news : List Value) (S : Nat → Prop) (hown : w.ownsRow base e size v n xs) (hrd : RdN w S size s m news) (h1 : ∀ u ∈ news, u.oneCell' = true)
    (hbytes : (n + m) * bytes ≤ 140737488355328) (h63 : n + m ≤ 140737488355328) (hbase : base ≤ w.heap.size) :
    ∃ v' w', (Builtin.append_ #[t, t] ty #[v, s]).run P w = .ok v' w' ∧ w'.ownsRow base e size v' (n + m) (xs ++ news) ∧ w.grownBy w' v.ownBlock ∧ Below base w w' ∧
      (v'.ownBlock = v.ownBlock ∨ v'.ownBlock = some w.heap.size) := by
  obtain ⟨A, c, rfl, hc1, hc2, hlen, hcells⟩ := hrd
  have hbl : ∀ k, v.ownBlock = some k → base ≤ k := fun k hk => (World.ownsRow.lt hown k hk).1
  have fin : ∀ w', w.grownBy w' v.ownBlock → Below base w w' := fun w' hg => (Below.refl base w).grown hg hbase hbl
  by_cases hm : m = 0
  · subst hm
    have hn : news = [] := List.eq_nil_of_length_eq_zero (by simpa using hlen)
    subst hn
    have hrun : (Builtin.append_ #[t, t] ty #[v, .slice A 0 c]).run P w = .ok v w := by
      rcases hown.2 with ⟨rfl, h0⟩ | ⟨g, cap, cur, rfl, _, _, hnc, _⟩
      · cases A <;> simp [Builtin.append_, run_underlying ht, sizeOf, typeInfo, hi, Builtin.lenOf, Builtin.firstCells, loadCells, loadCellsFrom]
      · cases A <;> simp [Builtin.append_, run_underlying ht, sizeOf, typeInfo, hi, Builtin.lenOf, Builtin.firstCells, loadCells, loadCellsFrom, hnc, storeCells]
    exact ⟨v, w, hrun, by simpa using hown, World.grownBy.refl w _, Below.refl _ _, .inl rfl⟩
  · rcases hcells with h | ⟨b, o, rfl, _, hcells⟩
    · exact absurd h hm
    · obtain ⟨v', w', hrun, h2, h3, _, h5⟩ := run_append_own_at (P := P) w base t ty e i z size bytes ht hi hz hsize hby hzs hsz v n xs hown ⟨b, o, none⟩ m c news hlen
        (fun j u hj => by rw [addr_add]; exact hcells j u hj) h1 (by unfold maxLen; omega) hbytes hbase
      exact ⟨v', w', hrun, h2, h3, fin w' h3, h5⟩

theorem wp_appN {o : Oper} {a : Act} {K : Act → World → Prop} {Q : Exit → Act → World → Prop} (s x : Operand) (t : TypeId)
    (ho : o.op = .call { callee := .builtin .append, args := #[s, x], argTypes := #[t, t] })
    (base : Nat) (e : TypeId) (i : TypeInfo) (z : Value) (size bytes : Nat) (ht : P.underlying t = some (.slice e)) (hi : P.info? e = some i) (hz : i.zero = some z)
    (hsize : i.size = size) (hby : i.bytes = bytes) (hzs : z.cells.size = size) (hsz : 0 < size)
    (v y : Value) (n m : Nat) (xs news : List Value) (S : Nat → Prop) (hs : a.eval s = v) (hown : w.ownsRow base e size v n xs) (hx : a.eval x = y) (hrd : RdN w S size y m news) (h1 : ∀ u ∈ news, u.oneCell' = true)
    (hbytes : (n + m) * bytes ≤ 140737488355328) (h63 : n + m ≤ 140737488355328) (hbase : base ≤ w.heap.size)
    (h : ∀ v' w', w'.ownsRow base e size v' (n + m) (xs ++ news) → Below base w w' → w.grownBy w' v.ownBlock → (v'.ownBlock = v.ownBlock ∨ v'.ownBlock = some w.heap.size) → K (a.put o.dst v') w') : o.wp P a w K Q := by
  obtain ⟨v', w', hrun, h2, h3, h4, h5⟩ := run_appN (P := P) w base t o.type e i z size bytes ht hi hz hsize hby hzs hsz v y n m xs news S hown hrd h1 hbytes h63 hbase
  unfold Oper.wp execOp
  simp only [ho, resolve, invoke, builtin, Sem.run_bind, Sem.run_pure, Result.andThen_ok, List.map_toArray, List.map_cons, List.map_nil, hs, hx, hrun]
  exact h v' w' h2 h4 h3 h5

theorem wpList_appN {ops : Array Oper} {rest : List Oper} {o : Oper} {a : Act} {Q : Exit → Act → World → Prop} (hgd : o.guard = none) (s x : Operand) (t : TypeId)
    (ho : o.op = .call { callee := .builtin .append, args := #[s, x], argTypes := #[t, t] })
    (base : Nat) (e : TypeId) (i : TypeInfo) (z : Value) (size bytes : Nat) (ht : P.underlying t = some (.slice e)) (hi : P.info? e = some i) (hz : i.zero = some z)
    (hsize : i.size = size) (hby : i.bytes = bytes) (hzs : z.cells.size = size) (hsz : 0 < size)
    (v y : Value) (n m : Nat) (xs news : List Value) (S : Nat → Prop) (hs : a.eval s = v) (hown : w.ownsRow base e size v n xs) (hx : a.eval x = y) (hrd : RdN w S size y m news) (h1 : ∀ u ∈ news, u.oneCell' = true)
    (hbytes : (n + m) * bytes ≤ 140737488355328) (h63 : n + m ≤ 140737488355328) (hbase : base ≤ w.heap.size)
    (h : ∀ v' w', w'.ownsRow base e size v' (n + m) (xs ++ news) → Below base w w' → w.grownBy w' v.ownBlock → (v'.ownBlock = v.ownBlock ∨ v'.ownBlock = some w.heap.size) → wpList P ops Q rest (a.put o.dst v') w') : wpList P ops Q (o :: rest) a w :=
  wpList_plain hgd fun _ hK => wp_appN w s x t ho base e i z size bytes ht hi hz hsize hby hzs hsz v y n m xs news S hs hown hx hrd h1 hbytes h63 hbase fun v' w' h2 h4 h3 h5 => hK _ _ (h v' w' h2 h4 h3 h5)
end

def zeroV : Value := .agg #[.int .i64 0, .int .i64 0, .string ⟨#[]⟩, .slice none 0 0, .slice none 0 0]
theorem Try.info26 : (Try.prog.info? 26).map (fun i => (i.zero, i.size, i.bytes)) = some (some (.agg #[.int .i64 0, .int .i64 0, .string ⟨#[]⟩, .slice none 0 0, .slice none 0 0]), 5, 80) := by kernel_rfl
theorem Try.info9 : (Try.prog.info? 9).map (fun i => (i.zero, i.size, i.bytes)) = some (some (.string ⟨#[]⟩), 1, 16) := by kernel_rfl

theorem one_str (ks : List ByteArray) : ∀ u ∈ ks.map Value.string, u.oneCell' = true := by
  intro u hu
  obtain ⟨x, _, rfl⟩ := List.mem_map.1 hu
  rfl
theorem VC.one {w : World} {S : Nat → Prop} {v : V} {cs : List Value} (h : VC w S v cs) : ∀ u ∈ cs, u.oneCell' = true := by
  obtain ⟨k, n, s, A, m, c, A', m', c', rfl⟩ := h.form
  intro u hu
  simp only [List.mem_cons, List.not_mem_nil, or_false] at hu
  rcases hu with rfl | rfl | rfl | rfl | rfl <;> rfl
theorem VsC.one' {w : World} {S : Nat → Prop} : ∀ {l : List V} {cs : List Value}, VsC w S l cs → ∀ u ∈ cs, u.oneCell' = true
  | [], cs, h => by rw [VsC_nil] at h; subst h; intro u hu; cases hu
  | v :: l, cs, h => by
    rw [VsC_cons] at h
    obtain ⟨c1, c2, rfl, h1, h2⟩ := h
    intro u hu
    rcases List.mem_append.1 hu with hu | hu
    · exact h1.one u hu
    · exact VsC.one' h2 u hu

/-- append of strings onto strings of the call's own. -/
theorem wpList_appStrs {w : World} {ops : Array Oper} {rest : List Oper} {o : Oper} {a : Act} {Q : Exit → Act → World → Prop} (hgd : o.guard = none) (s x : Operand)
    (ho : o.op = .call { callee := .builtin .append, args := #[s, x], argTypes := #[22, 22] })
    (base : Nat) (v y : Value) (n m : Nat) (xs news : List Value) (S : Nat → Prop) (hs : a.eval s = v) (hown : w.ownsRow base 9 1 v n xs) (hx : a.eval x = y) (hrd : RdN w S 1 y m news) (h1 : ∀ u ∈ news, u.oneCell' = true)
    (hbytes : (n + m) * 16 ≤ 140737488355328) (hbase : base ≤ w.heap.size)
    (h : ∀ v' w', w'.ownsRow base 9 1 v' (n + m) (xs ++ news) → Below base w w' → w.grownBy w' v.ownBlock → (v'.ownBlock = v.ownBlock ∨ v'.ownBlock = some w.heap.size) → wpList Try.prog ops Q rest (a.put o.dst v') w') : wpList Try.prog ops Q (o :: rest) a w := by
  obtain ⟨i0, hi, hz0, hz1, hz2⟩ := info_parts Try.info9
  exact wpList_appN w hgd s x 22 ho base 9 i0 _ 1 16 Try.underlying22 hi hz0 hz1 hz2 rfl (by omega) v y n m xs news S hs hown hx hrd h1 hbytes (by omega) hbase h
/-- append of values onto values of the call's own. -/
theorem wpList_appVals {w : World} {ops : Array Oper} {rest : List Oper} {o : Oper} {a : Act} {Q : Exit → Act → World → Prop} (hgd : o.guard = none) (s x : Operand)
    (ho : o.op = .call { callee := .builtin .append, args := #[s, x], argTypes := #[23, 23] })
    (base : Nat) (v y : Value) (n m : Nat) (xs news : List Value) (S : Nat → Prop) (hs : a.eval s = v) (hown : w.ownsRow base 26 5 v n xs) (hx : a.eval x = y) (hrd : RdN w S 5 y m news) (h1 : ∀ u ∈ news, u.oneCell' = true)
    (hbytes : (n + m) * 80 ≤ 140737488355328) (hbase : base ≤ w.heap.size)
    (h : ∀ v' w', w'.ownsRow base 26 5 v' (n + m) (xs ++ news) → Below base w w' → w.grownBy w' v.ownBlock → (v'.ownBlock = v.ownBlock ∨ v'.ownBlock = some w.heap.size) → wpList Try.prog ops Q rest (a.put o.dst v') w') : wpList Try.prog ops Q (o :: rest) a w := by
  obtain ⟨i0, hi, hz0, hz1, hz2⟩ := info_parts Try.info26
  exact wpList_appN w hgd s x 23 ho base 26 i0 _ 5 80 Try.underlying23 hi hz0 hz1 hz2 rfl (by omega) v y n m xs news S hs hown hx hrd h1 hbytes (by omega) hbase h

/-- What Clone leaves. -/
def NewRow (w : World) (e : TypeId) (size n : Nat) (xs : List Value) (en : Ending) (w' : World) : Prop := ∃ v, en = .returned v ∧ w'.ownsRow w.heap.size e size v n xs ∧ Below w.heap.size w w'

theorem own_empty (w : World) (e : TypeId) (size : Nat) : (w.alloc (.cells #[] e)).ownsRow w.heap.size e size (.slice (some ⟨w.heap.size, 0, none⟩) 0 0) 0 [] :=
  World.ownsRow_made w #[] 0 (Nat.le_refl _) (Nat.zero_le _) (by simp)

set_option maxRecDepth 100000 in
set_option maxHeartbeats 400000 in
theorem cloneS (ks : List ByteArray) (kv : Value) (w : World) (S : Nat → Prop) (hks : ks.length * 16 ≤ 140737488351232) (hr : RdN w S 1 kv ks.length (ks.map Value.string)) :
    Calls Try.prog 63 #[kv] w (NewRow w 9 1 ks.length (ks.map Value.string)) := by
  have HK := hid hr
  obtain ⟨A, c, rfl, _, _⟩ := hr.form
  clear hr
  rcases A with _ | ad
  · have h0 : ks = [] := by
      obtain ⟨A, c', e, _, _, _, h⟩ := HK.out
      rcases h with h | ⟨b, o, e', _⟩
      · exact List.eq_nil_of_length_eq_zero h
      · injection e with e1; rw [← e1] at e'; cases e'
    subst h0
    have hnil := fun W => Lib.run_eql_slice_nil (P := Try.prog) W 22 9 none 0 c 0 0 Try.underlying22
    go_enter Try.func63, Try.ntmps63
    go_wp2_with fail
    go_ret
    exact ⟨_, rfl, World.ownsRow_nil _ _ _ _, Below.refl _ _⟩
  · have hone := one_str ks
    have HONE := hid hone
    clear hone
    have hnil := fun W => Lib.run_eql_slice_nil (P := Try.prog) W 22 9 (some ad) ks.length c 0 0 Try.underlying22
    go_enter Try.func63, Try.ntmps63
    go_wp2_with (at_builtin; refine wpList_appStrs rfl (.tmp 5) (.tmp 6) rfl w.heap.size _ _ 0 ks.length [] _ S rfl (own_empty _ _ _) rfl (HK.out.below (below_box _) (by omega)) HONE.out (by omega) (by simp) ?_; intro v' w' h1 h2 _ _)
    go_ret
    exact ⟨v', rfl, by simpa using h1, (below_box _).trans h2⟩
end Go.Proofs.Ytpoofeiajmkfdaa
