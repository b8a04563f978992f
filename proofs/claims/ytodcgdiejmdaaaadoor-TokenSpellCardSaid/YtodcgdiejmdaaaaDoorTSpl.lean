/-
  Spell of the program, by its contract.
-/
import Derived.Test.YtodcgdiejmdaaaaDoorJShelf
import Derived.Test.YtodcgdiejmdaaaaDoorTEq
import Derived.Test.YtodcgdiejmdaaaaDoorTQuot2
import Derived.Test.YtodcgdiejmdaaaaDoorNRun
import Derived.Lib.Join
namespace Go.Proofs.YtodcgdiejmdaaaaDoor
open Go.RowKit
namespace Tk

/-- The text of a token; tokens of other kinds have none. -/
def txt (t : T) : Option (List UInt8) :=
  if t.k = 1 then some t.t else if t.k = 2 then some t.t else if t.k = 5 then some t.t else if t.k = 3 then some (Lib.itoa t.n) else if t.k = 4 then some (quote t.t) else none
def txts (l : List T) : List (List UInt8) := l.filterMap txt
def spell (l : List T) : List UInt8 := Lib.join (txts l) [32]
theorem txts_take {l : List T} {i : Nat} (h : i < l.length) : txts (l.take (i + 1)) = txts (l.take i) ++ (match txt l[i] with
    | some x => [x]
    | none => []) := by
  unfold txts
  rw [List.take_succ_eq_append_getElem h, List.filterMap_append]
  congr 1
  cases hx : txt l[i] <;> simp [hx]
theorem txts_len (l : List T) : (txts l).length ≤ l.length := List.length_filterMap_le _ _
/-- What bounds a list of tokens. -/
def Fit (l : List T) : Prop := l.length ≤ 20000 ∧ ∀ t ∈ l, t.t.length ≤ 20000 ∧ -9223372036854775808 ≤ t.n ∧ t.n ≤ 9223372036854775807
theorem txt_len {t : T} {x : List UInt8} (h : txt t = some x) (h1 : t.t.length ≤ 20000) (h2 : -9223372036854775808 ≤ t.n) (h3 : t.n ≤ 9223372036854775807) : x.length ≤ 100000 := by
  unfold txt at h
  have hi := Lib.itoa_length_le t.n h2 h3
  have hq := qcs_len t.t
  split at h
  · cases h; omega
  · split at h
    · cases h; omega
    · split at h
      · cases h; omega
      · split at h
        · cases h; omega
        · split at h
          · cases h
            simp only [quote, List.length_cons, List.length_append, List.length_nil]; omega
          · cases h
theorem lens_le : ∀ (r : List (List UInt8)) (B : Nat), (∀ x ∈ r, x.length ≤ B) → Lib.lens r ≤ B * r.length
  | [], B, _ => by simp [Lib.lens]
  | x :: r, B, h => by
    have ih := lens_le r B fun y hy => h y (by simp [hy])
    have hx := h x (by simp)
    have : Lib.lens (x :: r) = x.length + Lib.lens r := by simp [Lib.lens]
    rw [this, List.length_cons, Nat.mul_add]
    omega
theorem spell_len {l : List T} (h : Fit l) : (spell l).length ≤ 10000000000 := by
  unfold spell
  have hn : (txts l).length ≤ 20000 := Nat.le_trans (txts_len l) h.1
  have hb : ∀ x ∈ txts l, x.length ≤ 100000 := by
    intro x hx
    obtain ⟨t, ht, hx⟩ := List.mem_filterMap.1 hx
    exact txt_len hx (h.2 t ht).1 (h.2 t ht).2.1 (h.2 t ht).2.2
  cases hx : txts l with
  | nil => rw [Lib.join_nil]; simp
  | cons x r =>
    rw [Lib.join_length, ← hx]
    have := lens_le (txts l) 100000 hb
    have h2 : r.length + 1 = (txts l).length := by rw [hx]; simp
    simp only [List.length_singleton]
    omega
end Tk

def strV (x : List UInt8) : Value := .string (byS x)
/-- The slice v is the call's own and holds the strings xs. -/
def OwnS (w : World) (base : Nat) (v : Value) (xs : List (List UInt8)) : Prop := Own w base 9 v (xs.map strV)
theorem Tryd.infoStr : (Tryd.prog.info? 9).map (fun i => (i.zero, i.size, i.bytes)) = some (some (.string ⟨#[]⟩), 1, 16) := by kernel_rfl

/-- 'append(texts, x)': the literal [x] has just been made. -/
theorem wpList_appS1 {wr : World} {ops : Array Oper} {rest : List Oper} {o : Oper} {a : Act} {Q : Exit → Act → World → Prop} (hgd : o.guard = none) (s x : Operand)
    (ho : o.op = .call { callee := .builtin .append, args := #[s, x], argTypes := #[44, 44] })
    (base : Nat) (v : Value) (xs : List (List UInt8)) (b : List UInt8) (hs : a.eval s = v) (hown : OwnS wr base v xs) (hx : a.eval x = .slice (some ⟨wr.heap.size, 0, none⟩) 1 1)
    (hl : xs.length ≤ 1000000) (hbase : base ≤ wr.heap.size)
    (h : ∀ v' w', OwnS w' base v' (xs ++ [b]) → Below base wr w' → wpList Tryd.prog ops Q rest (a.put o.dst v') w') :
    wpList Tryd.prog ops Q (o :: rest) a (wr.alloc (.cells #[.string (byS b)] 9)) := by
  obtain ⟨i0, hi, hz0, hz1, hz2⟩ := info_parts Tryd.infoStr
  refine wpList_app (wr.alloc (.cells #[.string (byS b)] 9)) hgd s x 44 ho base 9 i0 _ 16 Tryd.underlying44 hi hz0 hz1 hz2 rfl v _ (xs.map strV) [.string (byS b)] hs (Own.alloc hown _) hx
    (Own.lit (base := 0) wr [.string (byS b)] (Nat.zero_le _) (by simp [maxLen])).rd (by intro u hu; obtain rfl := List.mem_singleton.1 hu; rfl) (by simp; omega) (by simp; omega) (by simp; omega) ?_
  intro v' w' h1 h2
  refine h v' w' ?_ (((Below.refl base wr).alloc hbase _).trans h2)
  unfold OwnS
  rw [List.map_append]
  exact h1

theorem join_own (w : World) (base : Nat) (v : Value) (xs : List (List UInt8)) (h : OwnS w base v xs) (hn : xs.length ≤ 100000) (hl : (Lib.join xs [32]).length ≤ 140737488355328) :
    Calls Tryd.prog 27 #[v, .string ⟨#[32]⟩] w fun e w' => e = .returned (.string (byS (Lib.join xs [32]))) ∧ Below w.heap.size w w' := by
  obtain ⟨A, c, rfl, h1, h2, h3⟩ := Own.rd h
  rcases h3 with h3 | ⟨ad, rfl, h3⟩
  · have : xs = [] := List.map_eq_nil_iff.1 h3
    subst this
    refine (Tryd.strings_Join_none A c ⟨#[32]⟩ w).mono ?_
    rintro e w' ⟨rfl, rfl⟩
    exact ⟨rfl, Below.refl _ _⟩
  · cases xs with
    | nil =>
      refine (Tryd.strings_Join_none (some ad) c ⟨#[32]⟩ w).mono ?_
      rintro e w' ⟨rfl, rfl⟩
      exact ⟨rfl, Below.refl _ _⟩
    | cons x r =>
      rcases h.2 with ⟨hv, h0⟩ | ⟨g, cap, cur, hv, hbg, hg, _⟩
      · simp at h0
      · injection hv with e1 e2 e3
        injection e1 with e1
        subst e1
        have hm : ((x :: r).map byS).map (fun b : ByteArray => b.data.toList) = x :: r := by
          rw [List.map_map]
          conv => rhs; rw [← List.map_id (x :: r)]
          rfl
        have C := Tryd.strings_Join g 0 c ((x :: r).map byS) ⟨#[32]⟩ w (fun j y hj => by
          have := h3 j (.string y) (by
            rw [List.getElem?_map] at hj ⊢
            cases hx : (x :: r)[j]? with
            | none => rw [hx] at hj; cases hj
            | some z => rw [hx] at hj; simp at hj; subst hj; rfl)
          rw [show (⟨g, 0, none⟩ : Addr).add j = ⟨g, 0 + j, none⟩ by simp [Addr.add]; omega] at this
          exact this) (Array.getElem?_eq_some_iff.1 hg).1 (by simp; simp at hn; omega) (by simpa using h1) (by rw [hm]; exact hl)
        rw [hm] at C
        have hlen : ((x :: r).map byS).length = ((x :: r).map strV).length := by simp
        rw [hlen] at C
        exact C
end Go.Proofs.YtodcgdiejmdaaaaDoor
