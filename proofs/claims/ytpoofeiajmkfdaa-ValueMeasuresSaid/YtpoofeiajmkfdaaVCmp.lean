/-
  compare and Order of the reference: contracts.
-/
import Derived.Test.YtpoofeiajmkfdaaVSame2
import Derived.Test.YtpoofeiajmkfdaaVOrd2
namespace Go.Proofs.Ytpoofeiajmkfdaa
open Go.RowKit

theorem sign_any (x y : Bool) (w : World) : Calls Try.prog 98 #[.bool x, .bool y] w fun e w' => e = .returned (.int .i64 (if x = true then -1 else if y = true then 1 else 0)) ∧ w = w' := by
  cases x
  · cases y
    · go_enter Try.func98, Try.ntmps98
      go_wp2
      go_ret
      exact ⟨rfl, rfl⟩
    · go_enter Try.func98, Try.ntmps98
      go_wp2
      go_ret
      exact ⟨rfl, rfl⟩
  · go_enter Try.func98, Try.ntmps98
    go_wp2
    go_ret
    exact ⟨rfl, rfl⟩

theorem calli {P : Program} {f : FuncId} {args : Array Value} {w : World} {Q : World → Prop} {b b' : Int} (hb : b = b') (h : Calls P f args w fun e w' => e = .returned (.int .i64 b) ∧ Q w') :
    Calls P f args w fun e w' => e = .returned (.int .i64 b') ∧ Q w' := by subst hb; exact h

theorem VA.drew {w : World} {S : Nat → Prop} {a : Value} {v : V} (h : VA w S a v) : VA w.drew S a v := h.below (Below.refl _ _).drew

/-- The pairs from place i on. -/
def restP (l : List V) (ks : List ByteArray) (l' : List V) (ks' : List ByteArray) (i : Nat) : Int := V.cmpP (l.drop i) (ks.drop i) (l'.drop i) (ks'.drop i)
def restL (l l' : List V) (i : Nat) : Int := V.cmpL (l.drop i) (l'.drop i)
theorem restL_at {l l' : List V} {i : Nat} (h : i < l.length) (h' : i < l'.length) : restL l l' i = if V.cmp l[i] l'[i] ≠ 0 then V.cmp l[i] l'[i] else restL l l' (i + 1) := by
  unfold restL
  rw [List.drop_eq_getElem_cons h, List.drop_eq_getElem_cons h', V.cmpL_cons]
theorem restL_end {l l' : List V} {i : Nat} (hi : i ≤ l.length) (hi' : i ≤ l'.length) (h : ¬ (i < l.length ∧ i < l'.length)) : restL l l' i = if l.length < l'.length then -1 else if l'.length < l.length then 1 else 0 := by
  unfold restL
  by_cases h1 : i < l.length
  · have e : l'.drop i = [] := List.drop_eq_nil_iff.2 (by omega)
    rw [e, List.drop_eq_getElem_cons h1, V.cmpL_cn, if_neg (by omega), if_pos (by omega)]
  · have e : l.drop i = [] := List.drop_eq_nil_iff.2 (by omega)
    rw [e]
    by_cases h2 : i < l'.length
    · rw [List.drop_eq_getElem_cons h2, V.cmpL_nc, if_pos (by omega)]
    · have e' : l'.drop i = [] := List.drop_eq_nil_iff.2 (by omega)
      rw [e', V.cmpL_nil, if_neg (by omega), if_neg (by omega)]
theorem restP_at {l : List V} {ks : List ByteArray} {l' : List V} {ks' : List ByteArray} {i : Nat} (h : i < l.length) (h' : i < l'.length) (hk : i < ks.length) (hk' : i < ks'.length) :
    restP l ks l' ks' i = if V.cS ks[i] ks'[i] ≠ 0 then V.cS ks[i] ks'[i] else if V.cmp l[i] l'[i] ≠ 0 then V.cmp l[i] l'[i] else restP l ks l' ks' (i + 1) := by
  unfold restP
  rw [List.drop_eq_getElem_cons h, List.drop_eq_getElem_cons h', List.drop_eq_getElem_cons hk, List.drop_eq_getElem_cons hk', V.cmpP_cons]
theorem restP_end {l : List V} {ks : List ByteArray} {l' : List V} {ks' : List ByteArray} {i : Nat} (hi : i ≤ l.length) (hi' : i ≤ l'.length) (h : ¬ (i < l.length ∧ i < l'.length)) : restP l ks l' ks' i = if l.length < l'.length then -1 else if l'.length < l.length then 1 else 0 := by
  unfold restP
  by_cases h1 : i < l.length
  · have e : l'.drop i = [] := List.drop_eq_nil_iff.2 (by omega)
    rw [e, List.drop_eq_getElem_cons h1, V.cmpP_cn, if_neg (by omega), if_pos (by omega)]
  · have e : l.drop i = [] := List.drop_eq_nil_iff.2 (by omega)
    rw [e]
    by_cases h2 : i < l'.length
    · rw [List.drop_eq_getElem_cons h2, V.cmpP_nc, if_pos (by omega)]
    · have e' : l'.drop i = [] := List.drop_eq_nil_iff.2 (by omega)
      rw [e', V.cmpP_nil, if_neg (by omega), if_neg (by omega)]

/-- What the reference's loop reckons, from place i on. -/
def rest (k : Int) (l : List V) (ks : List ByteArray) (l' : List V) (ks' : List ByteArray) (i : Nat) : Int := if k = 5 then restP l ks l' ks' i else restL l l' i
theorem rest_end {k : Int} {l : List V} {ks : List ByteArray} {l' : List V} {ks' : List ByteArray} {i : Nat} (hi : i ≤ l.length) (hi' : i ≤ l'.length) (h : ¬ (i < l.length ∧ i < l'.length)) : rest k l ks l' ks' i = if l.length < l'.length then -1 else if l'.length < l.length then 1 else 0 := by
  unfold rest
  split
  · exact restP_end hi hi' h
  · exact restL_end hi hi' h
theorem rest_cmp {k : Int} {l : List V} {ks : List ByteArray} {l' : List V} {ks' : List ByteArray} {i : Nat} (h : i < l.length) (h' : i < l'.length)
    (hk : k = 5 → ∃ (p : i < ks.length) (q : i < ks'.length), ks[i] = ks'[i]) : rest k l ks l' ks' i = if V.cmp l[i] l'[i] ≠ 0 then V.cmp l[i] l'[i] else rest k l ks l' ks' (i + 1) := by
  unfold rest
  split
  · obtain ⟨p, q, e⟩ := hk (by assumption)
    rw [restP_at h h' p q, e, V.cS_self, if_neg (by omega)]
  · exact restL_at h h'
theorem rest_key {k : Int} (h5 : k = 5) {l : List V} {ks : List ByteArray} {l' : List V} {ks' : List ByteArray} {i : Nat} (h : i < l.length) (h' : i < l'.length) (p : i < ks.length) (q : i < ks'.length) (hne : ks[i] ≠ ks'[i]) :
    rest k l ks l' ks' i = if V.lt ks[i] ks'[i] = true then -1 else 1 := by
  subst h5
  unfold rest
  rw [if_pos rfl, restP_at h h' p q]
  have : V.cS ks[i] ks'[i] ≠ 0 := fun e => hne ((V.cS_zero _ _).1 e)
  rw [if_pos this]
  unfold V.cS at this ⊢
  cases e1 : V.lt ks[i] ks'[i] <;> cases e2 : V.lt ks'[i] ks[i] <;> simp [e1, e2] at this ⊢

theorem sign_t (y : Bool) (w : World) : Calls Try.prog 98 #[.bool true, .bool y] w fun e w' => e = .returned (.int .i64 (-1)) ∧ w = w' := sign_any true y w
theorem sign_f (w : World) : Calls Try.prog 98 #[.bool false, .bool true] w fun e w' => e = .returned (.int .i64 1) ∧ w = w' := sign_any false true w
theorem sign_z (w : World) : Calls Try.prog 98 #[.bool false, .bool false] w fun e w' => e = .returned (.int .i64 0) ∧ w = w' := sign_any false false w

def early (k n k' n' : Int) (s s' : ByteArray) : Int := if k ≠ k' then (if k < k' then -1 else 1) else if n ≠ n' then (if n < n' then -1 else 1) else (if V.lt s s' = true then -1 else 1)

set_option maxRecDepth 100000 in
set_option maxHeartbeats 2000000 in
/-- The reference's compare where the kinds, the integers or the strings differ. -/
theorem rcmp_early (k n k' n' : Int) (s s' : ByteArray) (A B A' B' : Option Addr) (c d c' d' p q p' q' : Nat) (w : World) (h : ¬ (k = k' ∧ n = n' ∧ s = s')) :
    Calls Try.prog 70 #[.agg #[.int .i64 k, .int .i64 n, .string s, .slice A p c, .slice B q d], .agg #[.int .i64 k', .int .i64 n', .string s', .slice A' p' c', .slice B' q' d']] w
      fun e w' => e = .returned (.int .i64 (early k n k' n' s s')) ∧ Below w.heap.size w w' := by
  have hB : Hid (∀ cs ds, Below w.heap.size w ((w.alloc (.cells cs 26)).alloc (.cells ds 26))) := fun cs ds => bstep (below_box _) (below_box _)
  by_cases hk : k = k'
  · subst hk
    by_cases hn : n = n'
    · subst hn
      have hs : ¬ s.toList = s'.toList := fun e => h ⟨rfl, rfl, ba_ext e⟩
      have hs2 : (s.toList == s'.toList) = false := by simp [hs]
      have HE : Hid (early k n k n s s' = if V.lt s s' = true then -1 else 1) := by show _ = _; simp [early]
      generalize early k n k n s s' = r at HE
      clear h
      cases hx : V.lt s s'
      · have hx' : Op.bytesLess s.toList s'.toList = false := hx
        have HX := hid hx
        clear hx
        go_enter Try.func70, Try.ntmps70
        go_wp2_with (go_at_call 98; refine (sign_f _).mono ?_; rintro e w' ⟨rfl, rfl⟩)
        go_ret
        exact ⟨ret_int (by rw [HE.out, HX.out]; rfl), hB.out _ _⟩
      · have hx' : Op.bytesLess s.toList s'.toList = true := hx
        have HX := hid hx
        clear hx
        go_enter Try.func70, Try.ntmps70
        go_wp2_with (go_at_call 98; refine (sign_t _ _).mono ?_; rintro e w' ⟨rfl, rfl⟩)
        go_ret
        exact ⟨ret_int (by rw [HE.out, HX.out]; rfl), hB.out _ _⟩
    · have hn2 : (n != n') = true := by simp [hn]
      have HE : Hid (early k n k n' s s' = if n < n' then -1 else 1) := by show _ = _; simp [early, hn]
      generalize early k n k n' s s' = r at HE
      clear h hn
      by_cases hx : n < n'
      · have HX := hid hx
        go_enter Try.func70, Try.ntmps70
        go_wp2_with (go_at_call 98; refine (sign_t _ _).mono ?_; rintro e w' ⟨rfl, rfl⟩)
        go_ret
        exact ⟨ret_int (by rw [HE.out, if_pos HX.out]), hB.out _ _⟩
      · have HX := hid hx
        have hx2 : decide (n < n') = false := by simp; omega
        go_enter Try.func70, Try.ntmps70
        go_wp2_with (go_at_call 98; refine (sign_f _).mono ?_; rintro e w' ⟨rfl, rfl⟩)
        go_ret
        exact ⟨ret_int (by rw [HE.out, if_neg (by have := HX.out; omega)]), hB.out _ _⟩
  · have hk2 : (k != k') = true := by simp [hk]
    have HE : Hid (early k n k' n' s s' = if k < k' then -1 else 1) := by show _ = _; simp [early, hk]
    generalize early k n k' n' s s' = r at HE
    clear h hk
    by_cases hx : k < k'
    · have HX := hid hx
      go_enter Try.func70, Try.ntmps70
      go_wp2_with (go_at_call 98; refine (sign_t _ _).mono ?_; rintro e w' ⟨rfl, rfl⟩)
      go_ret
      exact ⟨ret_int (by rw [HE.out, if_pos HX.out]), hB.out _ _⟩
    · have HX := hid hx
      have hx2 : decide (k < k') = false := by simp; omega
      go_enter Try.func70, Try.ntmps70
      go_wp2_with (go_at_call 98; refine (sign_f _).mono ?_; rintro e w' ⟨rfl, rfl⟩)
      go_ret
      exact ⟨ret_int (by rw [HE.out, if_neg (by have := HX.out; omega)]), hB.out _ _⟩
end Go.Proofs.Ytpoofeiajmkfdaa
