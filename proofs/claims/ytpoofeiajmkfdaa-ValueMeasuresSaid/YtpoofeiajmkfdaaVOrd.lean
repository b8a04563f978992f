/-
  The order of values: plain mathematics. It imports nothing of the program.
-/
import Derived.Test.YtpoofeiajmkfdaaVPlain
import Derived.Lib.Strings
namespace Go.Proofs.Ytpoofeiajmkfdaa
namespace V

theorem bl_irrefl (a : List UInt8) : Op.bytesLess a a = false := by
  induction a with
  | nil => rfl
  | cons x a ih => simp [Op.bytesLess, ih]
theorem bl_asymm : ∀ (a b : List UInt8), Op.bytesLess a b = true → Op.bytesLess b a = false
  | [], [], h => by simp [Op.bytesLess] at h
  | [], _ :: _, _ => by simp [Op.bytesLess]
  | _ :: _, [], h => by simp [Op.bytesLess] at h
  | x :: a, y :: b, h => by
    simp only [Op.bytesLess, Bool.or_eq_true, Bool.and_eq_true, decide_eq_true_eq, beq_iff_eq, UInt8.lt_iff_toNat_lt] at h
    simp only [Op.bytesLess, Bool.or_eq_false_iff, Bool.and_eq_false_iff, decide_eq_false_iff_not, UInt8.lt_iff_toNat_lt]
    rcases h with h | ⟨rfl, h⟩
    · refine ⟨by omega, .inl ?_⟩
      cases e : (y == x) with
      | false => rfl
      | true => have := beq_iff_eq.1 e; subst this; omega
    · exact ⟨by omega, .inr (bl_asymm a b h)⟩
theorem bl_trans : ∀ (a b c : List UInt8), Op.bytesLess a b = true → Op.bytesLess b c = true → Op.bytesLess a c = true
  | [], [], _, h, _ => by simp [Op.bytesLess] at h
  | [], _ :: _, [], _, h => by simp [Op.bytesLess] at h
  | [], _ :: _, _ :: _, _, _ => by simp [Op.bytesLess]
  | _ :: _, [], _, h, _ => by simp [Op.bytesLess] at h
  | _ :: _, _ :: _, [], _, h => by simp [Op.bytesLess] at h
  | x :: a, y :: b, z :: c, h, k => by
    simp only [Op.bytesLess, Bool.or_eq_true, Bool.and_eq_true, decide_eq_true_eq, beq_iff_eq, UInt8.lt_iff_toNat_lt] at h k ⊢
    rcases h with h | ⟨rfl, h⟩
    · rcases k with k | ⟨rfl, k⟩
      · exact .inl (by omega)
      · exact .inl h
    · rcases k with k | ⟨rfl, k⟩
      · exact .inl k
      · exact .inr ⟨rfl, bl_trans a b c h k⟩
theorem bl_total : ∀ (a b : List UInt8), Op.bytesLess a b = false → Op.bytesLess b a = false → a = b
  | [], [], _, _ => rfl
  | [], _ :: _, h, _ => by simp [Op.bytesLess] at h
  | _ :: _, [], _, h => by simp [Op.bytesLess] at h
  | x :: a, y :: b, h, k => by
    simp only [Op.bytesLess, Bool.or_eq_false_iff, Bool.and_eq_false_iff, decide_eq_false_iff_not, UInt8.lt_iff_toNat_lt] at h k
    obtain ⟨h1, h2⟩ := h
    obtain ⟨k1, k2⟩ := k
    have e : x = y := by
      apply UInt8.toNat_inj.1
      omega
    subst e
    simp at h2 k2
    rw [bl_total a b h2 k2]

theorem toList_inj {a b : ByteArray} (h : a.toList = b.toList) : a = b := by
  rw [ByteArray.toList_eq, ByteArray.toList_eq] at h
  cases a; cases b
  simp at h
  subst h
  rfl
theorem lt_irrefl (a : ByteArray) : lt a a = false := bl_irrefl _
theorem lt_asymm {a b : ByteArray} (h : lt a b = true) : lt b a = false := bl_asymm _ _ h
theorem lt_trans {a b c : ByteArray} (h : lt a b = true) (k : lt b c = true) : lt a c = true := bl_trans _ _ _ h k
theorem lt_total {a b : ByteArray} (h : lt a b = false) (k : lt b a = false) : a = b := toList_inj (bl_total _ _ h k)

theorem cI_anti (a b : Int) : cI b a = - cI a b := by unfold cI; split <;> split <;> omega
theorem cI_zero (a b : Int) : cI a b = 0 ↔ a = b := by unfold cI; split <;> (try split) <;> omega
theorem cI_le (a b : Int) : cI a b ≤ 0 ↔ a ≤ b := by unfold cI; split <;> (try split) <;> omega
theorem cS_self (a : ByteArray) : cS a a = 0 := by simp [cS, lt_irrefl]
theorem cS_anti (a b : ByteArray) : cS b a = - cS a b := by
  unfold cS
  cases h : lt a b <;> cases k : lt b a <;> simp
  · have := lt_asymm h; rw [k] at this; cases this
theorem cS_zero (a b : ByteArray) : cS a b = 0 ↔ a = b := by
  constructor
  · intro h
    unfold cS at h
    cases h1 : lt a b <;> cases h2 : lt b a <;> simp [h1, h2] at h
    exact lt_total h1 h2
  · rintro rfl; exact cS_self a
theorem cS_le (a b : ByteArray) : cS a b ≤ 0 ↔ lt b a = false := by
  unfold cS
  cases h : lt a b <;> cases k : lt b a <;> simp
  · have := lt_asymm h; rw [k] at this; cases this
theorem cS_trans {a b c : ByteArray} (h : cS a b ≤ 0) (k : cS b c ≤ 0) : cS a c ≤ 0 := by
  rw [cS_le] at *
  cases e : lt c a with
  | false => rfl
  | true =>
    -- c < a; not b < a; not c < b
    cases f : lt a b with
    | true => have := lt_trans e f; rw [k] at this; cases this
    | false =>
      have := lt_total f h
      subst this
      rw [k] at e
      cases e
theorem cS_range (a b : ByteArray) : cS a b = -1 ∨ cS a b = 0 ∨ cS a b = 1 := by
  unfold cS; split
  · simp
  · split <;> simp
theorem cI_range (a b : Int) : cI a b = -1 ∨ cI a b = 0 ∨ cI a b = 1 := by
  unfold cI; split
  · simp
  · split <;> simp

theorem cmp_mk (k n : Int) (s : ByteArray) (l : List V) (ks : List ByteArray) (k' n' : Int) (s' : ByteArray) (l' : List V) (ks' : List ByteArray) :
    cmp (mk k n s l ks) (mk k' n' s' l' ks') =
      if k ≠ k' then cI k k' else if k = 1 ∨ k = 2 ∨ k = 6 then cI n n' else if k = 3 then cS s s' else if k = 4 then cmpL l l' else if k = 5 then cmpP l ks l' ks' else 0 := by rw [cmp]
theorem cmpL_cons (a b : V) (x y : List V) : cmpL (a :: x) (b :: y) = if cmp a b ≠ 0 then cmp a b else cmpL x y := by rw [cmpL]
theorem cmpL_nil : cmpL [] [] = 0 := by rw [cmpL]
theorem cmpL_nc (b : V) (y : List V) : cmpL [] (b :: y) = -1 := by rw [cmpL]
theorem cmpL_cn (a : V) (x : List V) : cmpL (a :: x) [] = 1 := by rw [cmpL]
theorem cmpP_cons (a b : V) (x y : List V) (k k' : ByteArray) (ks ks' : List ByteArray) : cmpP (a :: x) (k :: ks) (b :: y) (k' :: ks') = if cS k k' ≠ 0 then cS k k' else if cmp a b ≠ 0 then cmp a b else cmpP x ks y ks' := by rw [cmpP]
theorem cmpP_nil (ks ks' : List ByteArray) : cmpP [] ks [] ks' = 0 := by rw [cmpP]
theorem cmpP_nc (b : V) (y : List V) (ks ks' : List ByteArray) : cmpP [] ks (b :: y) ks' = -1 := by rw [cmpP]
theorem cmpP_cn (a : V) (x : List V) (ks ks' : List ByteArray) : cmpP (a :: x) ks [] ks' = 1 := by rw [cmpP]

theorem wf_items {k n : Int} {s : ByteArray} {l : List V} {ks : List ByteArray} (h : wf (mk k n s l ks) = true) : ∀ u ∈ l, wf u = true := by
  rw [wf_mk, Bool.and_eq_true, wfL_all, List.all_eq_true] at h
  exact h.2
theorem wf_fit {k n : Int} {s : ByteArray} {l : List V} {ks : List ByteArray} (h : wf (mk k n s l ks) = true) : fit k n s l.length ks = true := by
  rw [wf_mk, Bool.and_eq_true] at h
  exact h.1

/-- What well-formedness says of each kind. -/
theorem fit_cases {k n : Int} {s : ByteArray} {l : List V} {ks : List ByteArray} (h : fit k n s l.length ks = true) :
    (k = 0 ∧ n = 0 ∧ s.size = 0 ∧ l = [] ∧ ks = []) ∨ (k = 1 ∧ s.size = 0 ∧ l = [] ∧ ks = []) ∨ (k = 2 ∧ s.size = 0 ∧ l = [] ∧ ks = []) ∨ (k = 3 ∧ n = 0 ∧ l = [] ∧ ks = []) ∨
    (k = 4 ∧ n = 0 ∧ s.size = 0 ∧ ks = []) ∨ (k = 5 ∧ n = 0 ∧ s.size = 0 ∧ l.length = ks.length ∧ rising ks = true) ∨ (k = 6 ∧ s.size = 0 ∧ l = [] ∧ ks = []) := by
  unfold fit at h
  split at h
  · simp only [Bool.and_eq_true, beq_iff_eq, decide_eq_true_eq, List.length_eq_zero_iff] at h
    exact .inl ⟨by assumption, h.1.1.1, h.1.1.2, h.1.2, h.2⟩
  · split at h
    · simp only [Bool.and_eq_true, Bool.or_eq_true, beq_iff_eq, decide_eq_true_eq, List.length_eq_zero_iff] at h
      exact .inr (.inl ⟨by assumption, h.1.1.2, h.1.2, h.2⟩)
    · split at h
      · simp only [Bool.and_eq_true, decide_eq_true_eq, List.length_eq_zero_iff] at h
        exact .inr (.inr (.inl ⟨by assumption, h.1.1, h.1.2, h.2⟩))
      · split at h
        · simp only [Bool.and_eq_true, beq_iff_eq, decide_eq_true_eq, List.length_eq_zero_iff] at h
          exact .inr (.inr (.inr (.inl ⟨by assumption, h.1.1, h.1.2, h.2⟩)))
        · split at h
          · simp only [Bool.and_eq_true, beq_iff_eq, decide_eq_true_eq, List.length_eq_zero_iff] at h
            exact .inr (.inr (.inr (.inr (.inl ⟨by assumption, h.1.1, h.1.2, h.2⟩))))
          · split at h
            · simp only [Bool.and_eq_true, beq_iff_eq, decide_eq_true_eq] at h
              exact .inr (.inr (.inr (.inr (.inr (.inl ⟨by assumption, h.1.1.1, h.1.1.2, h.1.2, h.2⟩)))))
            · split at h
              · simp only [Bool.and_eq_true, decide_eq_true_eq, List.length_eq_zero_iff] at h
                exact .inr (.inr (.inr (.inr (.inr (.inr ⟨by assumption, h.1.1.2, h.1.2, h.2⟩)))))
              · cases h

theorem size_zero {s s' : ByteArray} (h : s.size = 0) (h' : s'.size = 0) : s = s' := by
  cases s with
  | mk d =>
    cases s' with
    | mk d' =>
      have e : d = #[] := Array.eq_empty_of_size_eq_zero h
      have e' : d' = #[] := Array.eq_empty_of_size_eq_zero h'
      rw [e, e']

/-- The order as the reference reckons it. -/
theorem cmp_alt {k n : Int} {s : ByteArray} {l : List V} {ks : List ByteArray} {k' n' : Int} {s' : ByteArray} {l' : List V} {ks' : List ByteArray}
    (h : wf (mk k n s l ks) = true) (h' : wf (mk k' n' s' l' ks') = true) :
    cmp (mk k n s l ks) (mk k' n' s' l' ks') =
      if k ≠ k' then (if k < k' then -1 else 1) else if n ≠ n' then (if n < n' then -1 else 1) else if s ≠ s' then (if lt s s' = true then -1 else 1) else if k = 5 then cmpP l ks l' ks' else cmpL l l' := by
  rw [cmp_mk]
  by_cases hk : k = k'
  · subst hk
    simp only [ne_eq, not_true_eq_false, if_false]
    have cs : ∀ a b : ByteArray, a ≠ b → cS a b = if lt a b = true then -1 else 1 := by
      intro a b hab
      unfold cS
      cases e1 : lt a b <;> cases e2 : lt b a <;> simp
      exact hab (lt_total e1 e2)
    have ci : ∀ a b : Int, cI a b = if a ≠ b then (if a < b then -1 else 1) else 0 := by
      intro a b
      unfold cI
      split <;> split <;> (try split) <;> omega
    rcases fit_cases (wf_fit h) with ⟨rfl, rfl, q1, rfl, rfl⟩ | ⟨rfl, q1, rfl, rfl⟩ | ⟨rfl, q1, rfl, rfl⟩ | ⟨rfl, rfl, rfl, rfl⟩ | ⟨rfl, rfl, q1, rfl⟩ | ⟨rfl, rfl, q1, q2, q3⟩ | ⟨rfl, q1, rfl, rfl⟩ <;>
    rcases fit_cases (wf_fit h') with ⟨e, rfl, r1, rfl, rfl⟩ | ⟨e, r1, rfl, rfl⟩ | ⟨e, r1, rfl, rfl⟩ | ⟨e, rfl, rfl, rfl⟩ | ⟨e, rfl, r1, rfl⟩ | ⟨e, rfl, r1, r2, r3⟩ | ⟨e, r1, rfl, rfl⟩ <;>
    first
      | omega
      | (have es := size_zero q1 r1; subst es; simp [ci, cmpL_nil])
      | (by_cases es : s = s'
         · subst es; simp [cS_self, cmpL_nil]
         · simp [es, cs _ _ es])
  · rw [if_pos hk, if_pos hk]
    unfold cI
    split
    · rfl
    · rw [if_pos (by omega)]
end V
end Go.Proofs.Ytpoofeiajmkfdaa
