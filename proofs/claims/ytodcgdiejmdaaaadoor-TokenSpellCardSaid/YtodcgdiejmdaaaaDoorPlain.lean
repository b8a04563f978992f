/-
  The plain mathematics of layer 1 (wire): the encoding of integers in base 128 and how it is read. It imports nothing of the program.
-/
namespace Go.Proofs.YtodcgdiejmdaaaaDoor
namespace Wi

def zig (n : Int) : Nat := if 0 ≤ n then (2 * n).toNat else (-2 * n - 1).toNat
def unzig (u : Nat) : Int := if u % 2 = 0 then ((u / 2 : Nat) : Int) else -((u / 2 : Nat) : Int) - 1

def digs (u : Nat) : List UInt8 := if u < 128 then [UInt8.ofNat u] else UInt8.ofNat (u % 128 + 128) :: digs (u / 128)
termination_by u
decreasing_by omega

def enc (n : Int) : List UInt8 := digs (zig n)

def val : List UInt8 → Nat
  | [] => 0
  | b :: l => b.toNat % 128 + 128 * val l

/-- The place of the first byte below 128 among the first f bytes. -/
def term : Nat → List UInt8 → Option Nat
  | 0, _ => none
  | _ + 1, [] => none
  | f + 1, b :: l => if b.toNat < 128 then some 0 else (term f l).map (· + 1)

def badEnd (j b : Nat) : Prop := (1 ≤ j ∧ b = 0) ∨ (j = 9 ∧ 1 < b)
instance (j b : Nat) : Decidable (badEnd j b) := by unfold badEnd; infer_instance

/-- What reading an integer gives: the integer, the number of bytes, the error. -/
def pInt (l : List UInt8) : Int × Nat × Int :=
  match term 10 l with
  | none => (0, 0, if 10 ≤ l.length then 3 else 4)
  | some j => if badEnd j (l.getD j 0).toNat then (0, 0, 3) else (unzig (val (l.take (j + 1))), j + 1, 0)

theorem zig_lt (n : Int) (h : -9223372036854775808 ≤ n) (h' : n ≤ 9223372036854775807) : zig n < 18446744073709551616 := by
  unfold zig; split <;> omega
theorem unzig_zig (n : Int) : unzig (zig n) = n := by
  unfold zig unzig; split <;> split <;> omega
theorem zig_unzig (u : Nat) : zig (unzig u) = u := by
  unfold zig unzig; split <;> split <;> omega
theorem unzig_range (u : Nat) (h : u < 18446744073709551616) : -9223372036854775808 ≤ unzig u ∧ unzig u ≤ 9223372036854775807 := by
  unfold unzig; split <;> omega

theorem digs_small {u : Nat} (h : u < 128) : digs u = [UInt8.ofNat u] := by rw [digs, if_pos h]
theorem digs_big {u : Nat} (h : ¬ u < 128) : digs u = UInt8.ofNat (u % 128 + 128) :: digs (u / 128) := by rw [digs, if_neg h]
theorem ofNat_toNat {k : Nat} (h : k < 256) : (UInt8.ofNat k).toNat = k := by simp [UInt8.toNat_ofNat']; omega
theorem digs_pos (u : Nat) : 0 < (digs u).length := by
  by_cases h : u < 128
  · simp [digs_small h]
  · simp [digs_big h]

theorem val_digs (u : Nat) : val (digs u) = u := by
  induction u using Nat.strongRecOn with
  | ind u ih =>
    by_cases h : u < 128
    · rw [digs_small h]; simp only [val]; rw [ofNat_toNat (by omega)]; omega
    · rw [digs_big h]; simp only [val]; rw [ih (u / 128) (by omega), ofNat_toNat (by omega)]; omega

theorem term_digs (f : Nat) : ∀ (u : Nat) (rest : List UInt8), u < 128 ^ f → 0 < f → term f (digs u ++ rest) = some ((digs u).length - 1) := by
  induction f with
  | zero => intro u rest _ h; omega
  | succ f ih =>
    intro u rest hu _
    by_cases h : u < 128
    · rw [digs_small h]; simp only [List.cons_append, term]; rw [if_pos (by rw [ofNat_toNat (by omega)]; exact h)]; simp
    · rw [digs_big h]
      simp only [List.cons_append, term]
      rw [if_neg (by rw [ofNat_toNat (by omega)]; omega)]
      have hf : 0 < f := by
        rcases Nat.eq_zero_or_pos f with rfl | h0
        · simp at hu; omega
        · exact h0
      rw [ih (u / 128) rest (by rw [Nat.div_lt_iff_lt_mul (by omega)]; rw [Nat.pow_succ] at hu; exact hu) hf]
      have := digs_pos (u / 128)
      simp; omega

theorem digs_length_le (f : Nat) : ∀ (u : Nat), u < 128 ^ f → 0 < f → (digs u).length ≤ f := by
  induction f with
  | zero => intro u _ h; omega
  | succ f ih =>
    intro u hu _
    by_cases h : u < 128
    · rw [digs_small h]; simp
    · rw [digs_big h]
      have hf : 0 < f := by
        rcases Nat.eq_zero_or_pos f with rfl | h0
        · simp at hu; omega
        · exact h0
      have := ih (u / 128) (by rw [Nat.div_lt_iff_lt_mul (by omega)]; rw [Nat.pow_succ] at hu; exact hu) hf
      simp; omega

theorem digs_last (u : Nat) : ((digs u).getD ((digs u).length - 1) 0).toNat = u / 128 ^ ((digs u).length - 1) ∧ (1 < (digs u).length → 128 ^ ((digs u).length - 1) ≤ u) := by
  induction u using Nat.strongRecOn with
  | ind u ih =>
    by_cases h : u < 128
    · rw [digs_small h]; simp; omega
    · rw [digs_big h]
      obtain ⟨h1, h2⟩ := ih (u / 128) (by omega)
      have hp := digs_pos (u / 128)
      have e : (UInt8.ofNat (u % 128 + 128) :: digs (u / 128)).length - 1 = ((digs (u / 128)).length - 1) + 1 := by simp; omega
      rw [e]
      refine ⟨?_, fun _ => ?_⟩
      · rw [List.getD_cons_succ, h1, Nat.div_div_eq_div_mul, Nat.pow_succ, Nat.mul_comm]
      · rw [Nat.pow_succ]
        by_cases h3 : 1 < (digs (u / 128)).length
        · have := h2 h3; omega
        · have : (digs (u / 128)).length - 1 = 0 := by omega
          rw [this]; simp; omega

theorem enc_len (n : Int) (h : -9223372036854775808 ≤ n) (h' : n ≤ 9223372036854775807) : 1 ≤ (enc n).length ∧ (enc n).length ≤ 10 :=
  ⟨digs_pos _, digs_length_le 10 _ (by have := zig_lt n h h'; simp; omega) (by omega)⟩

/-- What was appended is read back, whatever follows. -/
theorem pInt_enc (n : Int) (rest : List UInt8) (h : -9223372036854775808 ≤ n) (h' : n ≤ 9223372036854775807) : pInt (enc n ++ rest) = (n, (enc n).length, 0) := by
  have hz := zig_lt n h h'
  have hz' : zig n < 128 ^ 10 := by simp; omega
  have hp := digs_pos (zig n)
  have hl := digs_length_le 10 _ hz' (by omega)
  have ht := term_digs 10 (zig n) rest hz' (by omega)
  obtain ⟨h1, h2⟩ := digs_last (zig n)
  have hg : (digs (zig n) ++ rest).getD ((digs (zig n)).length - 1) 0 = (digs (zig n)).getD ((digs (zig n)).length - 1) 0 := by
    rw [List.getD_eq_getElem?_getD, List.getElem?_append_left (by omega), ← List.getD_eq_getElem?_getD]
  have htk : (digs (zig n) ++ rest).take ((digs (zig n)).length - 1 + 1) = digs (zig n) := by
    rw [show (digs (zig n)).length - 1 + 1 = (digs (zig n)).length by omega, List.take_left]
  have hb : ¬ badEnd ((digs (zig n)).length - 1) ((digs (zig n) ++ rest).getD ((digs (zig n)).length - 1) 0).toNat := by
    rw [hg, h1]
    rintro (⟨ha, hb⟩ | ⟨ha, hb⟩)
    · have := h2 (by omega)
      have hp2 : 0 < 128 ^ ((digs (zig n)).length - 1) := Nat.pow_pos (by omega)
      have hp3 := Nat.div_pos this hp2
      omega
    · rw [ha] at hb
      simp at hb
      omega
  unfold pInt enc
  rw [ht]
  simp only []
  rw [if_neg hb, htk, val_digs, unzig_zig]
  simp; omega

theorem term_some {f : Nat} : ∀ {l : List UInt8} {j : Nat}, term f l = some j → j < f ∧ ∃ (pre : List UInt8) (b : UInt8) (rest : List UInt8), l = pre ++ b :: rest ∧ pre.length = j ∧ (∀ x ∈ pre, 128 ≤ x.toNat) ∧ b.toNat < 128 := by
  induction f with
  | zero => intro l j h; simp [term] at h
  | succ f ih =>
    intro l j h
    match l with
    | [] => simp [term] at h
    | b :: l =>
      simp only [term] at h
      by_cases hb : b.toNat < 128
      · rw [if_pos hb] at h
        obtain rfl : 0 = j := by simpa using h
        exact ⟨by omega, [], b, l, rfl, rfl, by simp, hb⟩
      · rw [if_neg hb] at h
        cases ht : term f l with
        | none => rw [ht] at h; simp at h
        | some i =>
          rw [ht] at h
          obtain rfl : i + 1 = j := by simpa using h
          obtain ⟨h1, pre, c, rest, rfl, h3, h4, h5⟩ := ih ht
          refine ⟨by omega, b :: pre, c, rest, rfl, by simp [h3], ?_, h5⟩
          intro x hx
          rcases List.mem_cons.1 hx with rfl | hx
          · omega
          · exact h4 x hx

theorem term_at (f : Nat) : ∀ (l : List UInt8) (i : Nat), (∀ x ∈ l.take i, 128 ≤ x.toNat) → i < l.length → i < f → (l.getD i 0).toNat < 128 → term f l = some i := by
  induction f with
  | zero => intro l i _ _ h; omega
  | succ f ih =>
    intro l i h hi hf hb
    match l, i with
    | [], _ => simp at hi
    | b :: l, 0 => simp at hb; simp [term, hb]
    | b :: l, i + 1 =>
      have h1 : 128 ≤ b.toNat := h b (by simp)
      simp only [term]
      rw [if_neg (by omega), ih l i (fun x hx => h x (by simp [hx])) (by simpa using hi) (by omega) (by simpa using hb)]
      rfl

theorem term_no (f : Nat) : ∀ (l : List UInt8), (∀ x ∈ l.take f, 128 ≤ x.toNat) → term f l = none := by
  induction f with
  | zero => intro l _; rfl
  | succ f ih =>
    intro l h
    match l with
    | [] => rfl
    | b :: l =>
      have h1 : 128 ≤ b.toNat := h b (by simp)
      simp only [term]
      rw [if_neg (by omega), ih l (fun x hx => h x (by simp [hx]))]
      rfl

theorem val_snoc (pre : List UInt8) (b : UInt8) : val (pre ++ [b]) = val pre + b.toNat % 128 * 128 ^ pre.length := by
  induction pre with
  | nil => simp [val]
  | cons c t ih =>
    simp only [List.cons_append, val, List.length_cons, ih, Nat.pow_succ, Nat.mul_add]
    rw [show b.toNat % 128 * (128 ^ t.length * 128) = 128 * (b.toNat % 128 * 128 ^ t.length) by rw [← Nat.mul_assoc, Nat.mul_comm]]
    omega
theorem val_lt (l : List UInt8) : val l < 128 ^ l.length := by
  induction l with
  | nil => simp [val]
  | cons c t ih => simp only [val, List.length_cons, Nat.pow_succ]; omega

theorem digs_val (pre : List UInt8) (b : UInt8) (hp : ∀ x ∈ pre, 128 ≤ x.toNat) (hb : b.toNat < 128) (h0 : pre = [] ∨ b.toNat ≠ 0) : digs (val (pre ++ [b])) = pre ++ [b] := by
  induction pre with
  | nil =>
    have e : val ([] ++ [b]) = b.toNat := by simp [val]; omega
    rw [e, digs_small hb]
    simp
  | cons c t ih =>
    have hb0 : b.toNat ≠ 0 := by
      rcases h0 with h | h
      · cases h
      · exact h
    have hc : 128 ≤ c.toNat := hp c (by simp)
    have hc' : c.toNat < 256 := c.toNat_lt
    have hpos : 0 < val (t ++ [b]) := by
      rw [val_snoc]
      have : 0 < b.toNat % 128 * 128 ^ t.length := Nat.mul_pos (by omega) (Nat.pow_pos (by omega))
      omega
    have e : val (c :: t ++ [b]) = c.toNat % 128 + 128 * val (t ++ [b]) := rfl
    rw [e, digs_big (by omega)]
    rw [show (c.toNat % 128 + 128 * val (t ++ [b])) % 128 + 128 = c.toNat by omega, show (c.toNat % 128 + 128 * val (t ++ [b])) / 128 = val (t ++ [b]) by omega]
    rw [ih (fun x hx => hp x (by simp [hx])) (.inr hb0)]
    simp

/-- Bytes that are read as an integer are exactly its encoding. -/
theorem pInt_ok {l : List UInt8} {n : Int} {k : Nat} (h : pInt l = (n, k, 0)) : l.take k = enc n ∧ k ≤ l.length ∧ -9223372036854775808 ≤ n ∧ n ≤ 9223372036854775807 := by
  unfold pInt at h
  cases ht : term 10 l with
  | none => rw [ht] at h; simp only [] at h; split at h <;> simp at h
  | some j =>
    rw [ht] at h
    obtain ⟨h1, pre, b, rest, rfl, h3, h4, h5⟩ := term_some ht
    simp only [] at h
    have hg : ((pre ++ b :: rest).getD j 0) = b := by subst h3; simp
    rw [hg] at h
    have htk : (pre ++ b :: rest).take (j + 1) = pre ++ [b] := by subst h3; simp [List.take_append, List.take_of_length_le]
    by_cases hbad : badEnd j b.toNat
    · rw [if_pos hbad] at h; simp at h
    · rw [if_neg hbad, htk] at h
      simp only [Prod.mk.injEq, and_true] at h
      obtain ⟨rfl, rfl⟩ := h
      unfold badEnd at hbad
      have hv : val (pre ++ [b]) < 18446744073709551616 := by
        have h7 := val_lt pre
        rw [val_snoc]
        rw [h3] at h7 ⊢
        by_cases h9 : j = 9
        · subst h9
          have : b.toNat ≤ 1 := by omega
          have : b.toNat % 128 * 128 ^ 9 ≤ 1 * 128 ^ 9 := Nat.mul_le_mul_right _ (by omega)
          omega
        · have h8 : (128 : Nat) ^ j ≤ 128 ^ 8 := Nat.pow_le_pow_right (by omega) (by omega)
          have h10 : b.toNat % 128 * 128 ^ j ≤ 127 * 128 ^ 8 := Nat.mul_le_mul (by omega) h8
          omega
      have hd := digs_val pre b h4 h5 (by
        rcases Nat.eq_zero_or_pos j with h0 | h0
        · exact .inl (List.eq_nil_of_length_eq_zero (h3.trans h0))
        · exact .inr (fun e => hbad (.inl ⟨h0, e⟩)))
      refine ⟨?_, ?_, unzig_range _ hv⟩
      · rw [htk]; unfold enc; rw [zig_unzig, hd]
      · simp; omega

theorem pInt_err {l : List UInt8} {n : Int} {k : Nat} {e : Int} (h : pInt l = (n, k, e)) : (e = 0 ∧ 1 ≤ k ∧ k ≤ 10) ∨ (n = 0 ∧ k = 0 ∧ (e = 3 ∨ e = 4)) := by
  unfold pInt at h
  cases ht : term 10 l with
  | none => rw [ht] at h; simp only [Prod.mk.injEq] at h; right; obtain ⟨rfl, rfl, rfl⟩ := h; split <;> simp
  | some j =>
    rw [ht] at h
    obtain ⟨h1, _⟩ := term_some ht
    simp only [] at h
    split at h <;> simp only [Prod.mk.injEq] at h <;> obtain ⟨rfl, rfl, rfl⟩ := h
    · right; simp
    · left; simp; omega

theorem enc_inj {m n : Int} (h : enc m = enc n) : m = n := by
  have := congrArg val h
  unfold enc at this
  rw [val_digs, val_digs] at this
  rw [← unzig_zig m, ← unzig_zig n, this]

end Wi
end Go.Proofs.YtodcgdiejmdaaaaDoor
