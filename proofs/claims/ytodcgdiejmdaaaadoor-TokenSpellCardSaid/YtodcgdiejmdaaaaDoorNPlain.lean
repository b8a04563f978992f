/-
  Layer 6, plain: names, run identifiers and keys over lists of bytes; the decimal digits read back.
-/
import Derived.Lib.ItoaNum
import Derived.Lib.AtoiAllCases
import Derived.Lib.Bytealg
namespace Go.Proofs.YtodcgdiejmdaaaaDoor
namespace Nm

/-! ### Names -/
def letter (c : UInt8) : Bool := (decide (97 ≤ c.toNat) && decide (c.toNat ≤ 122)) || (decide (65 ≤ c.toNat) && decide (c.toNat ≤ 90))
def digit (c : UInt8) : Bool := decide (48 ≤ c.toNat) && decide (c.toNat ≤ 57)
def okc (c : UInt8) : Bool := letter c || digit c || decide (c.toNat = 95)
def right (l : List UInt8) : Bool := decide (1 ≤ l.length) && decide (l.length ≤ 64) && !digit (l.headD 0) && l.all okc

theorem all_snoc {l : List UInt8} {c : UInt8} : (l ++ [c]).all okc = (l.all okc && okc c) := by simp
theorem right_snoc {l : List UInt8} (h : right l = true) (c : UInt8) : right (l ++ [c]) = (okc c && decide (l.length < 64)) := by
  unfold right at *
  cases l with
  | nil => simp at h
  | cons d r =>
    simp only [Bool.and_eq_true, decide_eq_true_eq, List.headD_cons, Bool.not_eq_true'] at h
    obtain ⟨⟨⟨h1, h2⟩, h3⟩, h4⟩ := h
    rw [all_snoc, h4]
    simp only [List.cons_append, List.headD_cons, h3, List.length_append, List.length_cons, List.length_nil]
    by_cases h5 : r.length + 1 < 64
    · rw [decide_eq_true (show 1 ≤ r.length + (0 + 1) + 1 by omega), decide_eq_true (show r.length + (0 + 1) + 1 ≤ 64 by omega), decide_eq_true h5]; simp
    · rw [decide_eq_true (show 1 ≤ r.length + (0 + 1) + 1 by omega), decide_eq_false (show ¬ r.length + (0 + 1) + 1 ≤ 64 by omega), decide_eq_false h5]; simp
theorem right_seven (l : List UInt8) : right ([55] ++ l) = false := by
  unfold right
  simp [digit]

/-! ### Digits -/
theorem dec_small {u : Nat} (h : u < 10) : Lib.decDigits u = [UInt8.ofNat (48 + u)] := by rw [Lib.decDigits, dif_pos h]
theorem dec_big {u : Nat} (h : ¬ u < 10) : Lib.decDigits u = Lib.decDigits (u / 10) ++ [UInt8.ofNat (48 + u % 10)] := by rw [Lib.decDigits, dif_neg h]
theorem ofNat_toNat {k : Nat} (h : k < 10) : (UInt8.ofNat (48 + k)).toNat = 48 + k := by
  rw [UInt8.toNat_ofNat']
  omega
theorem dec_digit (u : Nat) : ∀ c ∈ Lib.decDigits u, 48 ≤ c.toNat ∧ c.toNat ≤ 57 := by
  induction u using Nat.strongRecOn with
  | _ u ih =>
    intro c hc
    by_cases h : u < 10
    · rw [dec_small h, List.mem_singleton] at hc
      rw [hc, ofNat_toNat h]; omega
    · rw [dec_big h, List.mem_append, List.mem_singleton] at hc
      rcases hc with hc | hc
      · exact ih (u / 10) (by omega) c hc
      · rw [hc, ofNat_toNat (Nat.mod_lt _ (by omega))]
        have := Nat.mod_lt u (show 10 > 0 by omega)
        omega
theorem dec_len (k : Nat) : ∀ u, u < 10 ^ (k + 1) → (Lib.decDigits u).length ≤ k + 1 := by
  induction k with
  | zero => intro u h; rw [dec_small (by omega)]; simp
  | succ k ih =>
    intro u h
    by_cases h1 : u < 10
    · rw [dec_small h1]; simp
    · rw [dec_big h1, List.length_append]
      have := ih (u / 10) (by rw [Nat.pow_succ] at h; omega)
      simp; omega
theorem dec_ne (u : Nat) : Lib.decDigits u ≠ [] := by
  by_cases h : u < 10
  · rw [dec_small h]; simp
  · rw [dec_big h]; simp

/-- What digits spell, behind what was read before. -/
def val (a : Nat) (l : List UInt8) : Nat := l.foldl (fun a c => a * 10 + (c.toNat - 48)) a
theorem val_nil (a : Nat) : val a [] = a := rfl
theorem val_cons (a : Nat) (c : UInt8) (l : List UInt8) : val a (c :: l) = val (a * 10 + (c.toNat - 48)) l := by simp [val]
theorem val_snoc (a : Nat) (l : List UInt8) (c : UInt8) : val a (l ++ [c]) = val a l * 10 + (c.toNat - 48) := by simp [val]
theorem val_dec (u : Nat) : val 0 (Lib.decDigits u) = u := by
  induction u using Nat.strongRecOn with
  | _ u ih =>
    by_cases h : u < 10
    · rw [dec_small h, val_cons, val_nil, ofNat_toNat h]; omega
    · rw [dec_big h, val_snoc, ih (u / 10) (by omega), ofNat_toNat (Nat.mod_lt _ (by omega))]
      omega
theorem dec_inj {u v : Nat} (h : Lib.decDigits u = Lib.decDigits v) : u = v := by rw [← val_dec u, h, val_dec]
theorem val_ge : ∀ (l : List UInt8) (a : Nat), a ≤ val a l
  | [], a => Nat.le_refl _
  | c :: l, a => by rw [val_cons]; exact Nat.le_trans (by omega) (val_ge l _)
theorem parse_val : ∀ (l : List UInt8) (a : Nat), (∀ c ∈ l, 48 ≤ c.toNat ∧ c.toNat ≤ 57) → val a l < 9223372036854775808 → Lib.parseUint10 a l = .ok (val a l)
  | [], a, _, _ => rfl
  | c :: l, a, hd, hv => by
    have hc := hd c (by simp)
    rw [val_cons] at hv ⊢
    have hg := val_ge l (a * 10 + (c.toNat - 48))
    rw [Lib.parseUint10, if_pos hc, if_neg (by omega), if_neg (by omega)]
    exact parse_val l _ (fun c hc => hd c (by simp [hc])) hv
theorem atoi_dec (u : Nat) (h : u < 9223372036854775808) : Lib.atoiAll (Lib.decDigits u) = .ok (u : Int) := by
  have hd := dec_digit u
  have hp := parse_val (Lib.decDigits u) 0 hd (by rw [val_dec]; exact h)
  rw [val_dec] at hp
  cases hl : Lib.decDigits u with
  | nil => exact absurd hl (dec_ne u)
  | cons c r =>
    rw [hl] at hd hp
    have hc := hd c (by simp)
    rw [Lib.atoiAll_plain c r (by omega) (by omega)]
    unfold Lib.parseMag
    rw [if_neg (by simp), hp]
    simp only [Lib.signless]
    rw [if_neg (by omega)]

/-- The loose reading of the reference: 64 bits. -/
def wr (x : Int) : Int := (x + 9223372036854775808) % 18446744073709551616 - 9223372036854775808
def lstep (a : Int) (c : UInt8) : Int := wr (wr (wr (10 * a) + c.toNat) - 48)
def loose (a : Int) (l : List UInt8) : Int := l.foldl lstep a
theorem loose_snoc (a : Int) (l : List UInt8) (c : UInt8) : loose a (l ++ [c]) = lstep (loose a l) c := by simp [loose]
theorem loose_cons (a : Int) (c : UInt8) (l : List UInt8) : loose a (c :: l) = loose (lstep a c) l := by simp [loose]
theorem lstep_lo (a : Int) (c : UInt8) : -9223372036854775808 ≤ lstep a c := by unfold lstep wr; omega
theorem lstep_hi (a : Int) (c : UInt8) : lstep a c ≤ 9223372036854775807 := by unfold lstep wr; omega
theorem loose_bounds (l : List UInt8) : -9223372036854775808 ≤ loose 0 l ∧ loose 0 l ≤ 9223372036854775807 := by
  rcases List.eq_nil_or_concat l with rfl | ⟨r, c, rfl⟩
  · exact ⟨by decide, by decide⟩
  · rw [List.concat_eq_append, loose_snoc]; exact ⟨lstep_lo _ _, lstep_hi _ _⟩
theorem loose_val : ∀ (l : List UInt8) (a : Nat), (∀ c ∈ l, 48 ≤ c.toNat ∧ c.toNat ≤ 57) → val a l < 9223372036854775808 → loose (a : Int) l = (val a l : Int)
  | [], a, _, _ => rfl
  | c :: l, a, hd, hv => by
    have hc := hd c (by simp)
    rw [val_cons] at hv ⊢
    have hg := val_ge l (a * 10 + (c.toNat - 48))
    rw [loose_cons]
    have he : lstep (a : Int) c = ((a * 10 + (c.toNat - 48) : Nat) : Int) := by
      unfold lstep wr; omega
    rw [he]
    exact loose_val l _ (fun c hc => hd c (by simp [hc])) hv

/-! ### Runs -/
def runS (n : Int) : List UInt8 := if n < 1 then [] else 114 :: Lib.itoa n
theorem runS_lo {n : Int} (h : n < 1) : runS n = [] := if_pos h
theorem runS_hi {n : Int} (h : 1 ≤ n) : runS n = 114 :: Lib.itoa n := if_neg (by omega)
theorem itoa_pos {n : Int} (h : 1 ≤ n) : Lib.itoa n = Lib.decDigits n.toNat := if_neg (by omega)
theorem runS_inj {n m : Int} (h1 : 1 ≤ n) (h2 : 1 ≤ m) (h : runS n = runS m) : n = m := by
  rw [runS_hi h1, runS_hi h2, itoa_pos h1, itoa_pos h2, List.cons.injEq] at h
  have := dec_inj h.2
  omega
def IsRun (l : List UInt8) : Prop := ∃ n : Int, 1 ≤ n ∧ n ≤ 9223372036854775807 ∧ l = runS n
open Classical in
noncomputable def numOf (l : List UInt8) : Int := if h : IsRun l then Classical.choose h else 0
theorem numOf_run {n : Int} (h1 : 1 ≤ n) (h2 : n ≤ 9223372036854775807) : numOf (runS n) = n := by
  have h : IsRun (runS n) := ⟨n, h1, h2, rfl⟩
  unfold numOf
  rw [dif_pos h]
  obtain ⟨a1, _, a3⟩ := Classical.choose_spec h
  exact (runS_inj h1 a1 a3).symm
theorem numOf_no {l : List UInt8} (h : ¬ IsRun l) : numOf l = 0 := by unfold numOf; rw [dif_neg h]
theorem numOf_cases (l : List UInt8) : (numOf l = 0 ∧ ¬ IsRun l) ∨ (1 ≤ numOf l ∧ numOf l ≤ 9223372036854775807 ∧ l = runS (numOf l)) := by
  by_cases h : IsRun l
  · right
    obtain ⟨n, h1, h2, rfl⟩ := h
    rw [numOf_run h1 h2]
    exact ⟨h1, h2, rfl⟩
  · exact Or.inl ⟨numOf_no h, h⟩
/-- A number whose identifier is the string is THE number. -/
theorem numOf_hit {l : List UInt8} {n : Int} (h1 : 1 ≤ n) (h2 : n ≤ 9223372036854775807) (h : runS n = l) : numOf l = n := by rw [← h, numOf_run h1 h2]
/-- The program's candidate: if it isn't the number, there is none. -/
theorem atoi_run {n : Int} (h1 : 1 ≤ n) (h2 : n ≤ 9223372036854775807) : Lib.atoiAll (Lib.itoa n) = .ok n := by
  rw [itoa_pos h1, atoi_dec _ (by omega)]
  congr 1
  omega
/-- The reference's candidate likewise. -/
theorem loose_run {n : Int} (h1 : 1 ≤ n) (h2 : n ≤ 9223372036854775807) : loose 0 (Lib.itoa n) = n := by
  rw [itoa_pos h1]
  have := loose_val (Lib.decDigits n.toNat) 0 (dec_digit _) (by rw [val_dec]; omega)
  rw [val_dec] at this
  rw [show ((0 : Nat) : Int) = 0 from rfl] at this
  rw [this]; omega
theorem run_len {n : Int} (h1 : 1 ≤ n) (h2 : n ≤ 9223372036854775807) : (runS n).length ≤ 20 := by
  rw [runS_hi h1, itoa_pos h1, List.length_cons]
  have := dec_len 18 n.toNat (by omega)
  omega

/-! ### Keys -/
def idx (l : List UInt8) : Int := Lib.indexByte l 47
theorem idx_nil : idx [] = -1 := rfl
theorem idx_cons (c : UInt8) (l : List UInt8) : idx (c :: l) = if c == 47 then 0 else if idx l == -1 then -1 else idx l + 1 := rfl
theorem idx_ge (l : List UInt8) : -1 ≤ idx l := Lib.indexByte_ge l 47
theorem idx_lt : ∀ l : List UInt8, idx l < l.length ∨ idx l = -1
  | [] => Or.inr rfl
  | c :: l => by
    rw [idx_cons, List.length_cons]
    have := idx_lt l
    have := idx_ge l
    split
    · left; omega
    · split
      · exact Or.inr rfl
      · rename_i h; simp only [beq_iff_eq] at h; left; omega
theorem idx_snoc : ∀ (l : List UInt8) (c : UInt8), idx (l ++ [c]) = if 0 ≤ idx l then idx l else if c = 47 then (l.length : Int) else -1
  | [], c => by
    rw [List.nil_append, idx_cons, idx_nil]
    by_cases h : c = 47 <;> simp [h]
  | d :: l, c => by
    rw [List.cons_append, idx_cons, idx_snoc l c, idx_cons]
    have h1 := idx_ge l
    by_cases hd : d = 47
    · simp [hd]
    · by_cases h : 0 ≤ idx l
      · have h2 : ¬ idx l = -1 := by omega
        have h3 : 0 ≤ idx l + 1 := by omega
        simp [hd, h, h2, h3]
      · have h2 : idx l = -1 := by omega
        by_cases hc : c = 47
        · have h3 : ¬ (l.length : Int) = -1 := by omega
          simp [hd, h2, hc, h3]
        · simp [hd, h2, hc]
theorem idx_count (l : List UInt8) : 0 ≤ idx l ↔ 1 ≤ l.count 47 := by
  induction l with
  | nil => simp [idx_nil]
  | cons c l ih =>
    rw [idx_cons, List.count_cons]
    have h1 := idx_ge l
    by_cases hc : c = 47
    · simp [hc]
    · have hb : (c == 47) = false := by simpa using hc
      rw [hb]
      simp only [Bool.false_eq_true, if_false, Nat.add_zero]
      rw [← ih]
      by_cases h : idx l = -1
      · simp [h]
      · simp [h]; omega
/-- Before the first slash there is none; it is one. -/
theorem idx_parts : ∀ (l : List UInt8), 0 ≤ idx l → l = l.take (idx l).toNat ++ [47] ++ l.drop ((idx l).toNat + 1) ∧ (l.take (idx l).toNat).count 47 = 0
  | [], h => by simp [idx_nil] at h
  | c :: l, h => by
    rw [idx_cons] at h ⊢
    have h1 := idx_ge l
    by_cases hc : c = 47
    · simp [hc]
    · by_cases h2 : idx l = -1
      · simp [hc, h2] at h
      · obtain ⟨e1, e2⟩ := idx_parts l (by omega)
        have ht : (idx l + 1).toNat = (idx l).toNat + 1 := by omega
        simp only [beq_iff_eq, hc, h2, if_false, ht, List.take_succ_cons, List.drop_succ_cons, List.count_cons, e2]
        refine ⟨?_, by simp⟩
        simp only [List.cons_append]
        exact congrArg (c :: ·) e1
theorem count_parts {l : List UInt8} (h : 0 ≤ idx l) : l.count 47 = 1 + (l.drop ((idx l).toNat + 1)).count 47 := by
  obtain ⟨e1, e2⟩ := idx_parts l h
  have := congrArg (List.count 47) e1
  rw [List.count_append, List.count_append, e2] at this
  simpa using this
def split (l : List UInt8) : List UInt8 × List UInt8 × Bool := if l.count 47 = 1 then (l.take (idx l).toNat, l.drop ((idx l).toNat + 1), true) else ([], [], false)
def key (a b : List UInt8) : List UInt8 := a ++ [47] ++ b
theorem split_yes {l : List UInt8} (h : l.count 47 = 1) : split l = (l.take (idx l).toNat, l.drop ((idx l).toNat + 1), true) := if_pos h
theorem split_no {l : List UInt8} (h : l.count 47 ≠ 1) : split l = ([], [], false) := if_neg h
/-- The key of the parts is the key. -/
theorem key_split {l : List UInt8} (h : (split l).2.2 = true) : key (split l).1 (split l).2.1 = l := by
  unfold split at *
  split at h
  · rename_i hc
    rw [if_pos hc]
    exact (idx_parts l ((idx_count l).2 (by omega))).1.symm
  · simp at h
theorem app_inj : ∀ {a b x y : List UInt8}, a.count 47 = 0 → x.count 47 = 0 → a ++ [47] ++ b = x ++ [47] ++ y → a = x ∧ b = y
  | [], b, [], y, _, _, h => ⟨rfl, by simpa using h⟩
  | [], b, d :: x, y, _, hx, h => by
    simp only [List.nil_append, List.cons_append, List.cons.injEq] at h
    rw [← h.1] at hx; simp at hx
  | c :: a, b, [], y, ha, _, h => by
    simp only [List.nil_append, List.cons_append, List.cons.injEq] at h
    rw [h.1] at ha; simp at ha
  | c :: a, b, d :: x, y, ha, hx, h => by
    simp only [List.cons_append, List.cons.injEq] at h
    obtain ⟨rfl, h⟩ := h
    have h1 : a.count 47 = 0 := by rw [List.count_cons] at ha; omega
    have h2 : x.count 47 = 0 := by rw [List.count_cons] at hx; omega
    obtain ⟨rfl, rfl⟩ := app_inj h1 h2 h
    exact ⟨rfl, rfl⟩
/-- The parts of a key are what was joined, as far as it has one slash. -/
theorem split_key {a b : List UInt8} (h : (split (key a b)).2.2 = true) : (split (key a b)).1 = a ∧ (split (key a b)).2.1 = b := by
  have hk := key_split h
  by_cases hc : (key a b).count 47 = 1
  · have hs : (key a b).count 47 = a.count 47 + 1 + b.count 47 := by unfold key; simp [List.count_append]; omega
    have hi : 0 ≤ idx (key a b) := (idx_count _).2 (by omega)
    obtain ⟨_, e2⟩ := idx_parts _ hi
    rw [split_yes hc] at hk ⊢
    unfold key at hk
    exact app_inj e2 (by omega) hk
  · rw [split_no hc] at h; simp at h
end Nm
end Go.Proofs.YtodcgdiejmdaaaaDoor
