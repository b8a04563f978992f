/-
  Layer 7, plain: literals read back, offsets, blanks.
-/
import Derived.Test.YtodcgdiejmdaaaaDoorTQPlain
namespace Go.Proofs.YtodcgdiejmdaaaaDoor
namespace Tk

theorem hexv_hexd : ∀ n, n < 16 → hexv (hexd n) = (n : Int) := by decide
theorem byte_eq {c : UInt8} {n : Nat} (hn : n < 256) (h : c.toNat = n) : c = UInt8.ofNat n := by
  subst h; simp
theorem esc_qc {c : UInt8} (h : c.toNat = 34 ∨ c.toNat = 92) (r : List UInt8) : esc (c :: r) = .good c r := by
  unfold esc; simp only []; rw [if_pos h]
theorem esc_hex (c : UInt8) (r : List UInt8) : esc (120 :: hexd (c.toNat / 16) :: hexd (c.toNat % 16) :: r) = .good c r := by
  have hc := c.toNat_lt
  have h1 := hexv_hexd (c.toNat / 16) (by omega)
  have h2 := hexv_hexd (c.toNat % 16) (by omega)
  have he : esc (120 :: hexd (c.toNat / 16) :: hexd (c.toNat % 16) :: r) = code (hexd (c.toNat / 16) :: hexd (c.toNat % 16) :: r) := rfl
  rw [he]
  unfold code
  simp only [h1, h2]
  rw [if_neg (by omega), if_neg (by omega)]
  congr 1
  rw [show (16 * ((c.toNat / 16 : Nat) : Int) + ((c.toNat % 16 : Nat) : Int)).toNat = c.toNat by omega]
  simp

theorem lit_qc : ∀ (s r acc : List UInt8) (f : Nat), s.length + 1 ≤ f → (acc ++ s).length ≤ 4096 → lit f (s.flatMap qc ++ 34 :: r) acc = .good 4 (acc ++ s) 0 r
  | [], r, acc, f, hf, ha => by
    obtain ⟨f, rfl⟩ : ∃ g, f = g + 1 := ⟨f - 1, by simp at hf; omega⟩
    simp only [List.flatMap_nil, List.nil_append, List.append_nil] at ha ⊢
    unfold lit
    rw [if_pos (by rfl), if_neg (by omega)]
  | c :: s, r, acc, f, hf, ha => by
    obtain ⟨f, rfl⟩ : ∃ g, f = g + 1 := ⟨f - 1, by simp at hf; omega⟩
    have ih := lit_qc s r (acc ++ [c]) f (by simp at hf; omega) (by simpa using ha)
    rw [show acc ++ [c] ++ s = acc ++ c :: s by simp] at ih
    rw [List.flatMap_cons, List.append_assoc]
    unfold qc
    split
    · rename_i h
      show lit (f + 1) (92 :: c :: (s.flatMap qc ++ 34 :: r)) acc = _
      unfold lit
      rw [if_neg (by decide), if_pos (by rfl), esc_qc h]
      exact ih
    · split
      · rename_i _ h
        obtain rfl := byte_eq (by omega) h
        exact ih
      · split
        · rename_i _ _ h
          obtain rfl := byte_eq (by omega) h
          exact ih
        · split
          · show lit (f + 1) (92 :: 120 :: hexd (c.toNat / 16) :: hexd (c.toNat % 16) :: (s.flatMap qc ++ 34 :: r)) acc = _
            unfold lit
            rw [if_neg (by decide), if_pos (by rfl), esc_hex]
            exact ih
          · rename_i h1 h2 h3 h4
            show lit (f + 1) (c :: (s.flatMap qc ++ 34 :: r)) acc = _
            unfold lit
            rw [if_neg (by omega), if_neg (by omega), if_neg h4]
            exact ih
theorem qcs_ge (s : List UInt8) : s.length ≤ (s.flatMap qc).length := by
  induction s with
  | nil => simp
  | cons c s ih =>
    have : 1 ≤ (qc c).length := by
      unfold qc
      repeat' split
      all_goals simp
    rw [List.flatMap_cons, List.length_append, List.length_cons]; omega
theorem tok_cons (c : UInt8) (r : List UInt8) : tok (c :: r) = if letter c then wordT (c :: r) else if digit c then num (c :: r) else if c.toNat = 34 then lit r.length r [] else sgn c r := rfl
theorem tok_quote (s r : List UInt8) (hs : s.length ≤ 4096) : tok (quote s ++ r) = .good 4 s 0 r := by
  have h := lit_qc s r [] ((s.flatMap qc ++ 34 :: r).length) (by have := qcs_ge s; simp only [List.length_append, List.length_cons]; omega) (by simpa using hs)
  have : quote s ++ r = 34 :: (s.flatMap qc ++ 34 :: r) := by simp [quote]
  rw [this]
  rw [tok_cons, if_neg (by decide), if_neg (by decide), if_pos (by rfl)]
  simpa using h

/-! ### Fuel, blanks -/
theorem scan_fuel (N : Nat) : ∀ (f g : Nat) (l : List UInt8) (acc : List T), l.length < f → l.length < g → scan N f l acc = scan N g l acc
  | 0, _, _, _, h, _ => by omega
  | _ + 1, 0, _, _, _, h => by omega
  | f + 1, g + 1, l, acc, hf, hg => by
    unfold scan
    have hd := dropWhile_len blank l
    cases hx : tok (l.dropWhile blank) with
    | bad e => rfl
    | good k t n r =>
      simp only []
      by_cases hk : k = 0
      · rw [if_pos hk, if_pos hk]
      · rw [if_neg hk, if_neg hk]
        have := tok_len hx
        exact scan_fuel N f g r _ (by omega) (by omega)
theorem scan_eq (N f : Nat) (l : List UInt8) (acc : List T) : scan N (f + 1) l acc = match tok (l.dropWhile blank) with
    | .bad e => .bad ((N : Int) - (l.dropWhile blank).length) e
    | .good k t n r => if k = 0 then .good (acc ++ [⟨k, (N : Int) - (l.dropWhile blank).length, t, n⟩]) else scan N f r (acc ++ [⟨k, (N : Int) - (l.dropWhile blank).length, t, n⟩]) := rfl
theorem scan_step {N f : Nat} {l r : List UInt8} {acc : List T} {k n : Int} {t : List UInt8} (hx : tok (l.dropWhile blank) = .good k t n r) (hk : k ≠ 0) :
    scan N (f + 1) l acc = scan N f r (acc ++ [⟨k, (N : Int) - (l.dropWhile blank).length, t, n⟩]) := by
  rw [scan_eq, hx]
  simp only []
  rw [if_neg hk]
theorem scan_last {N f : Nat} {l : List UInt8} {acc : List T} (hx : l.dropWhile blank = []) : scan N (f + 1) l acc = .good (acc ++ [⟨0, (N : Int), [], 0⟩]) := by
  rw [scan_eq, hx]
  simp [tok]
theorem scan_bad {N f : Nat} {l : List UInt8} {acc : List T} {e : Int} (hx : tok (l.dropWhile blank) = .bad e) : scan N (f + 1) l acc = .bad ((N : Int) - (l.dropWhile blank).length) e := by
  rw [scan_eq, hx]

theorem scan_quote (s : List UInt8) (hs : s.length ≤ 4000) : scanA (quote s) = .good [⟨4, 0, s, 0⟩, ⟨0, ((quote s).length : Int), [], 0⟩] := by
  have hl : (quote s).length ≤ 16384 := by have := qcs_len s; simp only [quote, List.length_cons, List.length_append, List.length_nil]; omega
  unfold scanA
  rw [if_neg (by omega)]
  have hd : (quote s).dropWhile blank = quote s := by unfold quote; rw [List.dropWhile_cons, if_neg (by decide)]
  have ht : tok ((quote s).dropWhile blank) = .good 4 s 0 [] := by rw [hd]; simpa using tok_quote s [] (by omega)
  rw [scan_step ht (by omega), hd]
  obtain ⟨m, hm⟩ : ∃ m, (quote s).length = m + 1 := ⟨(quote s).length - 1, by simp [quote]⟩
  rw [hm, scan_last (by rfl)]
  simp

/-- All offsets of a result moved by k. -/
def sh (k : Int) (t : T) : T := { t with at_ := t.at_ + k }
def shR (k : Int) : SR → SR
  | .bad o e => .bad (o + k) e
  | .good l => .good (l.map (sh k))
theorem scan_shift (N k : Nat) : ∀ (f : Nat) (l : List UInt8) (acc : List T), l.length < f → scan (N + k) f l (acc.map (sh k)) = shR k (scan N f l acc)
  | 0, _, _, h => by omega
  | f + 1, l, acc, hf => by
    have hd := dropWhile_len blank l
    cases hx : tok (l.dropWhile blank) with
    | bad e =>
      rw [scan_bad hx, scan_bad hx]
      simp only [shR]
      congr 1
      omega
    | good c t n r =>
      have hl := tok_len hx
      by_cases hk : c = 0
      · subst hk
        rcases hl with ⟨_, h0, _⟩ | h
        · rw [scan_last h0, scan_last h0]
          simp only [shR, List.map_append, List.map_cons, List.map_nil, sh]
          congr 3
        · omega
      · rw [scan_step hx hk, scan_step hx hk, ← scan_shift N k f r _ (by omega)]
        congr 1
        rw [List.map_append]
        simp only [List.map_cons, List.map_nil, sh]
        congr 3
        omega
theorem drop_blanks : ∀ (k : Nat) (l : List UInt8), (List.replicate k 32 ++ l).dropWhile blank = l.dropWhile blank
  | 0, l => rfl
  | k + 1, l => by
    rw [List.replicate_succ, List.cons_append, List.dropWhile_cons, if_pos (by decide)]
    exact drop_blanks k l
theorem scan_blanks (k : Nat) (l : List UInt8) (h : l.length + k ≤ 16384) : scanA (List.replicate k 32 ++ l) = shR k (scanA l) := by
  unfold scanA
  have hlen : (List.replicate k (32 : UInt8) ++ l).length = l.length + k := by simp; omega
  rw [hlen, if_neg (by omega), if_neg (by omega)]
  have h1 : scan (l.length + k) (l.length + k + 1) (List.replicate k 32 ++ l) [] = scan (l.length + k) (l.length + k + 1) l [] := by
    rw [scan_eq, scan_eq, drop_blanks]
  rw [h1, scan_fuel _ _ (l.length + 1) l [] (by omega) (by omega)]
  exact scan_shift l.length k (l.length + 1) l [] (by omega)
end Tk
end Go.Proofs.YtodcgdiejmdaaaaDoor
