/-
  Layer 7, plain: tokens over lists of bytes.
-/
import Derived.Test.YtodcgdiejmdaaaaDoorNPlain
namespace Go.Proofs.YtodcgdiejmdaaaaDoor
namespace Tk

def blank (c : UInt8) : Bool := decide (c.toNat = 32) || decide (c.toNat = 9) || decide (c.toNat = 10)
def digit (c : UInt8) : Bool := decide (48 ≤ c.toNat) && decide (c.toNat ≤ 57)
def letter (c : UInt8) : Bool := ((decide (97 ≤ c.toNat) && decide (c.toNat ≤ 122)) || (decide (65 ≤ c.toNat) && decide (c.toNat ≤ 90))) || decide (c.toNat = 95)
def wordc (c : UInt8) : Bool := letter c || digit c
def signc (c : UInt8) : Bool := [40, 41, 123, 125, 91, 93, 44, 59, 46, 58, 61, 60, 62, 43, 45, 42, 47, 37].contains c
def pairc (c : UInt8) : Bool := [61, 33, 60, 62].contains c
def hexv (c : UInt8) : Int := if digit c then (c.toNat : Int) - 48 else if 97 ≤ c.toNat ∧ c.toNat ≤ 102 then (c.toNat : Int) - 87 else -1

/-- The keywords. -/
def kws : List (List UInt8) := [
  [97, 110, 100], [97, 119, 97, 105, 116], [99, 97, 115, 101], [99, 97, 116, 99, 104], [99, 104, 101, 99, 107], [101, 108, 115, 101], [102, 97, 108, 115, 101],
  [102, 117, 110, 99], [103, 111], [105, 102], [108, 101, 116], [110, 111, 116], [110, 117, 108, 108], [111, 110], [111, 114], [113, 117, 101, 114, 121],
  [114, 101, 116, 117, 114, 110], [115, 97, 103, 97], [115, 101, 108, 101, 99, 116], [115, 105, 103, 110, 97, 108], [116, 104, 114, 111, 119],
  [116, 114, 117, 101], [116, 114, 121], [117, 110, 100, 111], [117, 112, 100, 97, 116, 101], [118, 97, 114], [119, 104, 105, 108, 101]]
def kw (l : List UInt8) : Bool := kws.contains l

/-- How a token ends: an error; or kind, text, number, and what is left. -/
inductive TR where
  | bad (e : Int)
  | good (k : Int) (t : List UInt8) (n : Int) (r : List UInt8)
  deriving DecidableEq
inductive ER where
  | bad (e : Int)
  | good (c : UInt8) (r : List UInt8)
  deriving DecidableEq

def code (l : List UInt8) : ER :=
  match l with
  | [] => .bad 4
  | a :: r => if hexv a < 0 then .bad 3 else
    match r with
    | [] => .bad 4
    | b :: r => if hexv b < 0 then .bad 3 else .good (UInt8.ofNat (16 * hexv a + hexv b).toNat) r

/-- What follows a backslash. -/
def esc (l : List UInt8) : ER :=
  match l with
  | [] => .bad 4
  | c :: r => if c.toNat = 34 ∨ c.toNat = 92 then .good c r else if c.toNat = 110 then .good 10 r else if c.toNat = 116 then .good 9 r else if c.toNat = 120 then code r else .bad 3

/-- A literal behind its opening mark; acc was read. -/
def lit : Nat → List UInt8 → List UInt8 → TR
  | 0, _, _ => .bad 4
  | _ + 1, [], _ => .bad 4
  | f + 1, c :: r, acc =>
    if c.toNat = 34 then (if acc.length > 4096 then .bad 6 else .good 4 acc 0 r)
    else if c.toNat = 92 then
      (match esc r with
      | .bad e => .bad e
      | .good d r' => lit f r' (acc ++ [d]))
    else if c.toNat < 32 ∨ c.toNat > 126 then .bad 3
    else lit f r (acc ++ [c])

def num (l : List UInt8) : TR :=
  let d := l.takeWhile digit
  let r := l.dropWhile digit
  if (d.length > 1 ∧ (l.headD 0).toNat = 48) ∨ letter (r.headD 0) = true then .bad 3
  else if Nm.val 0 d > 9223372036854775807 then .bad 14
  else .good 3 [] (Nm.val 0 d : Int) r

def wordT (l : List UInt8) : TR :=
  let d := l.takeWhile wordc
  if d.length > 64 then .bad 8 else .good (if kw d then 2 else 1) d 0 (l.dropWhile wordc)

def sgn (c : UInt8) (r : List UInt8) : TR :=
  if pairc c = true ∧ (r.headD 0).toNat = 61 then .good 5 [c, 61] 0 r.tail
  else if signc c then .good 5 [c] 0 r else .bad 3

/-- One token. -/
def tok (l : List UInt8) : TR :=
  match l with
  | [] => .good 0 [] 0 []
  | c :: r => if letter c then wordT (c :: r) else if digit c then num (c :: r) else if c.toNat = 34 then lit r.length r [] else sgn c r

structure T where
  k : Int
  at_ : Int
  t : List UInt8
  n : Int
  deriving DecidableEq
inductive SR where
  | bad (o : Int) (e : Int)
  | good (l : List T)
  deriving DecidableEq

/-- All tokens of what is left of N bytes. -/
def scan (N : Nat) : Nat → List UInt8 → List T → SR
  | 0, _, _ => .bad 0 0
  | f + 1, l, acc =>
    match tok (l.dropWhile blank) with
    | .bad e => .bad ((N : Int) - (l.dropWhile blank).length) e
    | .good k t n r =>
      if k = 0 then .good (acc ++ [⟨k, (N : Int) - (l.dropWhile blank).length, t, n⟩])
      else scan N f r (acc ++ [⟨k, (N : Int) - (l.dropWhile blank).length, t, n⟩])
def scanA (l : List UInt8) : SR := if l.length > 16384 then .bad 0 6 else scan l.length (l.length + 1) l []

/-! ### Lengths -/
theorem code_len {l r : List UInt8} {c : UInt8} (h : code l = .good c r) : r.length + 2 ≤ l.length := by
  unfold code at h
  split at h
  · cases h
  · split at h
    · cases h
    · split at h
      · cases h
      · split at h
        · cases h
        · cases h; simp
theorem esc_len {l r : List UInt8} {c : UInt8} (h : esc l = .good c r) : r.length + 1 ≤ l.length := by
  unfold esc at h
  split at h
  · cases h
  · split at h
    · cases h; simp
    · split at h
      · cases h; simp
      · split at h
        · cases h; simp
        · split at h
          · have := code_len h; simp; omega
          · cases h
theorem dropWhile_len (p : UInt8 → Bool) : ∀ l : List UInt8, (l.dropWhile p).length ≤ l.length
  | [] => by simp
  | c :: l => by
    rw [List.dropWhile_cons]
    have := dropWhile_len p l
    split <;> simp <;> omega
theorem lit_len : ∀ (f : Nat) (l acc : List UInt8) {k : Int} {t : List UInt8} {n : Int} {r : List UInt8}, lit f l acc = .good k t n r → r.length + 1 ≤ l.length ∧ k = 4 ∧ n = 0
  | 0, l, acc, k, t, n, r, h => by simp [lit] at h
  | f + 1, [], acc, k, t, n, r, h => by simp [lit] at h
  | f + 1, c :: l, acc, k, t, n, r, h => by
    unfold lit at h
    split at h
    · split at h
      · cases h
      · cases h; simp
    · split at h
      · split at h
        · cases h
        · rename_i d r' he
          have h1 := esc_len he
          have h2 := lit_len f r' _ h
          simp only [List.length_cons]; omega
      · split at h
        · cases h
        · have h2 := lit_len f l _ h
          simp only [List.length_cons]; omega
theorem tok_len {l r : List UInt8} {k n : Int} {t : List UInt8} (h : tok l = .good k t n r) : (k = 0 ∧ l = [] ∧ t = [] ∧ n = 0) ∨ (1 ≤ k ∧ k ≤ 5 ∧ r.length + 1 ≤ l.length) := by
  unfold tok at h
  split at h
  · cases h; simp
  · rename_i c s
    split at h
    · rename_i hc
      unfold wordT at h
      simp only [] at h
      split at h
      · cases h
      · cases h
        have : wordc c = true := by simp [wordc, hc]
        rw [List.dropWhile_cons, if_pos this]
        have := dropWhile_len wordc s
        right
        refine ⟨?_, ?_, by simp; omega⟩ <;> split <;> omega
    · split at h
      · rename_i hc
        unfold num at h
        simp only [] at h
        split at h
        · cases h
        · split at h
          · cases h
          · cases h
            rw [List.dropWhile_cons, if_pos hc]
            have := dropWhile_len digit s
            right
            exact ⟨by omega, by omega, by simp; omega⟩
      · split at h
        · have := lit_len _ _ _ h
          right
          simp only [List.length_cons]; omega
        · unfold sgn at h
          split at h
          · rename_i hp
            cases h
            right
            refine ⟨by omega, by omega, ?_⟩
            simp
          · split at h
            · cases h; right; simp
            · cases h
end Tk
end Go.Proofs.YtodcgdiejmdaaaaDoor
