/-
  The plain mathematics of layer 2 (value): values as trees, their measures, their order, their encoding. It imports nothing of the program.
-/
import GoSem.Op.String
import Derived.Test.YtpoofeiajmkfdaaPlain
namespace Go.Proofs.Ytpoofeiajmkfdaa

inductive V where
  | mk (k n : Int) (s : ByteArray) (l : List V) (ks : List ByteArray) : V

namespace V
def k : V → Int | mk k _ _ _ _ => k
def n : V → Int | mk _ n _ _ _ => n
def s : V → ByteArray | mk _ _ s _ _ => s
def l : V → List V | mk _ _ _ l _ => l
def ks : V → List ByteArray | mk _ _ _ _ ks => ks

mutual
def size : V → Nat
  | mk _ _ _ l _ => 1 + sizeL l
def sizeL : List V → Nat
  | [] => 0
  | v :: l => size v + sizeL l
end

theorem size_mk (k n : Int) (s : ByteArray) (l : List V) (ks : List ByteArray) : size (mk k n s l ks) = 1 + sizeL l := by rw [size]
theorem sizeL_nil : sizeL [] = 0 := by rw [sizeL]
theorem sizeL_cons (v : V) (l : List V) : sizeL (v :: l) = size v + sizeL l := by rw [sizeL]
theorem sizeL_app (a b : List V) : sizeL (a ++ b) = sizeL a + sizeL b := by
  induction a with
  | nil => simp [sizeL_nil]
  | cons v a ih => simp only [List.cons_append, sizeL_cons, ih]; omega
theorem size_pos (v : V) : 0 < size v := by cases v; rw [size_mk]; omega
theorem size_mem {v : V} {l : List V} (h : v ∈ l) : size v ≤ sizeL l := by
  induction l with
  | nil => cases h
  | cons u l ih =>
    rw [sizeL_cons]
    rcases List.mem_cons.1 h with rfl | h
    · omega
    · have := ih h; omega
theorem sizeL_take (l : List V) (i : Nat) : sizeL (l.take i) ≤ sizeL l := by
  have := sizeL_app (l.take i) (l.drop i)
  rw [List.take_append_drop] at this
  omega
theorem length_sizeL (l : List V) : l.length ≤ sizeL l := by
  induction l with
  | nil => simp
  | cons v l ih => rw [sizeL_cons]; have := size_pos v; simp; omega

/-- Induction over values. -/
theorem ind {P : V → Prop} (h : ∀ k n s l ks, (∀ v ∈ l, P v) → P (mk k n s l ks)) (v : V) : P v := by
  have key : ∀ m : Nat, ∀ v : V, size v ≤ m → P v := by
    intro m
    induction m with
    | zero => intro v hv; have := size_pos v; omega
    | succ m ih =>
      intro v hv
      match v, hv with
      | mk k n s l ks, hv =>
        refine h k n s l ks fun u hu => ih u ?_
        have := size_mem hu
        rw [size_mk] at hv
        omega
  exact key _ v (Nat.le_refl _)

mutual
def depth : V → Nat
  | mk _ _ _ l _ => depthL l + 1
def depthL : List V → Nat
  | [] => 0
  | v :: l => max (depth v) (depthL l)
end
theorem depth_mk (k n : Int) (s : ByteArray) (l : List V) (ks : List ByteArray) : depth (mk k n s l ks) = depthL l + 1 := by rw [depth]
theorem depthL_nil : depthL [] = 0 := by rw [depthL]
theorem depthL_cons (v : V) (l : List V) : depthL (v :: l) = max (depth v) (depthL l) := by rw [depthL]
theorem depthL_app (a b : List V) : depthL (a ++ b) = max (depthL a) (depthL b) := by
  induction a with
  | nil => simp [depthL_nil]
  | cons v a ih => simp only [List.cons_append, depthL_cons, ih]; omega
theorem depthL_le (l : List V) (d : Nat) : depthL l ≤ d ↔ ∀ v ∈ l, depth v ≤ d := by
  induction l with
  | nil => simp [depthL_nil]
  | cons v l ih => rw [depthL_cons, Nat.max_le, ih]; simp
theorem depth_le_size (v : V) : depth v ≤ size v := by
  induction v using ind with
  | h k n s l ks ih =>
    rw [depth_mk, size_mk]
    have : depthL l ≤ sizeL l := by
      rw [depthL_le]
      exact fun v hv => Nat.le_trans (ih v hv) (size_mem hv)
    omega

/-- What Few counts down to: below 0 it stops at -1. -/
def few (v : V) (n : Nat) : Int := if size v ≤ n then ((n - size v : Nat) : Int) else -1

def shortK (s : ByteArray) (ks : List ByteArray) : Bool := decide (s.size ≤ 4096) && ks.all fun x => decide (x.size ≤ 4096)
mutual
def short : V → Bool
  | mk _ _ s l ks => shortK s ks && shortL l
def shortL : List V → Bool
  | [] => true
  | v :: l => short v && shortL l
end
theorem short_mk (k n : Int) (s : ByteArray) (l : List V) (ks : List ByteArray) : short (mk k n s l ks) = (shortK s ks && shortL l) := by rw [short]
theorem shortL_all (l : List V) : shortL l = l.all short := by
  induction l with
  | nil => rw [shortL]; rfl
  | cons v l ih => rw [shortL, ih]; rfl

def within (v : V) : Bool := short v && decide (depth v ≤ 16) && decide (size v ≤ 1000)

mutual
def fut : V → Bool
  | mk k _ _ l _ => k == 6 || futL l
def futL : List V → Bool
  | [] => false
  | v :: l => fut v || futL l
end
theorem fut_mk (k n : Int) (s : ByteArray) (l : List V) (ks : List ByteArray) : fut (mk k n s l ks) = (k == 6 || futL l) := by rw [fut]
theorem futL_any (l : List V) : futL l = l.any fut := by
  induction l with
  | nil => rw [futL]; rfl
  | cons v l ih => rw [futL, ih]; rfl

/-- The order of strings. -/
def lt (a b : ByteArray) : Bool := Op.bytesLess a.toList b.toList

def rising : List ByteArray → Bool
  | a :: b :: l => lt a b && rising (b :: l)
  | _ => true

/-- What a kind requires, apart from the items. -/
def fit (k n : Int) (s : ByteArray) (m : Nat) (ks : List ByteArray) : Bool :=
  if k = 0 then n == 0 && decide (s.size = 0) && decide (m = 0) && decide (ks.length = 0)
  else if k = 1 then (n == 0 || n == 1) && decide (s.size = 0) && decide (m = 0) && decide (ks.length = 0)
  else if k = 2 then decide (s.size = 0) && decide (m = 0) && decide (ks.length = 0)
  else if k = 3 then n == 0 && decide (m = 0) && decide (ks.length = 0)
  else if k = 4 then n == 0 && decide (s.size = 0) && decide (ks.length = 0)
  else if k = 5 then n == 0 && decide (s.size = 0) && decide (m = ks.length) && rising ks
  else if k = 6 then decide (0 ≤ n) && decide (s.size = 0) && decide (m = 0) && decide (ks.length = 0)
  else false
mutual
def wf : V → Bool
  | mk k n s l ks => fit k n s l.length ks && wfL l
def wfL : List V → Bool
  | [] => true
  | v :: l => wf v && wfL l
end
theorem wf_mk (k n : Int) (s : ByteArray) (l : List V) (ks : List ByteArray) : wf (mk k n s l ks) = (fit k n s l.length ks && wfL l) := by rw [wf]
theorem wfL_all (l : List V) : wfL l = l.all wf := by
  induction l with
  | nil => rw [wfL]; rfl
  | cons v l ih => rw [wfL, ih]; rfl

def right (v : V) : Bool := within v && wf v && !fut v

mutual
def same : V → V → Bool
  | mk k n s l ks, mk k' n' s' l' ks' => k == k' && n == n' && decide (s = s') && decide (ks = ks') && sameL l l'
def sameL : List V → List V → Bool
  | [], [] => true
  | a :: x, b :: y => same a b && sameL x y
  | [], _ :: _ => false
  | _ :: _, [] => false
end
theorem same_mk (k n : Int) (s : ByteArray) (l : List V) (ks : List ByteArray) (k' n' : Int) (s' : ByteArray) (l' : List V) (ks' : List ByteArray) :
    same (mk k n s l ks) (mk k' n' s' l' ks') = (k == k' && n == n' && decide (s = s') && decide (ks = ks') && sameL l l') := by rw [same]
theorem sameL_iff {l : List V} (h : ∀ v ∈ l, ∀ u, same v u = true ↔ v = u) : ∀ l', sameL l l' = true ↔ l = l' := by
  induction l with
  | nil => intro l'; cases l' <;> simp [sameL]
  | cons v l ih =>
    intro l'
    cases l' with
    | nil => simp [sameL]
    | cons u l' => rw [sameL, Bool.and_eq_true, h v (by simp) u, ih (fun x hx => h x (by simp [hx])) l']; simp
theorem same_iff (v : V) : ∀ u, same v u = true ↔ v = u := by
  induction v using ind with
  | h k n s l ks ih =>
    intro u
    match u with
    | mk k' n' s' l' ks' =>
      rw [same_mk, Bool.and_eq_true, sameL_iff ih]
      simp [and_assoc]
      exact fun _ _ _ => and_comm
theorem same_self (v : V) : same v v = true := (same_iff v v).2 rfl
theorem same_ne {v u : V} (h : v ≠ u) : same v u = false := by
  cases e : same v u with
  | false => rfl
  | true => exact absurd ((same_iff v u).1 e) h

def cI (a b : Int) : Int := if a < b then -1 else if b < a then 1 else 0
def cS (a b : ByteArray) : Int := if lt a b then -1 else if lt b a then 1 else 0
mutual
def cmp : V → V → Int
  | mk k n s l ks, mk k' n' s' l' ks' =>
    if k ≠ k' then cI k k' else if k = 1 ∨ k = 2 ∨ k = 6 then cI n n' else if k = 3 then cS s s' else if k = 4 then cmpL l l' else if k = 5 then cmpP l ks l' ks' else 0
def cmpL : List V → List V → Int
  | [], [] => 0
  | [], _ :: _ => -1
  | _ :: _, [] => 1
  | a :: x, b :: y => if cmp a b ≠ 0 then cmp a b else cmpL x y
def cmpP : List V → List ByteArray → List V → List ByteArray → Int
  | [], _, [], _ => 0
  | [], _, _ :: _, _ => -1
  | _ :: _, _, [], _ => 1
  | a :: x, k :: ks, b :: y, k' :: ks' => if cS k k' ≠ 0 then cS k k' else if cmp a b ≠ 0 then cmp a b else cmpP x ks y ks'
  | _ :: _, [], _ :: _, _ => 0
  | _ :: _, _ :: _, _ :: _, [] => 0
end

def encText (s : ByteArray) : List UInt8 := Wi.enc s.size ++ s.data.toList
mutual
def enc : V → List UInt8
  | mk k n s l ks => Wi.enc k ++ (if k = 1 ∨ k = 2 ∨ k = 6 then Wi.enc n else if k = 3 then encText s else if k = 4 then Wi.enc l.length ++ encL l else if k = 5 then Wi.enc l.length ++ encP l ks else [])
def encL : List V → List UInt8
  | [] => []
  | v :: l => enc v ++ encL l
def encP : List V → List ByteArray → List UInt8
  | [], _ => []
  | v :: l, k :: ks => encText k ++ enc v ++ encP l ks
  | _ :: _, [] => []
end
end V
end Go.Proofs.Ytpoofeiajmkfdaa
