/-
  Run and Number of layer 6, of the program and of the reference, by their contracts.
-/
import Derived.Test.YtodcgdiejmdaaaaDoorConv
import Derived.Test.YtodcgdiejmdaaaaDoorNPlain
import Derived.Test.YtodcgdiejmdaaaaDoorShelf
import Derived.WalkSmall
import Derived.Lib.ItoaLen
import Derived.Lib.AppendIntMem
namespace Go.Proofs.YtodcgdiejmdaaaaDoor
open Go.RowKit

/-- What the library reads of the package-level variables. -/
structure Good (w : World) : Prop where
  tab : Lib.TabIs Tryd.prog w "internal/strconv.uint64pow10" .u64 Lib.pow10Tab
  syn : ∃ tp p, w.var? Tryd.prog "strconv.ErrSyntax" = some #[.iface tp p]
  rng : ∃ tp p, w.var? Tryd.prog "strconv.ErrRange" = some #[.iface tp p]

theorem var_lt {w : World} {n : String} {cs : Array Value} (h : w.var? Tryd.prog n = some cs) : ∃ g, Tryd.prog.globalNamed n = some g ∧ g < w.heap.size := by
  unfold World.var? at h
  cases hg : Tryd.prog.globalNamed n with
  | none => simp [hg] at h
  | some g =>
    refine ⟨g, rfl, ?_⟩
    simp only [hg, Option.bind_some] at h
    split at h
    · rename_i hb
      obtain ⟨hlt, _⟩ := Array.getElem?_eq_some_iff.1 hb
      exact hlt
    · cases h
theorem var_below {w W : World} {n : String} {cs : Array Value} (h : w.var? Tryd.prog n = some cs) (hb : Below w.heap.size w W) : W.var? Tryd.prog n = some cs := by
  obtain ⟨g, hg, hlt⟩ := var_lt h
  exact var?_below hb hg hlt h
theorem Good.below {w W : World} (h : Good w) (hb : Below w.heap.size w W) : Good W :=
  ⟨var_below h.tab hb, by obtain ⟨tp, p, hv⟩ := h.syn; exact ⟨tp, p, var_below hv hb⟩, by obtain ⟨tp, p, hv⟩ := h.rng; exact ⟨tp, p, var_below hv hb⟩⟩

theorem itoa_any (n : Int) (w : World) (hG : Good w) (h0 : -9223372036854775808 ≤ n) (h1 : n ≤ 9223372036854775807) :
    Calls Tryd.prog 26 #[.int .i64 n] w fun e w' => e = .returned (strOf (Lib.itoa n)) ∧ Below w.heap.size w w' :=
  (Tryd.strconv_Itoa n h0 h1 w hG.tab).mono fun _ _ ⟨he, k, os, hw⟩ => ⟨he, by rw [hw]; exact Lib.below_grow _ _ (Nat.le_refl _) k os⟩

theorem cat_list (a : List UInt8) (b : ByteArray) (l : List UInt8) (hb : b = ⟨l.toArray⟩) : (⟨a.toArray⟩ : ByteArray) ++ b = ⟨(a ++ l).toArray⟩ := by
  subst hb
  apply ByteArray.ext
  simp [ByteArray.data_append]

/-! ### The reference's decimal digits -/
theorem tdiv_neg (m : Nat) : Int.tdiv (-(m : Int)) 10 = -((m / 10 : Nat) : Int) := by
  rw [Int.neg_tdiv]; rfl
theorem tmod_neg (m : Nat) : Int.tmod (-(m : Int)) 10 = -((m % 10 : Nat) : Int) := by
  rw [Int.neg_tmod]; rfl

theorem lit1 (w : World) (c : UInt8) : Bs (w.alloc (.cells #[.int .u8 (c.toNat : Int)] 5)) (.slice (some ⟨w.heap.size, 0, none⟩) 1 1) [c] := by
  have := lit_rd w ([c].map by8) (by simp [maxLen])
  simpa [Bs, by8] using this

theorem conv_digit (w : World) (m : Nat) : (convert 48 9 (.slice (some ⟨w.heap.size, 0, none⟩) 1 1)).run Tryd.prog (w.alloc (.cells #[.int .u8 (48 + (m : Int) % 10)] 5))
    = .ok (.string ⟨#[UInt8.ofNat (48 + m % 10)]⟩) (w.alloc (.cells #[.int .u8 (48 + (m : Int) % 10)] 5)) := by
  have h := (lit1 w (UInt8.ofNat (48 + m % 10))).conv
  rw [Nm.ofNat_toNat (Nat.mod_lt m (by omega))] at h
  rw [show ((48 + m % 10 : Nat) : Int) = 48 + (m : Int) % 10 by omega] at h
  exact h

theorem size_mk (l : List UInt8) : (⟨l.toArray⟩ : ByteArray).size = l.length := by simp [ByteArray.size]
theorem below_alloc (w : World) (o : Obj) : Below w.heap.size w (w.alloc o) := (Below.refl _ _).alloc (Nat.le_refl _) o

/-! ### Number -/
noncomputable def numPair (l : List UInt8) : Value := .tuple #[.int .i64 (Nm.numOf l), .bool (decide (1 ≤ Nm.numOf l))]
theorem numPair_no {l : List UInt8} (h : ¬ Nm.IsRun l) : numPair l = .tuple #[.int .i64 0, .bool false] := by
  unfold numPair; rw [Nm.numOf_no h]; rfl
theorem numPair_hit {l : List UInt8} {n : Int} (h1 : 1 ≤ n) (h2 : n ≤ 9223372036854775807) (h : Nm.runS n = l) : numPair l = .tuple #[.int .i64 n, .bool true] := by
  unfold numPair; rw [Nm.numOf_hit h1 h2 h, decide_eq_true h1]

theorem noRun_head {l : List UInt8} (h : Lib.hasPrefix l [114] = false) : ¬ Nm.IsRun l := by
  rintro ⟨n, h1, _, rfl⟩
  rw [Nm.runS_hi h1] at h
  simp [Lib.hasPrefix] at h
theorem noRun_atoi {t : List UInt8} (h : ∀ v, Lib.atoiAll t ≠ .ok v) : ¬ Nm.IsRun (114 :: t) := by
  rintro ⟨n, h1, h2, he⟩
  rw [Nm.runS_hi h1, List.cons.injEq] at he
  exact h n (by rw [he.2, Nm.atoi_run h1 h2])
theorem noRun_other {t : List UInt8} {v : Int} (h : Lib.atoiAll t = .ok v) (hne : Nm.runS v ≠ 114 :: t) : ¬ Nm.IsRun (114 :: t) := by
  rintro ⟨n, h1, h2, he⟩
  have he' := he
  rw [Nm.runS_hi h1, List.cons.injEq] at he
  rw [he.2, Nm.atoi_run h1 h2] at h
  injection h with h
  exact hne (by rw [← h, he'])
theorem atoi_bounds {t : List UInt8} {v : Int} (h : Lib.atoiAll t = .ok v) : -9223372036854775808 ≤ v ∧ v ≤ 9223372036854775807 := Lib.atoiAll_bounds h

/-! ### The reference's Number -/
def Ls (s : ByteArray) (k : Nat) : Int := Nm.loose 0 ((s.data.toList.drop 1).take k)
theorem ls_snoc (s : ByteArray) (k : Nat) (h : k + 1 < s.size) : Nm.lstep (Ls s k) s[k + 1] = Ls s (k + 1) := by
  unfold Ls
  rw [List.take_succ_eq_append_getElem (by simp; omega), Nm.loose_snoc]
  congr 1
  simp
  rfl
theorem ls_all (s : ByteArray) (k : Nat) (h : s.size ≤ k + 1) : Ls s k = Nm.loose 0 (s.data.toList.drop 1) := by
  unfold Ls
  rw [List.take_of_length_le (by simp; omega)]
theorem step_eq (a : Int) (c : UInt8) : wrap64 (wrap64 (wrap64 (10 * a) + wrap64 (c.toNat : Int)) - 48) = Nm.lstep a c := by
  have := c.toNat_lt
  unfold Nm.lstep Nm.wr wrap64
  omega
def NumRel (s : ByteArray) (vn vi : Value) : Prop := ∃ k : Nat, (k = 0 ∨ k + 1 ≤ s.size) ∧ vi = .int .i64 ((k + 1 : Nat) : Int) ∧ vn = .int .i64 (Ls s k)

/-- Whatever the loop read: of an identifier it is the number. -/
theorem ls_run {s : ByteArray} {k : Nat} (h : ¬ (k + 1 < s.size ∧ s.size ≤ 20)) {n : Int} (h1 : 1 ≤ n) (h2 : n ≤ 9223372036854775807) (he : Nm.runS n = s.data.toList) : Ls s k = n := by
  have hl := Nm.run_len h1 h2
  rw [he] at hl
  have hl' : s.size ≤ 20 := by simpa using hl
  rw [ls_all s k (by omega), ← he, Nm.runS_hi h1, List.drop_one, List.tail_cons, Nm.loose_run h1 h2]

end Go.Proofs.YtodcgdiejmdaaaaDoor
