/-
  The classes of bytes, by the library's search of a rune, and the span of a class.
-/
import Derived.Test.YtodcgdiejmdaaaaDoorTMem
import Derived.Test.YtodcgdiejmdaaaaDoorTShelf
import Derived.WalkMore
namespace Go.Proofs.YtodcgdiejmdaaaaDoor
open Go.RowKit

theorem idx_pos (l : List UInt8) (c : UInt8) : decide (0 ≤ Lib.indexByte l c) = l.contains c := by
  induction l with
  | nil => rfl
  | cons b l ih =>
    have hg := Lib.indexByte_ge l c
    rw [Lib.indexByte, List.contains_cons]
    by_cases h : b = c
    · subst h; simp
    · rw [if_neg (by simpa using h), show (c == b) = false by simpa using fun e => h e.symm, Bool.false_or, ← ih]
      by_cases h2 : Lib.indexByte l c = -1
      · rw [if_pos (by simpa using h2), h2]
      · rw [if_neg (by simpa using h2)]
        have : 0 ≤ Lib.indexByte l c := by omega
        rw [decide_eq_true this, decide_eq_true (by omega)]
theorem idx_no {l : List UInt8} {c : UInt8} (h : ∀ b ∈ l, b.toNat < 128) (hc : 128 ≤ c.toNat) : Lib.indexByte l c = -1 := by
  have hp := idx_pos l c
  have hn : l.contains c = false := by
    rw [Bool.eq_false_iff]
    intro hh
    have := h c (by simpa using hh)
    omega
  rw [hn] at hp
  have := Lib.indexByte_ge l c
  have h0 : ¬ 0 ≤ Lib.indexByte l c := by simpa using hp
  omega

set_option maxRecDepth 100000 in
theorem idx_end (s : ByteArray) (w : World) :
    Calls Tryd.prog 46 #[.string s, .int .i32 (-1)] w fun e w' => e = .returned (.int .i64 (-1)) ∧ w = w' := by
  go_enter Tryd.func46, Tryd.ntmps46
  go_wp2_with (first | fail | go_in)
  go_ret
  exact ⟨rfl, rfl⟩

theorem index_no (s : ByteArray) (c : UInt8) (hs : ∀ b ∈ s.data.toList, b.toNat < 128) (hc : 128 ≤ c.toNat) (w : World) :
    Calls Tryd.prog 55 #[.string s, .int .u8 (c.toNat : Int)] w fun e w' => e = .returned (.int .i64 (-1)) ∧ w' = w := by
  refine (Tryd.strings_IndexByte s _ w).mono ?_
  rintro e w' ⟨rfl, rfl⟩
  rw [show ((c.toNat : Int)).toNat.toUInt8 = c by simp, idx_no hs hc]
  exact ⟨rfl, rfl⟩

set_option maxRecDepth 100000 in
set_option maxHeartbeats 1000000 in
theorem idx_wide (s : ByteArray) (hs : ∀ b ∈ s.data.toList, b.toNat < 128) (_hl : s.size ≤ 1000) (r : Int) (h0 : 128 ≤ r) (h1 : r < 256) (w : World) :
    Calls Tryd.prog 46 #[.string s, .int .i32 r] w fun e w' => e = .returned (.int .i64 (-1)) ∧ ∃ q, w' = w.drewN q := by
  have hv : Utf8.valid r = true := by rw [validRune_eq]; simp [validRune]; omega
  obtain ⟨e1, e2, e3⟩ := encode_facts r hv h0
  have hcv : ∀ W : World, (convert 21 9 (.int .i32 r)).run Tryd.prog W = .ok (.string (Utf8.encode r)) W := fun W => run_convert_int_string W _ _ _ _ (by kernel_rfl) Tryd.underlying9
  have HS := hid hs
  clear hs hv
  generalize Utf8.encode r = rs at *
  obtain ⟨n, hn⟩ : ∃ n, rs.size = n + 1 := ⟨rs.size - 1, by omega⟩
  have hn1 : n < rs.size := by omega
  have e3' : 128 ≤ (rs[n]).toNat := by have := e3 (by omega); simpa only [hn, Nat.add_sub_cancel] using this
  have hn4 : n ≤ 3 := by omega
  clear e1 e2 e3
  have hcn := (rs[n]).toNat_lt
  have HE := hid e3'
  go_enter Tryd.func46, Tryd.ntmps46
  go_wp2_with (first | fail | go_in)
  go_step3
  go_wp2_with fail
  clear hn
  refine wp_loop_rounds 1 ?_
  rw [rounds_succ]
  by_cases hi : n < s.size
  · have hne : ((s[n].toNat : Int) == (rs[n].toNat : Int)) = false := by
      have h1 := HS.out s[n] (by show s.data[n] ∈ s.data.toList; exact Array.getElem_mem_toList _)
      simp; omega
    go_wp2_with fail
    go_step3
    go_wp2_with fail
    go_quiet (fail)
    go_wp2_with fail
    have hwr : IntKind.i64.wrap ((n : Int) + 1) = (n : Int) + 1 := wrap_small _ (by omega) (by omega)
    have hle1 : (n : Int) + 1 ≤ (s.size : Int) := by omega
    have hle0 : 0 ≤ (n : Int) + 1 := by omega
    have htn : ((n : Int) + 1).toNat = n + 1 := by omega
    have C := hid (fun W => index_no (s.extract (n + 1) s.size) rs[n] (fun b hb => HS.out b (mem_extract hb)) e3' W)
    go_quiet (first | (refine (C.out _).mono ?_; rintro e w' ⟨rfl, rfl⟩; exact ⟨rfl, _, rfl⟩))
    go_wp2_with fail
    simp only [Exit.noGoto, Exit.inBlock, Exit.then]
    go_ret
    exact ⟨rfl, _, rfl⟩
  · go_wp2_with fail
    rw [Exit.noGoto_ret]
    go_ret
    exact ⟨rfl, 0, rfl⟩

/-- The library's search of a rune in a text of ASCII. -/
def ixp (s : List UInt8) (l : List UInt8) : Int := match l with
  | [] => -1
  | c :: _ => Lib.indexByte s c
theorem idx_any (s : ByteArray) (hs : ∀ b ∈ s.data.toList, b.toNat < 128) (hl : s.size ≤ 1000) (l : List UInt8) (w : World) :
    Calls Tryd.prog 46 #[.string s, .int .i32 (rn l)] w fun e w' => e = .returned (.int .i64 (ixp s.data.toList l)) ∧ ∃ q, w' = w.drewN q := by
  cases l with
  | nil =>
    refine (idx_end s w).mono ?_
    rintro e w' ⟨rfl, rfl⟩
    exact ⟨rfl, 0, rfl⟩
  | cons c r =>
    have hc := c.toNat_lt
    by_cases h : c.toNat < 128
    · refine (Tryd.strings_IndexRune_ascii s (c.toNat : Int) w (by omega) (by omega)).mono ?_
      rintro e w' ⟨rfl, rfl⟩
      rw [show ((c.toNat : Int)).toNat.toUInt8 = c by simp]
      exact ⟨rfl, 0, rfl⟩
    · refine (idx_wide s hs hl (c.toNat : Int) (by omega) (by omega) w).mono ?_
      rintro e w' ⟨rfl, q, rfl⟩
      rw [show ixp s.data.toList (c :: r) = -1 from idx_no hs (by omega)]
      exact ⟨rfl, _, rfl⟩
theorem contains_any (s : ByteArray) (hs : ∀ b ∈ s.data.toList, b.toNat < 128) (hl : s.size ≤ 1000) (l : List UInt8) (w : World) :
    Calls Tryd.prog 32 #[.string s, .int .i32 (rn l)] w fun e w' => e = .returned (.bool (hdp s.data.toList.contains l)) ∧ ∃ q, w' = w.drewN q := by
  have C := idx_any s hs hl l w
  have hb : hdp s.data.toList.contains l = decide (0 ≤ ixp s.data.toList l) := by
    cases l with
    | nil => rfl
    | cons c r => exact (idx_pos _ c).symm
  rw [hb]
  clear hb hs
  generalize ixp s.data.toList l = x at *
  generalize rn l = y at *
  go_enter Tryd.func32, Tryd.ntmps32
  go_wp2_with fail
  refine C.mono ?_
  rintro e w' ⟨rfl, q, rfl⟩
  go_wp2_with fail
  go_ret
  exact ⟨rfl, _, rfl⟩

/-! ### Classes -/
/-- The closure of a class of bytes. -/
def fv (k : Nat) : Value := .func (.func 31) #[] #[.pointer (some ⟨k, 0, none⟩)]
/-- Block k holds the characters of the class p. -/
def Cl (w : World) (g k : Nat) (p : UInt8 → Bool) : Prop :=
  ∃ s : ByteArray, k ≠ g ∧ w.cell? ⟨k, 0, none⟩ = some (.string s) ∧ (∀ b ∈ s.data.toList, b.toNat < 128) ∧ s.size ≤ 1000 ∧ ∀ c, s.data.toList.contains c = p c
theorem Cl.ch {w w' : World} {g k : Nat} {p : UInt8 → Bool} (h : Cl w g k p) (c : Ch g w w') : Cl w' g k p := by
  obtain ⟨s, h1, h2, h3⟩ := h
  exact ⟨s, h1, c.cell h2 h1, h3⟩
theorem cls_any (g k : Nat) (p : UInt8 → Bool) (l : List UInt8) (w : World) (h : Cl w g k p) :
    Calls Tryd.prog 31 #[.int .i32 (rn l), .pointer (some ⟨k, 0, none⟩)] w fun e w' => e = .returned (.bool (hdp p l)) ∧ ∃ q, w' = w.drewN q := by
  obtain ⟨s, _, hc, h3, h4, h5⟩ := h
  have C := contains_any s h3 h4 l w
  have hb : hdp s.data.toList.contains l = hdp p l := by
    cases l with
    | nil => rfl
    | cons c r => exact h5 c
  rw [hb] at C
  clear hb h3 h5
  generalize hdp p l = x at *
  generalize rn l = y at *
  go_enter Tryd.func31, Tryd.ntmps31
  go_wp2_with fail
  refine C.mono ?_
  rintro e w' ⟨rfl, q, rfl⟩
  go_wp2_with fail
  go_ret
  exact ⟨rfl, _, rfl⟩
theorem among_any (g : Nat) (p : UInt8 → Bool) (s : ByteArray) (w : World) (hg : g < w.heap.size) (hs : ∀ b ∈ s.data.toList, b.toNat < 128) (hl : s.size ≤ 1000) (hp : ∀ c, s.data.toList.contains c = p c) :
    Calls Tryd.prog 22 #[.string s] w fun e w' => ∃ k, e = .returned (fv k) ∧ Below w.heap.size w w' ∧ Cl w' g k p := by
  have hmf : ∀ (fn : Fn) (first cap : Array Value) (w : World), (Instr.makeFunc fn first cap).run Tryd.prog w = .ok (.func fn first cap) w := fun _ _ _ _ => rfl
  have HS := hid hs
  have HP := hid hp
  clear hs hp
  go_enter Tryd.func22, Tryd.ntmps22
  go_wp2_with fail
  go_ret
  refine ⟨w.heap.size, rfl, (Below.refl _ _).alloc (Nat.le_refl _) _, s, by omega, ?_, HS.out, hl, HP.out⟩
  simp
end Go.Proofs.YtodcgdiejmdaaaaDoor
