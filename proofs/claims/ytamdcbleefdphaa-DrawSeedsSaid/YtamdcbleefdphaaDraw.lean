/-
  The functions Draw, Below, Jitter, Seed of layer 5, of the program; Jitter and Seed of the reference; each by its contract.
-/
import Derived.Test.YtamdcbleefdphaaDRef
import Derived.Laws.IdiomStrings
namespace Go.Proofs.Ytamdcbleefdphaa
open Go.RowKit

namespace Hs
def jit (m : Nat) (b p : Int) : Int := if b < 0 ∨ 1099511627776 < b ∨ p < 0 ∨ 100 < p then b else b * (100 - p + below m (2 * p + 1)) / 100
theorem jit_out (m : Nat) (b p : Int) (h : b < 0 ∨ 1099511627776 < b ∨ p < 0 ∨ 100 < p) : jit m b p = b := if_pos h
theorem jit_in (m : Nat) (b p : Int) (h1 : 0 ≤ b) (h2 : b ≤ 1099511627776) (h3 : 0 ≤ p) (h4 : p ≤ 100) : jit m b p = b * (100 - p + below m (2 * p + 1)) / 100 := if_neg (by omega)
theorem jit_bounds (m : Nat) (b p : Int) (h1 : 0 ≤ b) (h2 : b ≤ 1099511627776) (h3 : 0 ≤ p) (h4 : p ≤ 100) : b * (100 - p) / 100 ≤ jit m b p ∧ jit m b p ≤ b * (100 + p) / 100 := by
  rw [jit_in m b p h1 h2 h3 h4]
  exact ⟨jit_lo b p _ h1 (below_lo _ _), jit_hi b p _ h1 (below_hi _ _ (by omega))⟩
end Hs

set_option maxHeartbeats 400000 in
theorem draw_any (a b : Int) (w : World) (ha1 : -9223372036854775808 ≤ a) (ha2 : a ≤ 9223372036854775807) (hb1 : -9223372036854775808 ≤ b) (hb2 : b ≤ 9223372036854775807) :
    Calls Try.prog 7 #[.int .i64 a, .int .i64 b] w fun e w' => e = .returned (.int .i64 (Hs.mix (U a) (U b) : Nat)) ∧ w = w' := by
  have C := hid (fun W => mix_any a b W ha1 ha2 hb1 hb2)
  generalize Hs.mix (U a) (U b) = f at *
  clear ha1 ha2 hb1 hb2
  go_enter Try.func7, Try.ntmps7
  go_wp2_with fail
  refine (C.out _).mono ?_
  rintro e w' ⟨rfl, rfl⟩
  go_wp2_with fail
  go_ret
  exact ⟨rfl, rfl⟩

set_option maxHeartbeats 400000 in
theorem below_any (a b n : Int) (w : World) (ha1 : -9223372036854775808 ≤ a) (ha2 : a ≤ 9223372036854775807) (hb1 : -9223372036854775808 ≤ b) (hb2 : b ≤ 9223372036854775807) (hn1 : -9223372036854775808 ≤ n) (hn2 : n ≤ 9223372036854775807) :
    Calls Try.prog 9 #[.int .i64 a, .int .i64 b, .int .i64 n] w fun e w' => e = .returned (.int .i64 (Hs.below (Hs.mix (U a) (U b)) n)) ∧ w = w' := by
  by_cases h : n < 1
  · have hb : Hs.below (Hs.mix (U a) (U b)) n = 0 := by unfold Hs.below; rw [if_pos h]
    rw [hb]
    go_enter Try.func9, Try.ntmps9
    go_wp2
    go_ret
    exact ⟨rfl, rfl⟩
  · have hb : Hs.below (Hs.mix (U a) (U b)) n = ((Hs.mix (U a) (U b) : Nat) : Int) % n := by unfold Hs.below; rw [if_neg h]
    rw [hb]
    have C := hid (fun W => draw_any a b W ha1 ha2 hb1 hb2)
    have hl := Hs.mix_lt (U a) (U b)
    generalize Hs.mix (U a) (U b) = f at *
    clear hb ha1 ha2 hb1 hb2
    have h1 : 1 ≤ n := by omega
    clear h
    go_enter Try.func9, Try.ntmps9
    go_wp2_with fail
    refine (C.out _).mono ?_
    rintro e w' ⟨rfl, rfl⟩
    go_wp2_with fail
    go_ret
    exact ⟨rfl, rfl⟩

set_option maxHeartbeats 1000000 in
theorem jitter_any (a b x p : Int) (w : World) (ha1 : -9223372036854775808 ≤ a) (ha2 : a ≤ 9223372036854775807) (hb1 : -9223372036854775808 ≤ b) (hb2 : b ≤ 9223372036854775807)
    (hx1 : -9223372036854775808 ≤ x) (hx2 : x ≤ 9223372036854775807) (hp1 : -9223372036854775808 ≤ p) (hp2 : p ≤ 9223372036854775807) :
    Calls Try.prog 12 #[.int .i64 a, .int .i64 b, .int .i64 x, .int .i64 p] w fun e w' => e = .returned (.int .i64 (Hs.jit (Hs.mix (U a) (U b)) x p)) ∧ w = w' := by
  by_cases h : x < 0 ∨ 1099511627776 < x ∨ p < 0 ∨ 100 < p
  · rw [Hs.jit_out _ _ _ h]
    clear ha1 ha2 hb1 hb2
    by_cases h1 : x < 0
    · clear h
      go_enter Try.func12, Try.ntmps12
      go_wp2
      go_ret
      exact ⟨rfl, rfl⟩
    by_cases h2 : 1099511627776 < x
    · clear h
      go_enter Try.func12, Try.ntmps12
      go_wp2
      go_ret
      exact ⟨rfl, rfl⟩
    by_cases h3 : p < 0
    · clear h
      go_enter Try.func12, Try.ntmps12
      go_wp2
      go_ret
      exact ⟨rfl, rfl⟩
    have h4 : 100 < p := by omega
    clear h
    go_enter Try.func12, Try.ntmps12
    go_wp2
    go_ret
    exact ⟨rfl, rfl⟩
  · have h1 : 0 ≤ x := by omega
    have h2 : x ≤ 1099511627776 := by omega
    have h3 : 0 ≤ p := by omega
    have h4 : p ≤ 100 := by omega
    clear h
    rw [Hs.jit_in _ _ _ h1 h2 h3 h4]
    have C := hid (fun W => below_any a b (2 * p + 1) W ha1 ha2 hb1 hb2 (by omega) (by omega))
    have b1 := Hs.below_lo (Hs.mix (U a) (U b)) (2 * p + 1)
    have b2 := Hs.below_hi (Hs.mix (U a) (U b)) (2 * p + 1) (by omega)
    generalize Hs.below (Hs.mix (U a) (U b)) (2 * p + 1) = y at *
    have p1 : 0 ≤ x * (100 - p + y) := Int.mul_nonneg h1 (by omega)
    have p2 : x * (100 - p + y) ≤ 1099511627776 * 200 := Hs.mul_le h1 (by omega) h2 (by omega)
    have p2' : x * (100 - p + y) ≤ 219902325555200 := by omega
    clear p2 ha1 ha2 hb1 hb2 hx1 hx2 hp1 hp2
    go_enter Try.func12, Try.ntmps12
    go_wp2_with fail
    refine (C.out _).mono ?_
    rintro e w' ⟨rfl, rfl⟩
    go_wp2_with fail
    go_ret
    exact ⟨rfl, rfl⟩

set_option maxHeartbeats 1000000 in
theorem rjitter_any (a b x p : Int) (w : World) (ha1 : -9223372036854775808 ≤ a) (ha2 : a ≤ 9223372036854775807) (hb1 : -9223372036854775808 ≤ b) (hb2 : b ≤ 9223372036854775807)
    (hx1 : -9223372036854775808 ≤ x) (hx2 : x ≤ 9223372036854775807) (hp1 : -9223372036854775808 ≤ p) (hp2 : p ≤ 9223372036854775807) :
    Calls Try.prog 13 #[.int .i64 a, .int .i64 b, .int .i64 x, .int .i64 p] w fun e w' => e = .returned (.int .i64 (Hs.jit (Hs.mix (U a) (U b)) x p)) ∧ Below w.heap.size w w' := by
  by_cases h : x < 0 ∨ 1099511627776 < x ∨ p < 0 ∨ 100 < p
  · rw [Hs.jit_out _ _ _ h]
    clear ha1 ha2 hb1 hb2
    by_cases h1 : x < 0
    · clear h
      go_enter Try.func13, Try.ntmps13
      go_wp2
      go_ret
      exact ⟨rfl, Below.refl _ _⟩
    by_cases h2 : 1099511627776 < x
    · clear h
      go_enter Try.func13, Try.ntmps13
      go_wp2
      go_ret
      exact ⟨rfl, Below.refl _ _⟩
    by_cases h3 : p < 0
    · clear h
      go_enter Try.func13, Try.ntmps13
      go_wp2
      go_ret
      exact ⟨rfl, Below.refl _ _⟩
    have h4 : 100 < p := by omega
    clear h
    go_enter Try.func13, Try.ntmps13
    go_wp2
    go_ret
    exact ⟨rfl, Below.refl _ _⟩
  · have h1 : 0 ≤ x := by omega
    have h2 : x ≤ 1099511627776 := by omega
    have h3 : 0 ≤ p := by omega
    have h4 : p ≤ 100 := by omega
    clear h
    rw [Hs.jit_in _ _ _ h1 h2 h3 h4]
    have C := hid (fun W => rbelow_any a b (2 * p + 1) W ha1 ha2 hb1 hb2 (by omega) (by omega))
    have b1 := Hs.below_lo (Hs.mix (U a) (U b)) (2 * p + 1)
    have b2 := Hs.below_hi (Hs.mix (U a) (U b)) (2 * p + 1) (by omega)
    generalize Hs.below (Hs.mix (U a) (U b)) (2 * p + 1) = y at *
    have p1 : 0 ≤ x / 100 * (100 - p + y) := Int.mul_nonneg (by omega) (by omega)
    have p2 : x / 100 * (100 - p + y) ≤ 10995116278 * 200 := Hs.mul_le (by omega) (by omega) (by omega) (by omega)
    have p2' : x / 100 * (100 - p + y) ≤ 2199023255600 := by omega
    have q1 : 0 ≤ x % 100 * (100 - p + y) := Int.mul_nonneg (by omega) (by omega)
    have q2 : x % 100 * (100 - p + y) ≤ 99 * 200 := Hs.mul_le (by omega) (by omega) (by omega) (by omega)
    have q2' : x % 100 * (100 - p + y) ≤ 19800 := by omega
    have HP := hid (Hs.parts x (100 - p + y))
    clear p2 q2 ha1 ha2 hb1 hb2 hx1 hx2 hp1 hp2
    go_enter Try.func13, Try.ntmps13
    go_wp2_with fail
    refine (C.out _).mono ?_
    rintro e w' ⟨rfl, hb⟩
    go_wp2_with fail
    go_ret
    exact ⟨ret_int HP.out, hb⟩

/-- The name of a run: the two names joined by a slash. -/
def joined (s t : ByteArray) : ByteArray := s ++ ⟨#[47]⟩ ++ t

set_option maxHeartbeats 400000 in
theorem seed_any (s t : ByteArray) (w : World) (hs : s.size ≤ 200) (ht : t.size ≤ 200) :
    Calls Try.prog 14 #[.string s, .string t] w fun e w' => e = .returned (.int .i64 (Hs.fnv (joined s t).data.toList : Nat)) ∧ w = w' := by
  have C := hid (fun W => fnv_any (s ++ ⟨#[47]⟩ ++ t) W (by rw [ByteArray.size_append, ByteArray.size_append, show (⟨#[47]⟩ : ByteArray).size = 1 from rfl]; unfold maxLen; omega))
  unfold joined
  generalize hf : Hs.fnv (s ++ ⟨#[47]⟩ ++ t).data.toList = f at *
  clear hf
  go_enter Try.func14, Try.ntmps14
  go_wp2_with fail
  refine (C.out _).mono ?_
  rintro e w' ⟨rfl, rfl⟩
  go_wp2_with fail
  go_ret
  exact ⟨rfl, rfl⟩

/-- '[]byte(s)' of a string that is no constant. -/
theorem conv_bytes (w : World) (s : ByteArray) (h : s.size ≤ maxLen) :
    ∃ c W, (convert 9 32 (.string s)).run Try.prog w = .ok (.slice (some ⟨w.heap.size, 0, none⟩) s.size c) W ∧ Bs W (.slice (some ⟨w.heap.size, 0, none⟩) s.size c) s.data.toList ∧ Below w.heap.size w W := by
  refine ⟨_, _, run_bytes_of_string w 9 32 5 s Try.underlying9 Try.underlying32 Try.underlying5, ?_, ((Below.refl _ _).drew).alloc (Nat.le_refl _) _⟩
  refine ⟨some ⟨w.heap.size, 0, none⟩, _, by simp, by simpa using grownCap_ge w s.size 0 5, grownCap_le_maxLen w s.size 0 5 h, .inr ⟨_, rfl, fun j u hj => ?_⟩⟩
  rw [show (⟨w.heap.size, 0, none⟩ : Addr).add j = ⟨w.drew.heap.size, j, none⟩ by simp [Addr.add]; omega, World.cell?_alloc_mark]
  rw [List.getElem?_map, Option.map_eq_some_iff] at hj
  obtain ⟨x, hx, rfl⟩ := hj
  obtain ⟨hjl, hjx⟩ := List.getElem?_eq_some_iff.1 hx
  have hjl' : j < s.data.size := by simpa using hjl
  simp at hjx
  unfold bytesRow
  rw [Array.getElem?_append_left (by simpa using hjl'), Array.getElem?_map, Array.getElem?_eq_getElem hjl', hjx]
  rfl

set_option maxHeartbeats 400000 in
theorem rseed_any (s t : ByteArray) (w : World) (hs : s.size ≤ 200) (ht : t.size ≤ 200) :
    Calls Try.prog 15 #[.string s, .string t] w fun e w' => e = .returned (.int .i64 (Hs.fnv (joined s t).data.toList : Nat)) ∧ Below w.heap.size w w' := by
  obtain ⟨c, W, hrun, hbs, hb⟩ := conv_bytes w (s ++ ⟨#[47]⟩ ++ t) (by rw [ByteArray.size_append, ByteArray.size_append, show (⟨#[47]⟩ : ByteArray).size = 1 from rfl]; unfold maxLen; omega)
  have C := hid (rfnv5_any _ _ W hbs)
  have HB := hid hb
  clear hbs hb
  unfold joined
  generalize hf : Hs.fnv (s ++ ⟨#[47]⟩ ++ t).data.toList = f at *
  clear hf
  generalize hn : (s ++ ⟨#[47]⟩ ++ t).size = n at *
  clear hn
  go_enter Try.func15, Try.ntmps15
  go_wp2_with fail
  refine (C.out).mono ?_
  rintro e w' ⟨rfl, rfl⟩
  go_wp2_with fail
  go_ret
  exact ⟨rfl, HB.out⟩
end Go.Proofs.Ytamdcbleefdphaa
