/-
  Numerals: what the library's ParseInt gives for digits.
-/
import Derived.Test.YtodcgdiejmdaaaaDoorTAsc
import Derived.Test.YtodcgdiejmdaaaaDoorNRun
import Derived.Lib.ParseIntBTie
import Derived.Lib.SmallJoins
namespace Go.Proofs.YtodcgdiejmdaaaaDoor
open Go.RowKit
namespace Tk

theorem dig_iff (c : UInt8) : digit c = true ↔ 48 ≤ c.toNat ∧ c.toNat ≤ 57 := by simp [digit]
theorem parse_any : ∀ (l : List UInt8) (a : Nat), (∀ c ∈ l, 48 ≤ c.toNat ∧ c.toNat ≤ 57) → Lib.parseUint10 a l = .range ∨ Lib.parseUint10 a l = .ok (Nm.val a l)
  | [], a, _ => .inr rfl
  | c :: l, a, hd => by
    have hc := hd c (by simp)
    rw [Nm.val_cons, Lib.parseUint10, if_pos hc]
    split
    · exact .inl rfl
    · split
      · exact .inl rfl
      · exact parse_any l _ fun c hc => hd c (by simp [hc])
theorem parse_digits {l : List UInt8} (hn : l ≠ []) (hd : ∀ c ∈ l, 48 ≤ c.toNat ∧ c.toNat ≤ 57) :
    Lib.parseIntB 64 l = if Nm.val 0 l > 9223372036854775807 then .range else .ok (Nm.val 0 l : Int) := by
  rw [Lib.parseIntB_64]
  have hm : Lib.parseMag l = Lib.parseUint10 0 l := by unfold Lib.parseMag; rw [if_neg hn]
  obtain ⟨c, r, rfl⟩ := List.exists_cons_of_ne_nil hn
  have hc := hd c (by simp)
  rw [Lib.atoiAll_plain c r (by omega) (by omega), hm]
  by_cases h : Nm.val 0 (c :: r) > 9223372036854775807
  · rw [if_pos h]
    rcases parse_any (c :: r) 0 hd with hp | hp
    · rw [hp]; rfl
    · rw [hp]
      simp only [Lib.signless]
      rw [if_pos (by omega)]
  · rw [if_neg h, Nm.parse_val (c :: r) 0 hd (by omega)]
    simp only [Lib.signless]
    rw [if_neg (by omega)]
theorem takeWhile_all (p : UInt8 → Bool) : ∀ l : List UInt8, ∀ c ∈ l.takeWhile p, p c = true
  | [], c, h => by cases h
  | d :: l, c, h => by
    rw [List.takeWhile_cons] at h
    split at h
    · rename_i hd
      rcases List.mem_cons.1 h with rfl | h
      · exact hd
      · exact takeWhile_all p l c h
    · cases h
end Tk

theorem parse_ok {l : List UInt8} (hn : l ≠ []) (hd : ∀ c ∈ l, Tk.digit c = true) (h : ¬ Nm.val 0 l > 9223372036854775807) (hl : l.length ≤ 20000) (w : World) :
    Calls Tryd.prog 47 #[.string ⟨l.toArray⟩, .int .i64 10, .int .i64 64] w fun e w' => e = .returned (.tuple #[.int .i64 (Nm.val 0 l : Int), .nilIface]) ∧ Below w.heap.size w w' := by
  refine (Tryd.strconv_ParseInt_10_at64_ok ⟨l.toArray⟩ (by rw [size_mk]; omega) (Nm.val 0 l : Int) ?_ w).mono ?_
  · show Lib.parseIntB 64 l = _
    rw [Tk.parse_digits hn (fun c hc => (Tk.dig_iff c).1 (hd c hc)), if_neg h]
  · rintro e w' ⟨rfl, rfl | ⟨t, rfl⟩⟩
    · exact ⟨rfl, Below.refl _ _⟩
    · exact ⟨rfl, Joins.below_bytesWorld _ _ _ _ (Nat.le_refl _)⟩
theorem parse_big {l : List UInt8} (hn : l ≠ []) (hd : ∀ c ∈ l, Tk.digit c = true) (h : Nm.val 0 l > 9223372036854775807) (hl : l.length ≤ 20000) (w : World) (hG : Good w) :
    Calls Tryd.prog 47 #[.string ⟨l.toArray⟩, .int .i64 10, .int .i64 64] w fun e w' => (∃ v t p, e = .returned (.tuple #[.int .i64 v, .iface t p])) ∧ Below w.heap.size w w' := by
  obtain ⟨tp, p, hv⟩ := hG.rng
  refine (Tryd.strconv_ParseInt_10_at64_range_var ⟨l.toArray⟩ (by rw [size_mk]; omega) ?_ tp p w hv).mono ?_
  · show Lib.parseIntB 64 l = _
    rw [Tk.parse_digits hn (fun c hc => (Tk.dig_iff c).1 (hd c hc)), if_pos h]
  · rintro e w' ⟨N, rfl, _, _, hb⟩
    exact ⟨⟨_, _, _, rfl⟩, hb⟩
end Go.Proofs.YtodcgdiejmdaaaaDoor
