/-
  The reference's decimal, by its contract.
-/
import Derived.Test.YtodcgdiejmdaaaaDoorTEq
import Derived.Test.YtodcgdiejmdaaaaDoorNRun
import Derived.Test.YtodcgdiejmdaaaaDoorTSpan
import Derived.Test.YtodcgdiejmdaaaaDoorTQPlain
import Derived.Test.YtodcgdiejmdaaaaDoorTAsc
namespace Go.Proofs.YtodcgdiejmdaaaaDoor
open Go.RowKit

theorem tdiv_pos (m : Nat) : Int.tdiv (m : Int) 10 = ((m / 10 : Nat) : Int) := rfl
theorem tmod_pos (m : Nat) : Int.tmod (m : Int) 10 = ((m % 10 : Nat) : Int) := rfl
theorem dig_str : ∀ d : Nat, d < 10 → (⟨#[48, 49, 50, 51, 52, 53, 54, 55, 56, 57]⟩ : ByteArray).extract d (d + 1) = byS [UInt8.ofNat (48 + d)] := by decide
theorem cat_by (a b : List UInt8) : byS a ++ byS b = byS (a ++ b) := by
  apply ByteArray.ext
  simp [byS, ByteArray.data_append]
theorem minus_str : (⟨#[45]⟩ : ByteArray) = byS [45] := rfl

/-- The loop of decimal: u is what is spelled, x what is left, acc what was written. -/
def DecRel (u : Nat) (neg : Bool) (vs vm : Value) : Prop :=
  ∃ (x : Nat) (acc : List UInt8), vs = .string (byS acc) ∧ vm = .int .i64 (if neg then -(x : Int) else (x : Int)) ∧ Hid (Lib.decDigits u = Lib.decDigits x ++ acc) ∧ x ≤ 9223372036854775808 ∧ acc.length ≤ 20 ∧ (neg = false → x ≤ 9223372036854775807)

set_option maxRecDepth 100000 in
set_option maxHeartbeats 4000000 in
theorem rdec07_any (n : Int) (w : World) (h0 : -9223372036854775808 ≤ n) (h1 : n ≤ 9223372036854775807) :
    Calls Tryd.prog 28 #[.int .i64 n] w fun e w' => e = .returned (.string (byS (Lib.itoa n))) ∧ w = w' := by
  have hlen : (Lib.decDigits n.natAbs).length ≤ 19 := Nm.dec_len 18 n.natAbs (by omega)
  by_cases hn : n < 0
  · obtain ⟨u, hu⟩ : ∃ u : Nat, u = n.natAbs := ⟨_, rfl⟩
    have hnu : n = -(u : Int) := by omega
    have HI : Hid (Lib.itoa n = 45 :: Lib.decDigits u) := by show _ = _; unfold Lib.itoa; rw [if_pos hn, hu]
    rw [← hu] at hlen
    have HL := hid hlen
    generalize Lib.itoa n = res at *
    clear hu hlen
    subst hnu
    have hu1 : 1 ≤ u := by omega
    have hu2 : u ≤ 9223372036854775808 := by omega
    clear h0 h1
    go_enter Tryd.func28, Tryd.ntmps28
    go_wp2_with fail
    go_loop [3, 4] (fun vs vm => DecRel u true vs vm) (fun _ vm => (intOf vm).natAbs)
    case atStart => exact ⟨u, [], rfl, rfl, by simp [Hid], hu2, by simp, by simp⟩
    case round =>
      obtain ⟨x, acc, rfl, rfl, hd, hx, hal, _⟩ := hrel
      have hal2 : acc.length ≤ 19 := by
        have := congrArg List.length hd.out
        rw [List.length_append] at this
        have := HL.out
        omega
      simp only [if_true]
      have e1 := tdiv_neg x
      have e2 := tmod_neg x
      have hds := dig_str (x % 10) (Nat.mod_lt _ (by omega))
      have hcat := cat_by [UInt8.ofNat (48 + x % 10)] acc
      have hs1 : (byS [UInt8.ofNat (48 + x % 10)]).size = 1 := rfl
      have hs2 : (byS acc).size = acc.length := byS_size _
      have hs3 : (byS (UInt8.ofNat (48 + x % 10) :: acc)).size = acc.length + 1 := by rw [byS_size]; simp
      obtain ⟨d, hdd⟩ : ∃ d, d = x % 10 := ⟨_, rfl⟩
      obtain ⟨q, hq⟩ : ∃ q, q = x / 10 := ⟨_, rfl⟩
      rw [← hdd] at e2 hds hcat hs1 hs3
      rw [← hq] at e1
      have hd10 : d < 10 := by omega
      have HDa : Hid (q = 0 → Lib.decDigits u = [UInt8.ofNat (48 + d)] ++ acc) := fun h => by
        rw [hd.out, Nm.dec_small (by omega), hdd, Nat.mod_eq_of_lt (by omega)]
      have HDb : Hid (q ≠ 0 → Lib.decDigits u = Lib.decDigits q ++ ([UInt8.ofNat (48 + d)] ++ acc)) := fun h => by
        rw [hd.out, Nm.dec_big (by omega), hdd, hq, List.append_assoc]
      have hqx : q = 0 ∨ q < x := by omega
      have hq9 : q ≤ 9223372036854775807 := by omega
      have hxx : x ≤ 9223372036854775808 := hx
      have HQX := hid hqx
      have hxn : Hid ((intOf (.int .i64 (-(x : Int)))).natAbs = x) := by show _ = _; simp [intOf]
      clear hdd hq hd hqx
      generalize UInt8.ofNat (48 + d) = cc at *
      have htd : ((d : Int)).toNat = d := by omega
      have htd1 : ((d : Int) + 1).toNat = d + 1 := by omega
      by_cases hq0 : q = 0
      · have HD3 := hid (HDa.out hq0)
        have hq0' : ((q : Int) == 0) = true := by simp; omega
        have hqn : (-(q : Int) == 0) = true := by simp; omega
        clear HDa HDb
        rcases (by omega : 0 < d ∨ d = 0) with hdz | hdz
        · have hdz' : -(d : Int) < 0 := by omega
          go_wp2_with fail
          go_ret
          exact ⟨congrArg (fun z => Ending.returned (Value.string z)) (by rw [HI.out, HD3.out]; exact cat_by [45] _), rfl⟩
        · subst hdz
          go_wp2_with fail
          go_ret
          exact ⟨congrArg (fun z => Ending.returned (Value.string z)) (by rw [HI.out, HD3.out]; exact cat_by [45] _), rfl⟩
      · have HD3 := hid (HDb.out hq0)
        have hq0' : ((q : Int) == 0) = false := by simp; omega
        have hqn : (-(q : Int) == 0) = false := by simp; omega
        have hqx' : q < x := by have := HQX.out; omega
        clear HDa HDb
        rcases (by omega : 0 < d ∨ d = 0) with hdz | hdz
        · have hdz' : -(d : Int) < 0 := by omega
          go_wp2_with fail
          refine ⟨⟨q, cc :: acc, rfl, rfl, by rw [HD3.out]; rfl, by omega, by simp; omega, by simp⟩, ?_⟩
          simp [intOf]; omega
        · subst hdz
          go_wp2_with fail
          refine ⟨⟨q, cc :: acc, rfl, rfl, by rw [HD3.out]; rfl, by omega, by simp; omega, by simp⟩, ?_⟩
          simp [intOf]; omega
  · obtain ⟨u, hu⟩ : ∃ u : Nat, u = n.natAbs := ⟨_, rfl⟩
    have hnu : n = (u : Int) := by omega
    have HI : Hid (Lib.itoa n = Lib.decDigits u) := by show _ = _; unfold Lib.itoa; rw [if_neg hn, hnu]; rfl
    rw [← hu] at hlen
    have HL := hid hlen
    generalize Lib.itoa n = res at *
    clear hu hlen
    subst hnu
    have hu2 : u ≤ 9223372036854775807 := by omega
    clear h0 h1
    go_enter Tryd.func28, Tryd.ntmps28
    go_wp2_with fail
    go_loop [3, 4] (fun vs vm => DecRel u false vs vm) (fun _ vm => (intOf vm).natAbs)
    case atStart => exact ⟨u, [], rfl, rfl, by simp [Hid], by omega, by simp, fun _ => hu2⟩
    case round =>
      obtain ⟨x, acc, rfl, rfl, hd, _, hal, hx0⟩ := hrel
      have hx := hx0 rfl
      have hal2 : acc.length ≤ 19 := by
        have := congrArg List.length hd.out
        rw [List.length_append] at this
        have := HL.out
        omega
      simp only [Bool.false_eq_true, if_false]
      have e1 := tdiv_pos x
      have e2 := tmod_pos x
      have e3 : (x : Int) / 10 = ((x / 10 : Nat) : Int) := by omega
      have e4 : (x : Int) % 10 = ((x % 10 : Nat) : Int) := by omega
      have hds := dig_str (x % 10) (Nat.mod_lt _ (by omega))
      have hcat := cat_by [UInt8.ofNat (48 + x % 10)] acc
      have hs1 : (byS [UInt8.ofNat (48 + x % 10)]).size = 1 := rfl
      have hs2 : (byS acc).size = acc.length := byS_size _
      have hs3 : (byS (UInt8.ofNat (48 + x % 10) :: acc)).size = acc.length + 1 := by rw [byS_size]; simp
      obtain ⟨d, hdd⟩ : ∃ d, d = x % 10 := ⟨_, rfl⟩
      obtain ⟨q, hq⟩ : ∃ q, q = x / 10 := ⟨_, rfl⟩
      rw [← hdd] at e2 e4 hds hcat hs1 hs3
      rw [← hq] at e1 e3
      have hd10 : d < 10 := by omega
      have HDa : Hid (q = 0 → Lib.decDigits u = [UInt8.ofNat (48 + d)] ++ acc) := fun h => by
        rw [hd.out, Nm.dec_small (by omega), hdd, Nat.mod_eq_of_lt (by omega)]
      have HDb : Hid (q ≠ 0 → Lib.decDigits u = Lib.decDigits q ++ ([UInt8.ofNat (48 + d)] ++ acc)) := fun h => by
        rw [hd.out, Nm.dec_big (by omega), hdd, hq, List.append_assoc]
      have hqx : q = 0 ∨ q < x := by omega
      have hq9 : q ≤ 9223372036854775807 := by omega
      have HQX := hid hqx
      clear hdd hq hd hqx hx0
      generalize UInt8.ofNat (48 + d) = cc at *
      have htd : ((d : Int)).toNat = d := by omega
      have htd1 : ((d : Int) + 1).toNat = d + 1 := by omega
      by_cases hq0 : q = 0
      · have HD3 := hid (HDa.out hq0)
        have hq0' : ((q : Int) == 0) = true := by simp; omega
        clear HDa HDb
        go_wp2_with fail
        go_ret
        exact ⟨congrArg (fun z => Ending.returned (Value.string z)) (by rw [HI.out, HD3.out]; rfl), rfl⟩
      · have HD3 := hid (HDb.out hq0)
        have hq0' : ((q : Int) == 0) = false := by simp; omega
        have hqx' : q < x := by have := HQX.out; omega
        clear HDa HDb
        go_wp2_with fail
        refine ⟨⟨q, cc :: acc, rfl, rfl, by rw [HD3.out]; rfl, by omega, by simp; omega, by intro; omega⟩, ?_⟩
        simp [intOf]; omega
end Go.Proofs.YtodcgdiejmdaaaaDoor
