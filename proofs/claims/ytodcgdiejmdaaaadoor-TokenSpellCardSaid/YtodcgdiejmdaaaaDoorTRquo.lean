/-
  The reference's Quote, by its contract.
-/
import Derived.Test.YtodcgdiejmdaaaaDoorTQuot2
import Derived.Test.YtodcgdiejmdaaaaDoorTRdec
namespace Go.Proofs.YtodcgdiejmdaaaaDoor
open Go.RowKit

theorem one_str (s : ByteArray) (i : Nat) (h : i < s.size) : s.extract i (i + 1) = byS [s[i]] := by
  rw [extract_mk, show i + 1 - i = 1 by omega]
  have : s.data.toList.drop i = s[i] :: s.data.toList.drop (i + 1) := List.drop_eq_getElem_cons h
  rw [this]; rfl
theorem hex_str : ∀ d : Nat, d < 16 → (⟨#[48, 49, 50, 51, 52, 53, 54, 55, 56, 57, 97, 98, 99, 100, 101, 102]⟩ : ByteArray).extract d (d + 1) = byS [Tk.hexd d] := by decide
theorem cat_c (a b : List UInt8) (x : ByteArray) (h : x = byS b) : byS a ++ x = byS (a ++ b) := by rw [h]; exact cat_by a b

/-- The loop of the reference's Quote. -/
def RqRel (s : ByteArray) (v vi : Value) : Prop :=
  ∃ (k : Nat) (acc : List UInt8), k ≤ s.size ∧ vi = .int .i64 (k : Int) ∧ v = .string (byS acc) ∧ Hid (acc = 34 :: (s.data.toList.take k).flatMap Tk.qc) ∧ acc.length ≤ 1 + 4 * k

set_option maxRecDepth 100000 in
set_option maxHeartbeats 4000000 in
theorem rquote_any (s : ByteArray) (w : World) (hs : s.size ≤ 100000000) :
    Calls Tryd.prog 19 #[.string s] w fun e w' => e = .returned (.string (byS (Tk.quote s.data.toList))) ∧ ∃ q, w' = w.drewN q := by
  have hlen : s.data.toList.length = s.size := by simp
  have H0 : Hid (Value.string ⟨#[34]⟩ = .string (byS [34])) := rfl
  go_enter Tryd.func19, Tryd.ntmps19
  go_wp2_with fail
  go_loopw [4, 5] (fun v4 v5 wr => RqRel s v4 v5 ∧ ∃ q, wr = w.drewN q) (fun _ v5 _ => s.size - (intOf v5).toNat)
  case atStart => exact ⟨⟨0, [34], Nat.zero_le _, rfl, rfl, rfl, by simp⟩, 0, rfl⟩
  case round =>
    obtain ⟨⟨k, acc, hk, rfl, rfl, hacc, hal⟩, q, rfl⟩ := hrel
    have hsa : (byS acc).size = acc.length := byS_size _
    by_cases hlt : k < s.size
    · have hcn := (s[k]).toNat_lt
      have HST : Hid (34 :: (s.data.toList.take (k + 1)).flatMap Tk.qc = acc ++ Tk.qc s[k]) := by
        show _ = _
        rw [Tk.take_step (l := s.data.toList) (k := k) (by rw [hlen]; exact hlt), hacc.out]; rfl
      have hone := one_str s k hlt
      have HT : Hid (Tk.qc s[k] = if s[k].toNat = 34 ∨ s[k].toNat = 92 then [92, s[k]] else if s[k].toNat = 10 then [92, 110] else if s[k].toNat = 9 then [92, 116]
        else if s[k].toNat < 32 ∨ s[k].toNat > 126 then [92, 120, Tk.hexd (s[k].toNat / 16), Tk.hexd (s[k].toNat % 16)] else [s[k]]) := rfl
      have hqn := Tk.qc_len s[k]
      have c92 := cat_c acc [92] ⟨#[92]⟩ rfl
      have s92 : (⟨#[92]⟩ : ByteArray).size = 1 := rfl
      have hk0 : 0 ≤ (k : Int) := by omega
      have hk1 : (k : Int) ≤ (k : Int) + 1 := by omega
      have hk2 : (k : Int) + 1 ≤ (s.size : Int) := by omega
      have htk : ((k : Int) + 1).toNat = k + 1 := by omega
      have s1 : (byS [s[k]]).size = 1 := rfl
      have s2 : (byS (acc ++ [92])).size = acc.length + 1 := by rw [byS_size]; simp
      have c2 := cat_by (acc ++ [92]) [s[k]]
      by_cases h34 : s[k].toNat = 34 ∨ s[k].toNat = 92
      · rw [if_pos h34] at HT
        rw [HT.out] at HST
        rcases (by omega : s[k].toNat = 34 ∨ (¬ s[k].toNat = 34 ∧ s[k].toNat = 92)) with j | ⟨j1, j2⟩
        · have b1 : ((s[k].toNat : Int) == 34) = true := by simp; omega
          clear j h34
          go_wp2_with fail
          refine ⟨⟨⟨k + 1, acc ++ [92, s[k]], by omega, by go_num, by simp, HST.out.symm, by simp; omega⟩, q, rfl⟩, ?_⟩
          simp [intOf]; omega
        · have b1 : ((s[k].toNat : Int) == 34) = false := by simp; omega
          have b2 : ((s[k].toNat : Int) == 92) = true := by simp; omega
          clear j1 j2 h34
          go_wp2_with fail
          refine ⟨⟨⟨k + 1, acc ++ [92, s[k]], by omega, by go_num, by simp, HST.out.symm, by simp; omega⟩, q, rfl⟩, ?_⟩
          simp [intOf]; omega
      rw [if_neg h34] at HT
      have b1 : ((s[k].toNat : Int) == 34) = false := by simp; omega
      have b2 : ((s[k].toNat : Int) == 92) = false := by simp; omega
      clear h34
      by_cases h10 : s[k].toNat = 10
      · rw [if_pos h10] at HT
        rw [HT.out] at HST
        have b3 : ((s[k].toNat : Int) == 10) = true := by simp; omega
        have cn := cat_c acc [92, 110] ⟨#[92, 110]⟩ rfl
        have sn : (⟨#[92, 110]⟩ : ByteArray).size = 2 := rfl
        clear h10
        go_wp2_with fail
        refine ⟨⟨⟨k + 1, acc ++ [92, 110], by omega, by go_num, by simp, HST.out.symm, by simp; omega⟩, q, rfl⟩, ?_⟩
        simp [intOf]; omega
      rw [if_neg h10] at HT
      have b3 : ((s[k].toNat : Int) == 10) = false := by simp; omega
      clear h10
      by_cases h9 : s[k].toNat = 9
      · rw [if_pos h9] at HT
        rw [HT.out] at HST
        have b4 : ((s[k].toNat : Int) == 9) = true := by simp; omega
        have cn := cat_c acc [92, 116] ⟨#[92, 116]⟩ rfl
        have sn : (⟨#[92, 116]⟩ : ByteArray).size = 2 := rfl
        clear h9
        go_wp2_with fail
        refine ⟨⟨⟨k + 1, acc ++ [92, 116], by omega, by go_num, by simp, HST.out.symm, by simp; omega⟩, q, rfl⟩, ?_⟩
        simp [intOf]; omega
      rw [if_neg h9] at HT
      have b4 : ((s[k].toNat : Int) == 9) = false := by simp; omega
      clear h9
      by_cases hr : s[k].toNat < 32 ∨ s[k].toNat > 126
      · rw [if_pos hr] at HT
        rw [HT.out] at HST
        have hg := hex_str (s[k].toNat / 16) (by omega)
        have hh := hex_str (s[k].toNat % 16) (by omega)
        have hw1 : IntKind.u8.wrap ((s[k].toNat : Int) / 16) = (s[k].toNat : Int) / 16 := by unfold IntKind.wrap; simp [IntKind.bits, IntKind.signed]; omega
        have hw2 : IntKind.u8.wrap ((s[k].toNat : Int) % 16) = (s[k].toNat : Int) % 16 := by unfold IntKind.wrap; simp [IntKind.bits, IntKind.signed]; omega
        have hw3 : IntKind.u8.wrap ((s[k].toNat : Int) / 16 + 1) = (s[k].toNat : Int) / 16 + 1 := by unfold IntKind.wrap; simp [IntKind.bits, IntKind.signed]; omega
        have hw4 : IntKind.u8.wrap ((s[k].toNat : Int) % 16 + 1) = (s[k].toNat : Int) % 16 + 1 := by unfold IntKind.wrap; simp [IntKind.bits, IntKind.signed]; omega
        have htm : (s[k].toNat : Int).tmod 16 = (s[k].toNat : Int) % 16 := rfl
        have htd : (s[k].toNat : Int).tdiv 16 = (s[k].toNat : Int) / 16 := rfl
        have ht1 : ((s[k].toNat : Int) / 16).toNat = s[k].toNat / 16 := by omega
        have ht2 : ((s[k].toNat : Int) % 16).toNat = s[k].toNat % 16 := by omega
        have ht3 : ((s[k].toNat : Int) / 16 + 1).toNat = s[k].toNat / 16 + 1 := by omega
        have ht4 : ((s[k].toNat : Int) % 16 + 1).toNat = s[k].toNat % 16 + 1 := by omega
        have hq0 : 0 ≤ (s[k].toNat : Int) / 16 := by omega
        have hq1 : (s[k].toNat : Int) / 16 + 1 ≤ 16 := by omega
        have hq2 : 0 ≤ (s[k].toNat : Int) % 16 := by omega
        have hq3 : (s[k].toNat : Int) % 16 + 1 ≤ 16 := by omega
        generalize Tk.hexd (s[k].toNat / 16) = g1 at *
        generalize Tk.hexd (s[k].toNat % 16) = g2 at *
        have cx := cat_c acc [92, 120] ⟨#[92, 120]⟩ rfl
        have sx : (⟨#[92, 120]⟩ : ByteArray).size = 2 := rfl
        have sx2 : (byS (acc ++ [92, 120])).size = acc.length + 2 := by rw [byS_size]; simp
        have sg1 : (byS [g1]).size = 1 := rfl
        have sg2 : (byS [g2]).size = 1 := rfl
        have cg1 : byS (acc ++ [92, 120]) ++ byS [g1] = byS (acc ++ [92, 120, g1]) := by rw [cat_by]; simp
        have cg2 : byS (acc ++ [92, 120, g1]) ++ byS [g2] = byS (acc ++ [92, 120, g1, g2]) := by rw [cat_by]; simp
        have sx3 : (byS (acc ++ [92, 120, g1])).size = acc.length + 3 := by rw [byS_size]; simp
        rcases (by omega : ¬ (32 : Int) ≤ (s[k].toNat : Int) ∨ ((32 : Int) ≤ (s[k].toNat : Int) ∧ ¬ (s[k].toNat : Int) ≤ 126)) with j1 | ⟨j1, j2⟩
        · clear hr
          go_wp2_with fail
          go_quiet (fail)
          go_wp2_with fail
          refine ⟨⟨⟨k + 1, acc ++ [92, 120, g1, g2], by omega, by go_num, by simp, HST.out.symm, by simp; omega⟩, _, rfl⟩, ?_⟩
          simp [intOf]; omega
        · clear hr
          go_wp2_with fail
          go_quiet (fail)
          go_wp2_with fail
          refine ⟨⟨⟨k + 1, acc ++ [92, 120, g1, g2], by omega, by go_num, by simp, HST.out.symm, by simp; omega⟩, _, rfl⟩, ?_⟩
          simp [intOf]; omega
      · rw [if_neg hr] at HT
        rw [HT.out] at HST
        have j1 : (32 : Int) ≤ (s[k].toNat : Int) := by omega
        have j2 : (s[k].toNat : Int) ≤ 126 := by omega
        have c1 := cat_by acc [s[k]]
        clear hr
        go_wp2_with fail
        refine ⟨⟨⟨k + 1, acc ++ [s[k]], by omega, by go_num, by simp, HST.out.symm, by simp; omega⟩, q, rfl⟩, ?_⟩
        simp [intOf]; omega
    · have hk2 : k = s.size := by omega
      have HQ : Hid (Tk.quote s.data.toList = acc ++ [34]) := by
        show _ = _
        rw [hacc.out, hk2, List.take_of_length_le (by rw [hlen]; exact Nat.le_refl _)]; rfl
      have c34 := cat_c acc [34] ⟨#[34]⟩ rfl
      have s34 : (⟨#[34]⟩ : ByteArray).size = 1 := rfl
      clear hk2
      go_wp2_with fail
      go_ret
      exact ⟨by rw [HQ.out]; rfl, q, rfl⟩
end Go.Proofs.YtodcgdiejmdaaaaDoor
