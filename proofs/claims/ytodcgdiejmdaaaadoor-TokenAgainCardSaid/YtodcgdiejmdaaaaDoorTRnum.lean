/-
  The reference's number, by its contract.
-/
import Derived.Test.YtodcgdiejmdaaaaDoorTRlet
import Derived.Test.YtodcgdiejmdaaaaDoorTNum
namespace Go.Proofs.YtodcgdiejmdaaaaDoor
open Go.RowKit
namespace Tk

theorem tw_get (p : UInt8 → Bool) : ∀ (l : List UInt8) (k : Nat) (h : k < l.length), k < (l.takeWhile p).length → p l[k] = true
  | [], k, h, _ => by simp at h
  | c :: l, k, h, hk => by
    rw [List.takeWhile_cons] at hk
    split at hk
    · rename_i hc
      cases k with
      | zero => exact hc
      | succ k => exact tw_get p l k (by simpa using h) (by simpa using hk)
    · simp at hk
theorem tw_end (p : UInt8 → Bool) : ∀ (l : List UInt8) (h : (l.takeWhile p).length < l.length), p l[(l.takeWhile p).length] = false
  | [], h => by simp at h
  | c :: l, h => by
    by_cases hc : p c = true
    · have hl : ((c :: l).takeWhile p).length = (l.takeWhile p).length + 1 := by rw [List.takeWhile_cons, if_pos hc]; simp
      have := tw_end p l (by rw [hl] at h; simpa using h)
      simp only [hl]
      simpa using this
    · have hl : ((c :: l).takeWhile p).length = 0 := by rw [List.takeWhile_cons, if_neg hc]; rfl
      simp only [hl]
      simpa using hc
theorem tw_len (p : UInt8 → Bool) (l : List UInt8) : (l.takeWhile p).length ≤ l.length := List.Sublist.length_le (List.takeWhile_sublist _)
theorem tw_take (p : UInt8 → Bool) (l : List UInt8) : l.takeWhile p = l.take (l.takeWhile p).length := by
  have h := takeWhile_take p l
  have h1 := List.takeWhile_append_dropWhile (p := p) (l := l)
  have h2 := congrArg List.length h1
  rw [List.length_append] at h2
  rw [show (l.takeWhile p).length = l.length - (l.dropWhile p).length by omega]
  exact h.symm
theorem tw_drop (p : UInt8 → Bool) (l : List UInt8) : l.dropWhile p = l.drop (l.takeWhile p).length := by
  have h1 := List.takeWhile_append_dropWhile (p := p) (l := l)
  have : (l.takeWhile p ++ l.dropWhile p).drop (l.takeWhile p).length = l.dropWhile p := List.drop_left
  rw [h1] at this
  exact this.symm
theorem hd_drop (l : List UInt8) (k : Nat) : (l.drop k).headD 0 = l.getD k 0 := by
  rw [List.headD_eq_head?_getD, List.head?_drop, List.getD_eq_getElem?_getD]
theorem val_take {d : List UInt8} {i : Nat} (h : i < d.length) : Nm.val 0 (d.take (i + 1)) = Nm.val 0 (d.take i) * 10 + (d[i].toNat - 48) := by
  rw [List.take_succ_eq_append_getElem h, Nm.val_snoc]
theorem val_app (a : Nat) (l r : List UInt8) : Nm.val a (l ++ r) = Nm.val (Nm.val a l) r := by simp [Nm.val]
theorem val_mono (d : List UInt8) (i : Nat) : Nm.val 0 (d.take i) ≤ Nm.val 0 d := by
  conv => rhs; rw [← List.take_append_drop i d, val_app]
  exact Nm.val_ge _ _
end Tk

/-- What number leaves. -/
def numV (N : Nat) (r : Tk.TR) : Value := match r with
  | .bad c => .tuple #[.int .i64 0, .int .i64 0, .int .i64 c]
  | .good _ _ n l => .tuple #[.int .i64 n, .int .i64 ((N : Int) - l.length), .int .i64 0]

set_option maxRecDepth 100000 in
set_option maxHeartbeats 4000000 in
theorem rnumber_any (s : ByteArray) (w : World) (h0 : 0 < s.size) (hs : s.size ≤ 16384) (hdg : Tk.digit s[0] = true) :
    Calls Tryd.prog 39 #[.string s] w fun e w' => e = .returned (numV s.size (Tk.num s.data.toList)) ∧ w = w' := by
  have hlen : s.data.toList.length = s.size := by simp
  have HD := hid (fun (k : Nat) (h : k < s.size) W => rdigit_any s[k] W)
  have HLt := hid (fun (k : Nat) (h : k < s.size) W => rletter_any s[k] W)
  have hgl : Hid (∀ (k : Nat) (h : k < s.size), s.data.toList[k]'(by rw [hlen]; exact h) = s[k]) := fun k h => rfl
  obtain ⟨D, hD⟩ : ∃ D, D = (s.data.toList.takeWhile Tk.digit).length := ⟨_, rfl⟩
  have hDn : D ≤ s.size := by rw [hD, ← hlen]; exact Tk.tw_len _ _
  have hD1 : Hid (∀ (k : Nat) (h : k < s.size), k < D → Tk.digit s[k] = true) := fun k h hk => by
    rw [← hgl.out k h]; exact Tk.tw_get _ _ k (by rw [hlen]; exact h) (by rw [← hD]; exact hk)
  have hD2 : Hid (∀ (h : D < s.size), Tk.digit s[D] = false) := fun h => by
    subst hD
    rw [← hgl.out _ h]
    exact Tk.tw_end Tk.digit s.data.toList (by rw [hlen]; exact h)
  have hDpos : 0 < D := by
    rcases Nat.eq_zero_or_pos D with h | h
    · exfalso
      have h1 := hD2.out
      subst h
      have h2 := h1 h0
      rw [hdg] at h2; cases h2
    · exact h
  have HT : Hid (Tk.num s.data.toList = if (D > 1 ∧ s[0].toNat = 48) ∨ Tk.letter (s.data.toList.getD D 0) = true then .bad 3
    else if Nm.val 0 (s.data.toList.take D) > 9223372036854775807 then .bad 14 else .good 3 [] (Nm.val 0 (s.data.toList.take D) : Int) (s.data.toList.drop D)) := by
    show _ = _
    unfold Tk.num
    simp only []
    rw [Tk.tw_take Tk.digit s.data.toList, Tk.tw_drop Tk.digit s.data.toList, ← hD, Tk.hd_drop]
    have e1 : (s.data.toList.take D).length = D := by rw [List.length_take, hlen]; omega
    have e2 : s.data.toList.headD 0 = s[0] := by
      have := Tk.hd_drop s.data.toList 0
      rw [List.drop_zero] at this
      rw [this, List.getD_eq_getElem?_getD, List.getElem?_eq_getElem (by rw [hlen]; exact h0)]
      rfl
    rw [e1, e2]
  have hgD : Hid (∀ (h : D < s.size), s.data.toList.getD D 0 = s[D]) := fun h => by
    rw [List.getD_eq_getElem?_getD, List.getElem?_eq_getElem (by rw [hlen]; exact h)]; rfl
  have hgE : Hid (D = s.size → s.data.toList.getD D 0 = 0) := fun h => by
    rw [List.getD_eq_getElem?_getD, List.getElem?_eq_none (by rw [hlen]; omega)]; rfl
  have hdl : Hid ((s.data.toList.drop D).length = s.size - D) := by show _ = _; rw [List.length_drop, hlen]
  generalize Tk.num s.data.toList = R at *
  clear hdg hD
  go_enter Tryd.func39, Tryd.ntmps39
  go_wp2_with fail
  go_loop [5] (fun v5 => ∃ k : Nat, k ≤ D ∧ v5 = .int .i64 (k : Int)) (fun v5 => D - (intOf v5).toNat)
  case atStart => exact ⟨0, Nat.zero_le _, rfl⟩
  case round =>
    obtain ⟨k, hk, rfl⟩ := hrel
    by_cases hlt : k < D
    · have hks : k < s.size := by omega
      have C := hid (HD.out k hks)
      rw [hD1.out k hks hlt] at C
      go_wp2_with (go_at_call 38; refine (C.out _).mono ?_; rintro e w' ⟨rfl, rfl⟩)
      refine ⟨⟨k + 1, by omega, by go_num⟩, ?_⟩
      simp [intOf]; omega
    · have hkD : k = D := by omega
      subst hkD
      rcases (by omega : k < s.size ∨ k = s.size) with hx | hx
      · have CD := hid (HD.out k hx)
        rw [hD2.out hx] at CD
        have CL := hid (HLt.out k hx)
        have hgk := hgD.out hx
        rw [hgk] at HT
        have hx' : (k : Int) < (s.size : Int) := by omega
        by_cases hz : 1 < k ∧ s[0].toNat = 48
        · have j1 : (1 : Int) < (k : Int) := by omega
          have j2 : (s[0].toNat : Int) = 48 := by omega
          have HT2 : Hid (R = .bad 3) := by show _ = _; rw [HT.out, if_pos (.inl ⟨hz.1, hz.2⟩)]
          go_wp2_with (go_at_call 38; refine (CD.out _).mono ?_; rintro e w' ⟨rfl, rfl⟩)
          go_ret3
          rw [HT2.out]
          exact ⟨rfl, rfl⟩
        · rcases (by omega : ¬ 1 < k ∨ (1 < k ∧ ¬ s[0].toNat = 48)) with j1 | ⟨j1, j2⟩
          · have j3 : ¬ (1 : Int) < (k : Int) := by omega
            cases hlx : Tk.letter s[k] with
            | true =>
              rw [hlx] at CL HT
              have HT2 : Hid (R = .bad 3) := by show _ = _; rw [HT.out, if_pos (.inr rfl)]
              go_wp2_with (first | (go_at_call 38; refine (CD.out _).mono ?_; rintro e w' ⟨rfl, rfl⟩) | (go_at_call 37; refine (CL.out _).mono ?_; rintro e w' ⟨rfl, rfl⟩))
              go_ret3
              rw [HT2.out]
              exact ⟨rfl, rfl⟩
            | false =>
              rw [hlx] at CL HT
              have HT2 : Hid (R = if Nm.val 0 (s.data.toList.take k) > 9223372036854775807 then .bad 14 else .good 3 [] (Nm.val 0 (s.data.toList.take k) : Int) (s.data.toList.drop k)) := by show _ = _; rw [HT.out, if_neg (fun h => h.elim (fun h => hz ⟨h.1, h.2⟩) (fun h => by cases h))]
              go_wp2_with (first | (go_at_call 38; refine (CD.out _).mono ?_; rintro e w' ⟨rfl, rfl⟩) | (go_at_call 37; refine (CL.out _).mono ?_; rintro e w' ⟨rfl, rfl⟩))
              go_loop [6, 7] (fun v6 v7 => ∃ i x : Nat, i ≤ k ∧ v7 = .int .i64 (i : Int) ∧ v6 = .int .i64 (x : Int) ∧ Hid (x = Nm.val 0 (s.data.toList.take i)) ∧ x ≤ 9223372036854775807) (fun _ v7 => k - (intOf v7).toNat)
              case atStart => exact ⟨0, 0, Nat.zero_le _, rfl, rfl, rfl, by omega⟩
              case round =>
                obtain ⟨i, x, hi, rfl, rfl, hxv, hxm⟩ := hrel
                by_cases hlti : i < k
                · have hiS : i < s.size := by omega
                  have hdi := (Tk.dig_iff _).1 (hD1.out i hiS hlti)
                  have hst := Tk.val_take (d := s.data.toList) (i := i) (by rw [hlen]; exact hiS)
                  rw [hgl.out i hiS, ← hxv.out] at hst
                  have HST := hid hst
                  have HMO : Hid (Nm.val 0 (s.data.toList.take (i + 1)) ≤ Nm.val 0 (s.data.toList.take k)) := by
                    have := Tk.val_mono (s.data.toList.take k) (i + 1)
                    rw [List.take_take, Nat.min_eq_left (by omega)] at this
                    exact this
                  obtain ⟨hd1, hd2⟩ := hdi
                  clear hst
                  generalize hm : s[i].toNat = m at *
                  have htd : Int.tdiv (9223372036854775807 - ((m : Int) - 48)) 10 = (9223372036854775807 - ((m : Int) - 48)) / 10 := Int.tdiv_eq_ediv_of_nonneg (by omega)
                  by_cases hov : x * 10 + (m - 48) > 9223372036854775807
                  · have HT3 : Hid (R = .bad 14) := by
                      show _ = _
                      rw [HT2.out, if_pos (by have := HMO.out; rw [HST.out] at this; omega)]
                    have hgt : (9223372036854775807 - ((m : Int) - 48)) / 10 < (x : Int) := by omega
                    go_wp2_with fail
                    go_ret3
                    rw [HT3.out]
                    exact ⟨rfl, rfl⟩
                  · have hgt : ¬ (9223372036854775807 - ((m : Int) - 48)) / 10 < (x : Int) := by omega
                    have hx2 : 10 * (x : Int) + ((m : Int) - 48) ≤ 9223372036854775807 := by omega
                    have hx3 : 10 * (x : Int) ≤ 9223372036854775807 := by omega
                    go_wp2_with fail
                    refine ⟨⟨i + 1, x * 10 + (m - 48), by omega, by go_num, congrArg (Value.int .i64) (by omega), HST.out.symm, by omega⟩, ?_⟩
                    simp [intOf]; omega
                · have hik : i = k := by omega
                  subst hik
                  have HT3 : Hid (R = .good 3 [] (x : Int) (s.data.toList.drop i)) := by
                    show _ = _
                    rw [HT2.out, ← hxv.out, if_neg (by omega)]
                  have HE : Hid ((s.size : Int) - ((s.data.toList.drop i).length : Int) = (i : Int)) := by
                    show _ = _
                    rw [hdl.out]; omega
                  go_wp2_with fail
                  go_ret3
                  rw [HT3.out]
                  refine ⟨?_, rfl⟩
                  simp only [numV, HE.out]
                  rfl
          · have j3 : (1 : Int) < (k : Int) := by omega
            have j4 : ¬ (s[0].toNat : Int) = 48 := by omega
            cases hlx : Tk.letter s[k] with
            | true =>
              rw [hlx] at CL HT
              have HT2 : Hid (R = .bad 3) := by show _ = _; rw [HT.out, if_pos (.inr rfl)]
              go_wp2_with (first | (go_at_call 38; refine (CD.out _).mono ?_; rintro e w' ⟨rfl, rfl⟩) | (go_at_call 37; refine (CL.out _).mono ?_; rintro e w' ⟨rfl, rfl⟩))
              go_ret3
              rw [HT2.out]
              exact ⟨rfl, rfl⟩
            | false =>
              rw [hlx] at CL HT
              have HT2 : Hid (R = if Nm.val 0 (s.data.toList.take k) > 9223372036854775807 then .bad 14 else .good 3 [] (Nm.val 0 (s.data.toList.take k) : Int) (s.data.toList.drop k)) := by show _ = _; rw [HT.out, if_neg (fun h => h.elim (fun h => hz ⟨h.1, h.2⟩) (fun h => by cases h))]
              go_wp2_with (first | (go_at_call 38; refine (CD.out _).mono ?_; rintro e w' ⟨rfl, rfl⟩) | (go_at_call 37; refine (CL.out _).mono ?_; rintro e w' ⟨rfl, rfl⟩))
              go_loop [6, 7] (fun v6 v7 => ∃ i x : Nat, i ≤ k ∧ v7 = .int .i64 (i : Int) ∧ v6 = .int .i64 (x : Int) ∧ Hid (x = Nm.val 0 (s.data.toList.take i)) ∧ x ≤ 9223372036854775807) (fun _ v7 => k - (intOf v7).toNat)
              case atStart => exact ⟨0, 0, Nat.zero_le _, rfl, rfl, rfl, by omega⟩
              case round =>
                obtain ⟨i, x, hi, rfl, rfl, hxv, hxm⟩ := hrel
                by_cases hlti : i < k
                · have hiS : i < s.size := by omega
                  have hdi := (Tk.dig_iff _).1 (hD1.out i hiS hlti)
                  have hst := Tk.val_take (d := s.data.toList) (i := i) (by rw [hlen]; exact hiS)
                  rw [hgl.out i hiS, ← hxv.out] at hst
                  have HST := hid hst
                  have HMO : Hid (Nm.val 0 (s.data.toList.take (i + 1)) ≤ Nm.val 0 (s.data.toList.take k)) := by
                    have := Tk.val_mono (s.data.toList.take k) (i + 1)
                    rw [List.take_take, Nat.min_eq_left (by omega)] at this
                    exact this
                  obtain ⟨hd1, hd2⟩ := hdi
                  clear hst
                  generalize hm : s[i].toNat = m at *
                  have htd : Int.tdiv (9223372036854775807 - ((m : Int) - 48)) 10 = (9223372036854775807 - ((m : Int) - 48)) / 10 := Int.tdiv_eq_ediv_of_nonneg (by omega)
                  by_cases hov : x * 10 + (m - 48) > 9223372036854775807
                  · have HT3 : Hid (R = .bad 14) := by
                      show _ = _
                      rw [HT2.out, if_pos (by have := HMO.out; rw [HST.out] at this; omega)]
                    have hgt : (9223372036854775807 - ((m : Int) - 48)) / 10 < (x : Int) := by omega
                    go_wp2_with fail
                    go_ret3
                    rw [HT3.out]
                    exact ⟨rfl, rfl⟩
                  · have hgt : ¬ (9223372036854775807 - ((m : Int) - 48)) / 10 < (x : Int) := by omega
                    have hx2 : 10 * (x : Int) + ((m : Int) - 48) ≤ 9223372036854775807 := by omega
                    have hx3 : 10 * (x : Int) ≤ 9223372036854775807 := by omega
                    go_wp2_with fail
                    refine ⟨⟨i + 1, x * 10 + (m - 48), by omega, by go_num, congrArg (Value.int .i64) (by omega), HST.out.symm, by omega⟩, ?_⟩
                    simp [intOf]; omega
                · have hik : i = k := by omega
                  subst hik
                  have HT3 : Hid (R = .good 3 [] (x : Int) (s.data.toList.drop i)) := by
                    show _ = _
                    rw [HT2.out, ← hxv.out, if_neg (by omega)]
                  have HE : Hid ((s.size : Int) - ((s.data.toList.drop i).length : Int) = (i : Int)) := by
                    show _ = _
                    rw [hdl.out]; omega
                  go_wp2_with fail
                  go_ret3
                  rw [HT3.out]
                  refine ⟨?_, rfl⟩
                  simp only [numV, HE.out]
                  rfl
      · have hgk := hgE.out hx
        rw [hgk] at HT
        have hx' : ¬ (k : Int) < (s.size : Int) := by omega
        clear hx
        by_cases hz : 1 < k ∧ s[0].toNat = 48
        · have j1 : (1 : Int) < (k : Int) := by omega
          have j2 : (s[0].toNat : Int) = 48 := by omega
          have HT2 : Hid (R = .bad 3) := by show _ = _; rw [HT.out, if_pos (.inl ⟨hz.1, hz.2⟩)]
          go_wp2_with fail
          go_ret3
          rw [HT2.out]
          exact ⟨rfl, rfl⟩
        · have HT2 : Hid (R = if Nm.val 0 (s.data.toList.take k) > 9223372036854775807 then .bad 14 else .good 3 [] (Nm.val 0 (s.data.toList.take k) : Int) (s.data.toList.drop k)) := by show _ = _; rw [HT.out, if_neg (fun h => h.elim (fun h => hz ⟨h.1, h.2⟩) (fun h => by revert h; decide))]
          rcases (by omega : ¬ 1 < k ∨ (1 < k ∧ ¬ s[0].toNat = 48)) with j1 | ⟨j1, j2⟩
          · have j3 : ¬ (1 : Int) < (k : Int) := by omega
            go_wp2_with fail
            go_loop [6, 7] (fun v6 v7 => ∃ i x : Nat, i ≤ k ∧ v7 = .int .i64 (i : Int) ∧ v6 = .int .i64 (x : Int) ∧ Hid (x = Nm.val 0 (s.data.toList.take i)) ∧ x ≤ 9223372036854775807) (fun _ v7 => k - (intOf v7).toNat)
            case atStart => exact ⟨0, 0, Nat.zero_le _, rfl, rfl, rfl, by omega⟩
            case round =>
              obtain ⟨i, x, hi, rfl, rfl, hxv, hxm⟩ := hrel
              by_cases hlti : i < k
              · have hiS : i < s.size := by omega
                have hdi := (Tk.dig_iff _).1 (hD1.out i hiS hlti)
                have hst := Tk.val_take (d := s.data.toList) (i := i) (by rw [hlen]; exact hiS)
                rw [hgl.out i hiS, ← hxv.out] at hst
                have HST := hid hst
                have HMO : Hid (Nm.val 0 (s.data.toList.take (i + 1)) ≤ Nm.val 0 (s.data.toList.take k)) := by
                  have := Tk.val_mono (s.data.toList.take k) (i + 1)
                  rw [List.take_take, Nat.min_eq_left (by omega)] at this
                  exact this
                obtain ⟨hd1, hd2⟩ := hdi
                clear hst
                generalize hm : s[i].toNat = m at *
                have htd : Int.tdiv (9223372036854775807 - ((m : Int) - 48)) 10 = (9223372036854775807 - ((m : Int) - 48)) / 10 := Int.tdiv_eq_ediv_of_nonneg (by omega)
                by_cases hov : x * 10 + (m - 48) > 9223372036854775807
                · have HT3 : Hid (R = .bad 14) := by
                    show _ = _
                    rw [HT2.out, if_pos (by have := HMO.out; rw [HST.out] at this; omega)]
                  have hgt : (9223372036854775807 - ((m : Int) - 48)) / 10 < (x : Int) := by omega
                  go_wp2_with fail
                  go_ret3
                  rw [HT3.out]
                  exact ⟨rfl, rfl⟩
                · have hgt : ¬ (9223372036854775807 - ((m : Int) - 48)) / 10 < (x : Int) := by omega
                  have hx2 : 10 * (x : Int) + ((m : Int) - 48) ≤ 9223372036854775807 := by omega
                  have hx3 : 10 * (x : Int) ≤ 9223372036854775807 := by omega
                  go_wp2_with fail
                  refine ⟨⟨i + 1, x * 10 + (m - 48), by omega, by go_num, congrArg (Value.int .i64) (by omega), HST.out.symm, by omega⟩, ?_⟩
                  simp [intOf]; omega
              · have hik : i = k := by omega
                subst hik
                have HT3 : Hid (R = .good 3 [] (x : Int) (s.data.toList.drop i)) := by
                  show _ = _
                  rw [HT2.out, ← hxv.out, if_neg (by omega)]
                have HE : Hid ((s.size : Int) - ((s.data.toList.drop i).length : Int) = (i : Int)) := by
                  show _ = _
                  rw [hdl.out]; omega
                go_wp2_with fail
                go_ret3
                rw [HT3.out]
                refine ⟨?_, rfl⟩
                simp only [numV, HE.out]
                rfl
          · have j3 : (1 : Int) < (k : Int) := by omega
            have j4 : ¬ (s[0].toNat : Int) = 48 := by omega
            go_wp2_with fail
            go_loop [6, 7] (fun v6 v7 => ∃ i x : Nat, i ≤ k ∧ v7 = .int .i64 (i : Int) ∧ v6 = .int .i64 (x : Int) ∧ Hid (x = Nm.val 0 (s.data.toList.take i)) ∧ x ≤ 9223372036854775807) (fun _ v7 => k - (intOf v7).toNat)
            case atStart => exact ⟨0, 0, Nat.zero_le _, rfl, rfl, rfl, by omega⟩
            case round =>
              obtain ⟨i, x, hi, rfl, rfl, hxv, hxm⟩ := hrel
              by_cases hlti : i < k
              · have hiS : i < s.size := by omega
                have hdi := (Tk.dig_iff _).1 (hD1.out i hiS hlti)
                have hst := Tk.val_take (d := s.data.toList) (i := i) (by rw [hlen]; exact hiS)
                rw [hgl.out i hiS, ← hxv.out] at hst
                have HST := hid hst
                have HMO : Hid (Nm.val 0 (s.data.toList.take (i + 1)) ≤ Nm.val 0 (s.data.toList.take k)) := by
                  have := Tk.val_mono (s.data.toList.take k) (i + 1)
                  rw [List.take_take, Nat.min_eq_left (by omega)] at this
                  exact this
                obtain ⟨hd1, hd2⟩ := hdi
                clear hst
                generalize hm : s[i].toNat = m at *
                have htd : Int.tdiv (9223372036854775807 - ((m : Int) - 48)) 10 = (9223372036854775807 - ((m : Int) - 48)) / 10 := Int.tdiv_eq_ediv_of_nonneg (by omega)
                by_cases hov : x * 10 + (m - 48) > 9223372036854775807
                · have HT3 : Hid (R = .bad 14) := by
                    show _ = _
                    rw [HT2.out, if_pos (by have := HMO.out; rw [HST.out] at this; omega)]
                  have hgt : (9223372036854775807 - ((m : Int) - 48)) / 10 < (x : Int) := by omega
                  go_wp2_with fail
                  go_ret3
                  rw [HT3.out]
                  exact ⟨rfl, rfl⟩
                · have hgt : ¬ (9223372036854775807 - ((m : Int) - 48)) / 10 < (x : Int) := by omega
                  have hx2 : 10 * (x : Int) + ((m : Int) - 48) ≤ 9223372036854775807 := by omega
                  have hx3 : 10 * (x : Int) ≤ 9223372036854775807 := by omega
                  go_wp2_with fail
                  refine ⟨⟨i + 1, x * 10 + (m - 48), by omega, by go_num, congrArg (Value.int .i64) (by omega), HST.out.symm, by omega⟩, ?_⟩
                  simp [intOf]; omega
              · have hik : i = k := by omega
                subst hik
                have HT3 : Hid (R = .good 3 [] (x : Int) (s.data.toList.drop i)) := by
                  show _ = _
                  rw [HT2.out, ← hxv.out, if_neg (by omega)]
                have HE : Hid ((s.size : Int) - ((s.data.toList.drop i).length : Int) = (i : Int)) := by
                  show _ = _
                  rw [hdl.out]; omega
                go_wp2_with fail
                go_ret3
                rw [HT3.out]
                refine ⟨?_, rfl⟩
                simp only [numV, HE.out]
                rfl
end Go.Proofs.YtodcgdiejmdaaaaDoor
