/-
  Right of layer 6, of the program and of the reference, by its contract.
-/
import Derived.Test.YtcpahiipibpphaaDoorNKey
namespace Go.Proofs.YtcpahiipibpphaaDoor
open Go.RowKit

theorem digit_any (c : UInt8) (w : World) : Calls Tryd.prog 18 #[.int .u8 (c.toNat : Int)] w fun e w' => e = .returned (.bool (Nm.digit c)) ∧ w = w' := by
  have hd : Hid (Nm.digit c = (decide (48 ≤ c.toNat) && decide (c.toNat ≤ 57))) := rfl
  have hc := c.toNat_lt
  generalize Nm.digit c = b at *
  generalize c.toNat = m at *
  go_enter Tryd.func18, Tryd.ntmps18
  go_wp2
  all_goals go_ret
  all_goals refine ⟨congrArg (fun b => Ending.returned (Value.bool b)) ?_, rfl⟩
  all_goals rw [hd.out, Bool.eq_iff_iff]
  all_goals simp
  all_goals omega

theorem letter_any (c : UInt8) (w : World) : Calls Tryd.prog 19 #[.int .u8 (c.toNat : Int)] w fun e w' => e = .returned (.bool (Nm.letter c)) ∧ w = w' := by
  have hd : Hid (Nm.letter c = ((decide (97 ≤ c.toNat) && decide (c.toNat ≤ 122)) || (decide (65 ≤ c.toNat) && decide (c.toNat ≤ 90)))) := rfl
  have hc := c.toNat_lt
  generalize Nm.letter c = b at *
  generalize c.toNat = m at *
  go_enter Tryd.func19, Tryd.ntmps19
  go_wp2
  all_goals go_ret
  all_goals refine ⟨congrArg (fun b => Ending.returned (Value.bool b)) ?_, rfl⟩
  all_goals rw [hd.out, Bool.eq_iff_iff]
  all_goals simp
  all_goals omega

set_option maxHeartbeats 400000 in
theorem rletter_any (c : UInt8) (w : World) : Calls Tryd.prog 20 #[.int .u8 (c.toNat : Int)] w fun e w' => e = .returned (.bool (Nm.okc c)) ∧ w = w' := by
  have hd : Hid (Nm.okc c = (((decide (97 ≤ c.toNat) && decide (c.toNat ≤ 122)) || (decide (65 ≤ c.toNat) && decide (c.toNat ≤ 90))) || (decide (48 ≤ c.toNat) && decide (c.toNat ≤ 57)) || decide (c.toNat = 95))) := rfl
  have hc := c.toNat_lt
  generalize Nm.okc c = b at *
  generalize c.toNat = m at *
  go_enter Tryd.func20, Tryd.ntmps20
  go_wp2
  all_goals go_ret
  all_goals refine ⟨congrArg (fun b => Ending.returned (Value.bool b)) ?_, rfl⟩
  all_goals rw [hd.out, Bool.eq_iff_iff]
  all_goals simp
  all_goals omega

/-- '[]byte(s)' of a string that is no constant. -/
theorem conv_bytes (w : World) (s : ByteArray) (h : s.size ≤ maxLen) :
    ∃ c W, (convert 9 32 (.string s)).run Tryd.prog w = .ok (.slice (some ⟨w.heap.size, 0, none⟩) s.size c) W ∧ Bs W (.slice (some ⟨w.heap.size, 0, none⟩) s.size c) s.data.toList ∧ Below w.heap.size w W := by
  refine ⟨_, _, run_bytes_of_string w 9 32 5 s Tryd.underlying9 Tryd.underlying32 Tryd.underlying5, ?_, ((Below.refl _ _).drew).alloc (Nat.le_refl _) _⟩
  refine ⟨some ⟨w.heap.size, 0, none⟩, _, by simp, by simpa using grownCap_ge w s.size 0 5, grownCap_le_maxLen w s.size 0 5 h, .inr ⟨_, rfl, fun j u hj => ?_⟩⟩
  rw [show (⟨w.heap.size, 0, none⟩ : Addr).add j = ⟨w.drew.heap.size, j, none⟩ by simp [Addr.add]; omega, World.cell?_alloc_mark]
  rw [List.getElem?_map, Option.map_eq_some_iff] at hj
  obtain ⟨x, hx, rfl⟩ := hj
  obtain ⟨hjl, hjx⟩ := List.getElem?_eq_some_iff.1 hx
  have hjl' : j < s.data.size := by simpa using hjl
  simp at hjx
  unfold bytesRow
  rw [Array.getElem?_append_left (by simpa using hjl'), Array.getElem?_map, Array.getElem?_eq_getElem hjl', hjx]
  rfl

theorem right_short {s : ByteArray} (h : s.size < 1) : Nm.right s.data.toList = false := by
  unfold Nm.right
  rw [decide_eq_false (show ¬ 1 ≤ s.data.toList.length by rw [← size_list]; omega)]; rfl
theorem right_long {s : ByteArray} (h : 64 < s.size) : Nm.right s.data.toList = false := by
  unfold Nm.right
  rw [decide_eq_false (show ¬ s.data.toList.length ≤ 64 by rw [← size_list]; omega)]; simp
theorem head_eq {s : ByteArray} (h : 0 < s.size) : s.data.toList.headD 0 = s[0] := by
  have h' : 0 < s.data.toList.length := by simpa using h
  rw [List.headD_eq_head?_getD, List.head?_eq_getElem?, List.getElem?_eq_getElem h']
  rfl
theorem right_mid {s : ByteArray} (h0 : 0 < s.size) (h : s.size ≤ 64) : Nm.right s.data.toList = (!Nm.digit s[0] && s.data.toList.all Nm.okc) := by
  unfold Nm.right
  rw [decide_eq_true (show 1 ≤ s.data.toList.length by simp; omega), decide_eq_true (show s.data.toList.length ≤ 64 by simpa using h), head_eq h0]
  simp
theorem all_take {l : List UInt8} {k : Nat} (h : k < l.length) : (l.take (k + 1)).all Nm.okc = ((l.take k).all Nm.okc && Nm.okc (l.getD k 0)) := by
  rw [List.take_succ_eq_append_getElem h, Nm.all_snoc]
  simp [h]
theorem all_not {l : List UInt8} {k : Nat} (h : k < l.length) (hc : Nm.okc (l.getD k 0) = false) : l.all Nm.okc = false := by
  rw [← List.take_append_drop (k + 1) l, List.all_append, all_take h, hc]
  simp

/-- The relation of both loops. -/
def RightRel (l : List UInt8) (vi : Value) : Prop := ∃ k : Nat, k ≤ l.length ∧ vi = .int .i64 (k : Int) ∧ (l.take k).all Nm.okc = true

set_option maxRecDepth 100000 in
set_option maxHeartbeats 2000000 in
theorem right_any (s : ByteArray) (w : World) (hs : s.size ≤ 1000000) :
    Calls Tryd.prog 7 #[.string s] w fun e w' => e = .returned (.bool (Nm.right s.data.toList)) ∧ Below w.heap.size w w' := by
  by_cases h0 : s.size < 1
  · rw [right_short h0]
    go_enter Tryd.func7, Tryd.ntmps7
    go_wp2_with fail
    go_ret
    exact ⟨rfl, Below.refl _ _⟩
  by_cases h64 : 64 < s.size
  · rw [right_long h64]
    go_enter Tryd.func7, Tryd.ntmps7
    go_wp2_with fail
    go_ret
    exact ⟨rfl, Below.refl _ _⟩
  have h0' : 0 < s.size := by omega
  rw [right_mid h0' (by omega)]
  have CD := hid (fun W => digit_any s[0] W)
  by_cases hd : Nm.digit s[0] = true
  · rw [hd] at CD ⊢
    go_enter Tryd.func7, Tryd.ntmps7
    go_wp2_with fail
    refine (CD.out _).mono ?_
    rintro e w' ⟨rfl, rfl⟩
    go_wp2_with fail
    go_ret
    exact ⟨rfl, Below.refl _ _⟩
  · have hd' : Nm.digit s[0] = false := by simpa using hd
    rw [hd'] at CD ⊢
    clear hd hd'
    obtain ⟨c, W, hrun, hbs, hb⟩ := conv_bytes w s (by unfold maxLen; omega)
    have HB := hid hb
    have H := hid hbs
    have hlen : Hid (s.data.toList.length = s.size) := (size_list s).symm
    clear hb hbs
    generalize s.data.toList = l at *
    go_enter Tryd.func7, Tryd.ntmps7
    go_wp2_with fail
    refine (CD.out _).mono ?_
    rintro e w' ⟨rfl, rfl⟩
    go_wp2_with fail
    go_loop [21] (fun vi => RightRel l vi) (fun vi => s.size - (intOf vi).toNat)
    case atStart => exact ⟨0, Nat.zero_le _, rfl, rfl⟩
    case round =>
      obtain ⟨k, hk, rfl, hall⟩ := hrel
      rw [hlen.out] at hk
      by_cases hlt : k < s.size
      · obtain ⟨ad, had, hc1⟩ := H.out.at k (by rw [hlen.out]; exact hlt)
        injection had with had
        subst had
        have hc1 : W.cell? ⟨w.heap.size, k, none⟩ = some (.int .u8 ((l.getD k 0).toNat : Int)) := by rw [show (⟨w.heap.size, 0, none⟩ : Addr).add k = ⟨w.heap.size, k, none⟩ by simp [Addr.add]; omega] at hc1; exact hc1
        have hstep := hid (all_take (l := l) (k := k) (by rw [hlen.out]; exact hlt))
        have hnot := hid (fun h => all_not (l := l) (k := k) (by rw [hlen.out]; exact hlt) h)
        have CL := hid (fun W => letter_any (l.getD k 0) W)
        have CD := hid (fun W => digit_any (l.getD k 0) W)
        have hok : Hid (Nm.okc (l.getD k 0) = (Nm.letter (l.getD k 0) || Nm.digit (l.getD k 0) || decide ((l.getD k 0).toNat = 95))) := rfl
        generalize l.getD k 0 = x at *
        by_cases hl1 : Nm.letter x = true
        · rw [hl1] at CL hok
          clear hl1
          go_wp2_with (go_at_call 19; refine (CL.out _).mono ?_; rintro e w' ⟨rfl, rfl⟩)
          go_round
          case rel => exact ⟨k + 1, by rw [hlen.out]; omega, by go_num, by rw [hstep.out, hall, hok.out]; rfl⟩
          case measure => simp [intOf]; omega
        · have hl1' : Nm.letter x = false := by simpa using hl1
          rw [hl1'] at CL hok
          clear hl1 hl1'
          by_cases hd1 : Nm.digit x = true
          · rw [hd1] at CD hok
            clear hd1
            go_wp2_with (first | (go_at_call 19; refine (CL.out _).mono ?_; rintro e w' ⟨rfl, rfl⟩) | (go_at_call 18; refine (CD.out _).mono ?_; rintro e w' ⟨rfl, rfl⟩))
            go_round
            case rel => exact ⟨k + 1, by rw [hlen.out]; omega, by go_num, by rw [hstep.out, hall, hok.out]; rfl⟩
            case measure => simp [intOf]; omega
          · have hd1' : Nm.digit x = false := by simpa using hd1
            rw [hd1'] at CD hok
            clear hd1 hd1'
            by_cases h95 : x.toNat = 95
            · have h95' : (x.toNat : Int) = 95 := by omega
              rw [decide_eq_true h95] at hok
              rw [h95'] at CL CD hc1
              clear h95 h95'
              go_wp2_with (first | (go_at_call 19; refine (CL.out _).mono ?_; rintro e w' ⟨rfl, rfl⟩) | (go_at_call 18; refine (CD.out _).mono ?_; rintro e w' ⟨rfl, rfl⟩))
              go_round
              case rel => exact ⟨k + 1, by rw [hlen.out]; omega, by go_num, by rw [hstep.out, hall, hok.out]; rfl⟩
              case measure => simp [intOf]; omega
            · have h95' : ¬ (x.toNat : Int) = 95 := by omega
              rw [decide_eq_false h95] at hok
              clear h95
              go_wp2_with (first | (go_at_call 19; refine (CL.out _).mono ?_; rintro e w' ⟨rfl, rfl⟩) | (go_at_call 18; refine (CD.out _).mono ?_; rintro e w' ⟨rfl, rfl⟩))
              go_ret
              exact ⟨by rw [hnot.out hok.out]; rfl, HB.out⟩
      · have hfin : Hid (l.all Nm.okc = true) := by
          show _ = _
          rw [← hall, List.take_of_length_le (by rw [hlen.out]; omega)]
        go_wp2_with fail
        go_ret
        exact ⟨by rw [hfin.out]; rfl, HB.out⟩

set_option maxRecDepth 100000 in
set_option maxHeartbeats 400000 in
theorem rright_any (s : ByteArray) (w : World) (hs : s.size ≤ 1000000) :
    Calls Tryd.prog 8 #[.string s] w fun e w' => e = .returned (.bool (Nm.right s.data.toList)) ∧ w = w' := by
  by_cases h0 : s.size < 1
  · rw [right_short h0]
    go_enter Tryd.func8, Tryd.ntmps8
    go_wp2_with fail
    go_ret
    exact ⟨rfl, rfl⟩
  by_cases h64 : 64 < s.size
  · rw [right_long h64]
    go_enter Tryd.func8, Tryd.ntmps8
    go_wp2_with fail
    go_ret
    exact ⟨rfl, rfl⟩
  have h0' : 0 < s.size := by omega
  rw [right_mid h0' (by omega)]
  have hdd : Hid (Nm.digit s[0] = (decide (48 ≤ s[0].toNat) && decide (s[0].toNat ≤ 57))) := rfl
  by_cases hd : 48 ≤ s[0].toNat ∧ s[0].toNat ≤ 57
  · obtain ⟨hd1, hd2⟩ := hd
    rw [decide_eq_true hd1, decide_eq_true hd2] at hdd
    have hd1' : 48 ≤ (s[0].toNat : Int) := by omega
    have hd2' : (s[0].toNat : Int) ≤ 57 := by omega
    rw [hdd.out]
    clear hd1 hd2
    go_enter Tryd.func8, Tryd.ntmps8
    go_wp2_with fail
    go_ret
    exact ⟨rfl, rfl⟩
  · have hdf : Nm.digit s[0] = false := by
      rw [hdd.out]
      by_cases h : 48 ≤ s[0].toNat
      · rw [decide_eq_false (show ¬ s[0].toNat ≤ 57 by omega)]; simp
      · rw [decide_eq_false h]; rfl
    rw [hdf]
    have hd1 : (s[0].toNat : Int) < 48 ∨ 57 < (s[0].toNat : Int) := by omega
    clear hdd hdf hd
    have hlen : Hid (s.data.toList.length = s.size) := (size_list s).symm
    have hget : Hid (∀ k (h : k < s.size), s.data.toList.getD k 0 = s[k]) := fun k h => by
      have h' : k < s.data.toList.length := by simpa using h
      rw [List.getD_eq_getElem?_getD, List.getElem?_eq_getElem h']; rfl
    generalize s.data.toList = l at *
    go_enter Tryd.func8, Tryd.ntmps8
    rcases hd1 with hd1 | hd1
    · go_wp2_with fail
      go_loop [3] (fun vi => RightRel l vi) (fun vi => s.size - (intOf vi).toNat)
      case atStart => exact ⟨0, Nat.zero_le _, rfl, rfl⟩
      case round =>
        obtain ⟨k, hk, rfl, hall⟩ := hrel
        rw [hlen.out] at hk
        by_cases hlt : k < s.size
        · have hstep := hid (all_take (l := l) (k := k) (by rw [hlen.out]; exact hlt))
          have hnot := hid (fun h => all_not (l := l) (k := k) (by rw [hlen.out]; exact hlt) h)
          have CL := hid (fun W => rletter_any (l.getD k 0) W)
          have hg := hget.out k hlt
          rw [hg] at hstep hnot CL
          clear hg
          by_cases hok : Nm.okc s[k] = true
          · have hok' := hid hok
            rw [hok] at CL
            clear hok
            go_wp2_with (go_at_call 20; refine (CL.out _).mono ?_; rintro e w' ⟨rfl, rfl⟩)
            go_round
            case rel => exact ⟨k + 1, by rw [hlen.out]; omega, by go_num, by rw [hstep.out, hall, hok'.out]; rfl⟩
            case measure => simp [intOf]; omega
          · have hok' : Hid (Nm.okc s[k] = false) := by simpa [Hid] using hok
            rw [hok'.out] at CL
            clear hok
            go_wp2_with (go_at_call 20; refine (CL.out _).mono ?_; rintro e w' ⟨rfl, rfl⟩)
            go_ret
            exact ⟨by rw [hnot.out hok'.out]; rfl, rfl⟩
        · have hfin : Hid (l.all Nm.okc = true) := by
            show _ = _
            rw [← hall, List.take_of_length_le (by rw [hlen.out]; omega)]
          go_wp2_with fail
          go_ret
          exact ⟨by rw [hfin.out]; rfl, rfl⟩
    · go_wp2_with fail
      go_loop [3] (fun vi => RightRel l vi) (fun vi => s.size - (intOf vi).toNat)
      case atStart => exact ⟨0, Nat.zero_le _, rfl, rfl⟩
      case round =>
        obtain ⟨k, hk, rfl, hall⟩ := hrel
        rw [hlen.out] at hk
        by_cases hlt : k < s.size
        · have hstep := hid (all_take (l := l) (k := k) (by rw [hlen.out]; exact hlt))
          have hnot := hid (fun h => all_not (l := l) (k := k) (by rw [hlen.out]; exact hlt) h)
          have CL := hid (fun W => rletter_any (l.getD k 0) W)
          have hg := hget.out k hlt
          rw [hg] at hstep hnot CL
          clear hg
          by_cases hok : Nm.okc s[k] = true
          · have hok' := hid hok
            rw [hok] at CL
            clear hok
            go_wp2_with (go_at_call 20; refine (CL.out _).mono ?_; rintro e w' ⟨rfl, rfl⟩)
            go_round
            case rel => exact ⟨k + 1, by rw [hlen.out]; omega, by go_num, by rw [hstep.out, hall, hok'.out]; rfl⟩
            case measure => simp [intOf]; omega
          · have hok' : Hid (Nm.okc s[k] = false) := by simpa [Hid] using hok
            rw [hok'.out] at CL
            clear hok
            go_wp2_with (go_at_call 20; refine (CL.out _).mono ?_; rintro e w' ⟨rfl, rfl⟩)
            go_ret
            exact ⟨by rw [hnot.out hok'.out]; rfl, rfl⟩
        · have hfin : Hid (l.all Nm.okc = true) := by
            show _ = _
            rw [← hall, List.take_of_length_le (by rw [hlen.out]; omega)]
          go_wp2_with fail
          go_ret
          exact ⟨by rw [hfin.out]; rfl, rfl⟩
end Go.Proofs.YtcpahiipibpphaaDoor
