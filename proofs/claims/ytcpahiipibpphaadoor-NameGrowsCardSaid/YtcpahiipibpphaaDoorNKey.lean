/-
  Key and Split of layer 6, of the program and of the reference, by their contracts.
-/
import Derived.Test.YtcpahiipibpphaaDoorNRun
import Derived.BigQuiet
import Derived.Lib.CutLaws
namespace Go.Proofs.YtcpahiipibpphaaDoor
open Go.RowKit

theorem str_list (s : ByteArray) : (⟨s.data.toList.toArray⟩ : ByteArray) = s := rfl

/-! ### Key -/
def keyB (a b : ByteArray) : ByteArray := ⟨(Nm.key a.data.toList b.data.toList).toArray⟩
theorem keyB_eq (a b : ByteArray) : a ++ ⟨#[47]⟩ ++ b = keyB a b := by
  unfold keyB Nm.key
  apply ByteArray.ext
  simp [ByteArray.data_append]
theorem keyB_size (a b : ByteArray) : (keyB a b).size = a.size + 1 + b.size := by
  rw [← keyB_eq, ByteArray.size_append, ByteArray.size_append]; rfl
theorem keyB_list (a b : ByteArray) : (keyB a b).data.toList = Nm.key a.data.toList b.data.toList := by simp [keyB]
theorem size_47 : (⟨#[47]⟩ : ByteArray).size = 1 := rfl

theorem key_any (a b : ByteArray) (w : World) (ha : a.size ≤ 100000) (hb : b.size ≤ 100000) :
    Calls Tryd.prog 14 #[.string a, .string b] w fun e w' => e = .returned (.string (keyB a b)) ∧ w = w' := by
  have hk := hid (keyB_eq a b)
  have h1 : (a ++ ⟨#[47]⟩).size = a.size + 1 := by rw [ByteArray.size_append]; rfl
  go_enter Tryd.func14, Tryd.ntmps14
  have h2 := size_47
  go_wp2_with fail
  go_ret
  exact ⟨congrArg (fun x => Ending.returned (Value.string x)) hk.out, rfl⟩
theorem rkey_any (a b : ByteArray) (w : World) (ha : a.size ≤ 100000) (hb : b.size ≤ 100000) :
    Calls Tryd.prog 17 #[.string a, .string b] w fun e w' => e = .returned (.string (keyB a b)) ∧ w = w' := by
  have hk := hid (keyB_eq a b)
  have h1 : (a ++ ⟨#[47]⟩).size = a.size + 1 := by rw [ByteArray.size_append]; rfl
  have h2 := size_47
  go_enter Tryd.func17, Tryd.ntmps17
  go_wp2_with fail
  go_ret
  exact ⟨congrArg (fun x => Ending.returned (Value.string x)) hk.out, rfl⟩

/-! ### Split -/
def splitV (l : List UInt8) : Value := .tuple #[strOf (Nm.split l).1, strOf (Nm.split l).2.1, .bool (Nm.split l).2.2]
theorem splitV_no {l : List UInt8} (h : l.count 47 ≠ 1) : splitV l = .tuple #[.string ⟨#[]⟩, .string ⟨#[]⟩, .bool false] := by
  unfold splitV; rw [Nm.split_no h]; rfl
theorem take_str (s : ByteArray) (i : Nat) : s.extract 0 i = ⟨(s.data.toList.take i).toArray⟩ := by
  rw [Lib.extract_eq]; simp
theorem drop_str (s : ByteArray) (i : Nat) : s.extract i s.size = ⟨(s.data.toList.drop i).toArray⟩ := by
  rw [Lib.extract_eq, List.take_of_length_le (by simp)]
theorem splitV_yes {s : ByteArray} {i : Nat} (h : s.data.toList.count 47 = 1) (hi : Nm.idx s.data.toList = i) : splitV s.data.toList = .tuple #[.string (s.extract 0 i), .string (s.extract (i + 1) s.size), .bool true] := by
  unfold splitV; rw [Nm.split_yes h, hi, take_str, drop_str]; rfl

theorem below_draws {B : Nat} {w : World} (n : Nat) : Below B w (w.drewN n) := ⟨rfl, rfl, rfl, Nat.le_refl _, fun _ _ => rfl⟩
/-- What the library's Cut gives at a slash. -/
theorem cut_miss (s : ByteArray) (w : World) (h : Nm.idx s.data.toList = -1) :
    Calls Tryd.prog 25 #[.string s, .string ⟨#[47]⟩] w fun e w' => e = .returned (.tuple #[.string s, .string ⟨#[]⟩, .bool false]) ∧ w = w' := by
  have C := Tryd.stringslite_Index_one s 47 w
  change Calls _ _ _ _ (fun e w' => e = .returned (.int .i64 (Nm.idx s.data.toList)) ∧ _) at C
  rw [h] at C
  go_enter Tryd.func25, Tryd.ntmps25
  go_wp2_with (first | (go_at_call 41; refine C.mono ?_; rintro e w' ⟨rfl, rfl⟩) | go_in)
  go_ret3
  simp only []
  go_wp2_with fail
  go_ret3
  exact ⟨rfl, rfl⟩
set_option maxHeartbeats 400000 in
theorem cut_hit (s : ByteArray) (w : World) (i : Nat) (hs : s.size ≤ 1000000) (h : Nm.idx s.data.toList = i) :
    Calls Tryd.prog 25 #[.string s, .string ⟨#[47]⟩] w fun e w' => e = .returned (.tuple #[.string (s.extract 0 i), .string (s.extract (i + 1) s.size), .bool true]) ∧ Below w.heap.size w w' := by
  have C := Tryd.stringslite_Index_one s 47 w
  change Calls _ _ _ _ (fun e w' => e = .returned (.int .i64 (Nm.idx s.data.toList)) ∧ _) at C
  have hi : i < s.size := by
    have := Nm.idx_lt s.data.toList
    rw [h] at this
    simp at this
    omega
  rw [h] at C
  clear h
  have h2 := size_47
  go_enter Tryd.func25, Tryd.ntmps25
  go_wp2_with (first | (go_at_call 41; refine C.mono ?_; rintro e w' ⟨rfl, rfl⟩) | go_in)
  go_quiet (fail)
  go_wp2_with fail
  go_ret3
  simp only []
  go_wp2_with fail
  go_ret3
  exact ⟨rfl, below_draws _⟩

theorem contains_any (s : ByteArray) (w : World) :
    Calls Tryd.prog 26 #[.string s, .string ⟨#[47]⟩] w fun e w' => e = .returned (.bool (decide (0 ≤ Nm.idx s.data.toList))) ∧ w = w' :=
  (Tryd.strings_Contains_one s 47 w).mono fun _ _ ⟨he, hw⟩ => ⟨he, hw.symm⟩

set_option maxHeartbeats 400000 in
theorem split_any (s : ByteArray) (w : World) (hs : s.size ≤ 1000000) :
    Calls Tryd.prog 15 #[.string s] w fun e w' => e = .returned (splitV s.data.toList) ∧ Below w.heap.size w w' := by
  by_cases h : Nm.idx s.data.toList = -1
  · have C := cut_miss s w h
    have hv := hid (splitV_no (l := s.data.toList) (fun hc => by have := (Nm.idx_count s.data.toList).2 (by omega); omega))
    clear h
    go_enter Tryd.func15, Tryd.ntmps15
    go_wp2_with fail
    refine C.mono ?_
    rintro e w' ⟨rfl, rfl⟩
    go_wp2_with fail
    go_ret3
    exact ⟨by rw [hv.out]; rfl, Below.refl _ _⟩
  · obtain ⟨i, hi⟩ : ∃ i : Nat, Nm.idx s.data.toList = i := ⟨(Nm.idx s.data.toList).toNat, by have := Nm.idx_ge s.data.toList; omega⟩
    have C := cut_hit s w i hs hi
    have CC := hid (fun W => contains_any (s.extract (i + 1) s.size) W)
    have hp := Nm.count_parts (l := s.data.toList) (by omega)
    rw [hi, show ((i : Int)).toNat + 1 = i + 1 by omega] at hp
    have hdr : (s.extract (i + 1) s.size).data.toList = s.data.toList.drop (i + 1) := by rw [drop_str]
    rw [hdr] at CC
    by_cases h1 : 0 ≤ Nm.idx (s.data.toList.drop (i + 1))
    · have hv := hid (splitV_no (l := s.data.toList) (by have := (Nm.idx_count _).1 h1; omega))
      rw [decide_eq_true h1] at CC
      clear h hi hp hdr h1
      generalize s.extract (i + 1) s.size = b at *
      generalize s.extract 0 i = a at *
      go_enter Tryd.func15, Tryd.ntmps15
      go_wp2_with fail
      refine C.mono ?_
      rintro e w' ⟨rfl, hb⟩
      go_wp2_with fail
      refine (CC.out _).mono ?_
      rintro e w' ⟨rfl, rfl⟩
      go_wp2_with fail
      go_ret3
      exact ⟨by rw [hv.out]; rfl, hb⟩
    · have hv := hid (splitV_yes (s := s) (i := i) (by
        have h2 := mt (Nm.idx_count (s.data.toList.drop (i + 1))).2 h1
        omega) hi)
      rw [decide_eq_false h1] at CC
      clear h hi hp hdr h1
      generalize s.extract (i + 1) s.size = b at *
      generalize s.extract 0 i = a at *
      go_enter Tryd.func15, Tryd.ntmps15
      go_wp2_with fail
      refine C.mono ?_
      rintro e w' ⟨rfl, hb⟩
      go_wp2_with fail
      refine (CC.out _).mono ?_
      rintro e w' ⟨rfl, rfl⟩
      go_wp2_with fail
      go_ret3
      exact ⟨by rw [hv.out]; rfl, hb⟩

/-! ### The reference's Split -/
theorem idx_upTo (l : List UInt8) (k : Nat) (h : k < l.length) : Nm.idx (l.take (k + 1)) = if 0 ≤ Nm.idx (l.take k) then Nm.idx (l.take k) else if l[k] = 47 then (k : Int) else -1 := by
  rw [List.take_succ_eq_append_getElem h, Nm.idx_snoc, List.length_take_of_le (Nat.le_of_lt h)]
theorem count_upTo (l : List UInt8) (k : Nat) (h : k < l.length) : (l.take (k + 1)).count 47 = (l.take k).count 47 + if l[k] = 47 then 1 else 0 := by
  rw [List.take_succ_eq_append_getElem h, List.count_append]
  by_cases hc : l[k] = 47
  · rw [if_pos hc, hc]; rfl
  · have h0 : List.count 47 [l[k]] = 0 := List.count_eq_zero.2 (by rw [List.mem_singleton]; exact Ne.symm hc)
    rw [if_neg hc, h0]
theorem count_le (l : List UInt8) (k : Nat) : (l.take k).count 47 ≤ l.count 47 := (List.take_sublist k l).count_le 47
def SplRel (s : ByteArray) (va vi : Value) : Prop := ∃ k : Nat, k ≤ s.size ∧ vi = .int .i64 (k : Int) ∧ va = .int .i64 (Nm.idx (s.data.toList.take k)) ∧ (s.data.toList.take k).count 47 ≤ 1
theorem byte_47 {c : UInt8} : c = 47 ↔ c.toNat = 47 := ⟨fun h => by rw [h]; rfl, fun h => UInt8.toNat_inj.1 h⟩

set_option maxRecDepth 100000 in
set_option maxHeartbeats 400000 in
theorem rsplit_any (s : ByteArray) (w : World) (hs : s.size ≤ 1000000) :
    Calls Tryd.prog 16 #[.string s] w fun e w' => e = .returned (splitV s.data.toList) ∧ Below w.heap.size w w' := by
  go_enter Tryd.func16, Tryd.ntmps16
  go_wp2_with fail
  go_loop [5, 6] (fun va vi => SplRel s va vi) (fun _ vi => s.size - (intOf vi).toNat)
  case atStart => exact ⟨0, Nat.zero_le _, rfl, rfl, by simp⟩
  case round =>
    obtain ⟨k, hk, rfl, rfl, hc⟩ := hrel
    have hge := Nm.idx_ge (s.data.toList.take k)
    have hcnt := Nm.idx_count (s.data.toList.take k)
    have hlt' := Nm.idx_lt (s.data.toList.take k)
    by_cases hlt : k < s.size
    · have hl : k < s.data.toList.length := by simpa using hlt
      have hi := idx_upTo s.data.toList k hl
      have hn := count_upTo s.data.toList k hl
      have hle := count_le s.data.toList (k + 1)
      have hsk : s.data.toList[k] = s[k] := rfl
      rw [hsk] at hi hn
      by_cases h47 : s[k].toNat = 47
      · have h47' : (s[k].toNat : Int) = 47 := by omega
        rw [if_pos (byte_47.2 h47)] at hn
        by_cases ha : 0 ≤ Nm.idx (s.data.toList.take k)
        · have hv := hid (splitV_no (l := s.data.toList) (by have := hcnt.1 ha; omega))
          clear hi hn hle hcnt hlt' hc
          generalize Nm.idx (s.data.toList.take k) = a at *
          go_wp2_with fail
          go_ret3
          exact ⟨by rw [hv.out]; rfl, Below.refl _ _⟩
        · rw [if_neg ha, if_pos (byte_47.2 h47)] at hi
          have hi' := hid hi
          have hcc : Hid ((s.data.toList.take (k + 1)).count 47 ≤ 1) := by
            show _ ≤ _
            have := mt hcnt.2 ha
            omega
          clear hi hn hle hcnt hlt' hc
          generalize Nm.idx (s.data.toList.take k) = a at *
          go_wp2_with fail
          go_round
          case rel => exact ⟨k + 1, by omega, by go_num, by rw [hi'.out], hcc.out⟩
          case measure => simp [intOf]; omega
      · have h47' : ¬ (s[k].toNat : Int) = 47 := by omega
        rw [if_neg (mt byte_47.1 h47)] at hn
        have hi' : Hid (Nm.idx (s.data.toList.take (k + 1)) = Nm.idx (s.data.toList.take k)) := by
          show _ = _
          rw [hi, if_neg (mt byte_47.1 h47)]
          split
          · rfl
          · omega
        have hcc : Hid ((s.data.toList.take (k + 1)).count 47 ≤ 1) := by show _ ≤ _; omega
        clear hi hn hle hcnt hlt' hc
        generalize Nm.idx (s.data.toList.take k) = a at *
        go_wp2_with fail
        go_round
        case rel => exact ⟨k + 1, by omega, by go_num, by rw [hi'.out], hcc.out⟩
        case measure => simp [intOf]; omega
    · have hall : s.data.toList.take k = s.data.toList := List.take_of_length_le (by simp; omega)
      rw [hall] at hge hcnt hc hlt'
      rw [hall]
      by_cases ha : 0 ≤ Nm.idx s.data.toList
      · obtain ⟨i, hi⟩ : ∃ i : Nat, Nm.idx s.data.toList = i := ⟨(Nm.idx s.data.toList).toNat, by omega⟩
        have hv := hid (splitV_yes (s := s) (i := i) (by have := hcnt.1 ha; omega) hi)
        have his : i < s.size := by simp at hlt'; omega
        clear hcnt hlt' hc hall hge ha
        rw [hi]
        clear hi
        go_wp2_with fail
        go_quiet (fail)
        go_wp2_with fail
        go_ret3
        exact ⟨by rw [hv.out]; rfl, below_draws _⟩
      · have hv := hid (splitV_no (l := s.data.toList) (by have := mt hcnt.2 ha; omega))
        clear hcnt hlt' hc hall
        generalize Nm.idx s.data.toList = a at *
        go_wp2_with fail
        go_ret3
        exact ⟨by rw [hv.out]; rfl, Below.refl _ _⟩
end Go.Proofs.YtcpahiipibpphaaDoor
