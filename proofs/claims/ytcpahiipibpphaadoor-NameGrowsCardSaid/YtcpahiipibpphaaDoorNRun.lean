/-
  Run and Number of layer 6, of the program and of the reference, by their contracts.
-/
import Derived.Test.YtcpahiipibpphaaDoorConv
import Derived.Test.YtcpahiipibpphaaDoorNPlain
import Derived.Test.YtcpahiipibpphaaDoorShelf
import Derived.WalkSmall
import Derived.Lib.ItoaLen
import Derived.Lib.AppendIntMem
namespace Go.Proofs.YtcpahiipibpphaaDoor
open Go.RowKit

/-- What the library reads of the package-level variables. -/
structure Good (w : World) : Prop where
  tab : Lib.TabIs Tryd.prog w "internal/strconv.uint64pow10" .u64 Lib.pow10Tab
  syn : ∃ tp p, w.var? Tryd.prog "strconv.ErrSyntax" = some #[.iface tp p]
  rng : ∃ tp p, w.var? Tryd.prog "strconv.ErrRange" = some #[.iface tp p]

theorem var_lt {w : World} {n : String} {cs : Array Value} (h : w.var? Tryd.prog n = some cs) : ∃ g, Tryd.prog.globalNamed n = some g ∧ g < w.heap.size := by
  unfold World.var? at h
  cases hg : Tryd.prog.globalNamed n with
  | none => simp [hg] at h
  | some g =>
    refine ⟨g, rfl, ?_⟩
    simp only [hg, Option.bind_some] at h
    split at h
    · rename_i hb
      obtain ⟨hlt, _⟩ := Array.getElem?_eq_some_iff.1 hb
      exact hlt
    · cases h
theorem var_below {w W : World} {n : String} {cs : Array Value} (h : w.var? Tryd.prog n = some cs) (hb : Below w.heap.size w W) : W.var? Tryd.prog n = some cs := by
  obtain ⟨g, hg, hlt⟩ := var_lt h
  exact var?_below hb hg hlt h
theorem Good.below {w W : World} (h : Good w) (hb : Below w.heap.size w W) : Good W :=
  ⟨var_below h.tab hb, by obtain ⟨tp, p, hv⟩ := h.syn; exact ⟨tp, p, var_below hv hb⟩, by obtain ⟨tp, p, hv⟩ := h.rng; exact ⟨tp, p, var_below hv hb⟩⟩

theorem itoa_any (n : Int) (w : World) (hG : Good w) (h0 : -9223372036854775808 ≤ n) (h1 : n ≤ 9223372036854775807) :
    Calls Tryd.prog 23 #[.int .i64 n] w fun e w' => e = .returned (strOf (Lib.itoa n)) ∧ Below w.heap.size w w' :=
  (Tryd.strconv_Itoa n h0 h1 w hG.tab).mono fun _ _ ⟨he, k, os, hw⟩ => ⟨he, by rw [hw]; exact Lib.below_grow _ _ (Nat.le_refl _) k os⟩

theorem cat_list (a : List UInt8) (b : ByteArray) (l : List UInt8) (hb : b = ⟨l.toArray⟩) : (⟨a.toArray⟩ : ByteArray) ++ b = ⟨(a ++ l).toArray⟩ := by
  subst hb
  apply ByteArray.ext
  simp [ByteArray.data_append]

set_option maxHeartbeats 400000 in
theorem run_any (n : Int) (w : World) (hG : Good w) (h0 : -9223372036854775808 ≤ n) (h1 : n ≤ 9223372036854775807) :
    Calls Tryd.prog 12 #[.int .i64 n] w fun e w' => e = .returned (strOf (Nm.runS n)) ∧ Below w.heap.size w w' := by
  by_cases hn : n < 1
  · rw [Nm.runS_lo hn]
    go_enter Tryd.func12, Tryd.ntmps12
    go_wp2_with fail
    go_ret
    exact ⟨rfl, Below.refl _ _⟩
  · rw [Nm.runS_hi (by omega)]
    have C := itoa_any n w hG h0 h1
    have hl := Lib.itoa_length_le n h0 h1
    generalize Lib.itoa n = l at *
    clear h0 h1
    have hsz : (⟨l.toArray⟩ : ByteArray).size ≤ 21 := by simpa [ByteArray.size] using hl
    have hc : Hid ((⟨#[114]⟩ : ByteArray) ++ ⟨l.toArray⟩ = ⟨(114 :: l).toArray⟩) := cat_list [114] ⟨l.toArray⟩ l rfl
    unfold strOf at *
    generalize (⟨l.toArray⟩ : ByteArray) = b at *
    go_enter Tryd.func12, Tryd.ntmps12
    go_wp2_with fail
    refine C.mono ?_
    rintro e w' ⟨rfl, hb⟩
    go_wp2_with fail
    go_ret
    exact ⟨congrArg (fun x => Ending.returned (Value.string x)) hc.out, hb⟩

/-! ### The reference's decimal digits -/
theorem tdiv_neg (m : Nat) : Int.tdiv (-(m : Int)) 10 = -((m / 10 : Nat) : Int) := by
  rw [Int.neg_tdiv]; rfl
theorem tmod_neg (m : Nat) : Int.tmod (-(m : Int)) 10 = -((m % 10 : Nat) : Int) := by
  rw [Int.neg_tmod]; rfl

theorem lit1 (w : World) (c : UInt8) : Bs (w.alloc (.cells #[.int .u8 (c.toNat : Int)] 5)) (.slice (some ⟨w.heap.size, 0, none⟩) 1 1) [c] := by
  have := lit_rd w ([c].map by8) (by simp [maxLen])
  simpa [Bs, by8] using this

theorem conv_digit (w : World) (m : Nat) : (convert 32 9 (.slice (some ⟨w.heap.size, 0, none⟩) 1 1)).run Tryd.prog (w.alloc (.cells #[.int .u8 (48 + (m : Int) % 10)] 5))
    = .ok (.string ⟨#[UInt8.ofNat (48 + m % 10)]⟩) (w.alloc (.cells #[.int .u8 (48 + (m : Int) % 10)] 5)) := by
  have h := (lit1 w (UInt8.ofNat (48 + m % 10))).conv
  rw [Nm.ofNat_toNat (Nat.mod_lt m (by omega))] at h
  rw [show ((48 + m % 10 : Nat) : Int) = 48 + (m : Int) % 10 by omega] at h
  exact h

theorem size_mk (l : List UInt8) : (⟨l.toArray⟩ : ByteArray).size = l.length := by simp [ByteArray.size]
theorem below_alloc (w : World) (o : Obj) : Below w.heap.size w (w.alloc o) := (Below.refl _ _).alloc (Nat.le_refl _) o

set_option maxRecDepth 100000 in
set_option maxHeartbeats 400000 in
theorem rdigits_any (m : Nat) : ∀ (w : World), m ≤ 9223372036854775808 →
    Calls Tryd.prog 31 #[.int .i64 (-(m : Int))] w fun e w' => e = .returned (strOf (Lib.decDigits m)) ∧ Below w.heap.size w w' := by
  induction m using Nat.strongRecOn with
  | _ m ih =>
    intro w hm
    have h1 := tdiv_neg m
    have h2 := tmod_neg m
    have h3 := conv_digit w m
    by_cases h : m < 10
    · have hd := hid (Nm.dec_small h)
      have hm10 : m % 10 = m := Nat.mod_eq_of_lt h
      have he : Hid (Lib.decDigits m = [UInt8.ofNat (48 + m % 10)]) := by show _ = _; rw [hm10]; exact hd.out
      clear hd hm10 ih
      generalize UInt8.ofNat (48 + m % 10) = c at *
      go_enter Tryd.func31, Tryd.ntmps31
      go_wp2_with fail
      go_ret
      exact ⟨by rw [he.out]; rfl, below_alloc w _⟩
    · have hd := hid (Nm.dec_big h)
      have C := hid (fun W => ih (m / 10) (by omega) W (by omega))
      have hl1 := Nm.dec_len 18 (m / 10) (by omega)
      generalize Lib.decDigits (m / 10) = l at *
      have hsz : (⟨l.toArray⟩ : ByteArray).size ≤ 19 := by rw [size_mk]; exact hl1
      have hsz1 : (⟨#[UInt8.ofNat (48 + m % 10)]⟩ : ByteArray).size = 1 := rfl
      have hcat : Hid ((⟨l.toArray⟩ : ByteArray) ++ ⟨#[UInt8.ofNat (48 + m % 10)]⟩ = ⟨(l ++ [UInt8.ofNat (48 + m % 10)]).toArray⟩) := cat_list l _ _ rfl
      clear ih hl1
      unfold strOf at *
      generalize UInt8.ofNat (48 + m % 10) = c at *
      generalize (⟨#[c]⟩ : ByteArray) = b at *
      generalize (⟨l.toArray⟩ : ByteArray) = a at *
      go_enter Tryd.func31, Tryd.ntmps31
      go_wp2_with fail
      refine (C.out _).mono ?_
      rintro e w' ⟨rfl, hb⟩
      go_wp2_with fail
      go_ret
      exact ⟨by rw [hd.out]; exact congrArg (fun x => Ending.returned (Value.string x)) hcat.out, bstep (below_alloc w _) hb⟩
theorem rdec_any (m : Nat) (w : World) (hm : m ≤ 9223372036854775807) :
    Calls Tryd.prog 24 #[.int .i64 (m : Int)] w fun e w' => e = .returned (strOf (Lib.decDigits m)) ∧ Below w.heap.size w w' := by
  have C := rdigits_any m w (by omega)
  unfold strOf at *
  generalize (⟨(Lib.decDigits m).toArray⟩ : ByteArray) = b at *
  go_enter Tryd.func24, Tryd.ntmps24
  go_wp2_with fail
  refine C.mono ?_
  rintro e w' ⟨rfl, hb⟩
  go_wp2_with fail
  go_ret
  exact ⟨rfl, hb⟩

set_option maxHeartbeats 400000 in
theorem rrun_any (n : Int) (w : World) (h1 : n ≤ 9223372036854775807) :
    Calls Tryd.prog 13 #[.int .i64 n] w fun e w' => e = .returned (strOf (Nm.runS n)) ∧ Below w.heap.size w w' := by
  by_cases hn : n < 1
  · rw [Nm.runS_lo hn]
    go_enter Tryd.func13, Tryd.ntmps13
    go_wp2_with fail
    go_ret
    exact ⟨rfl, Below.refl _ _⟩
  · rw [Nm.runS_hi (by omega)]
    have C := rdec_any n.toNat w (by omega)
    rw [← Nm.itoa_pos (by omega), show ((n.toNat : Nat) : Int) = n by omega] at C
    have hl := Lib.itoa_length_le n (by omega) h1
    generalize Lib.itoa n = l at *
    clear h1
    have hsz : (⟨l.toArray⟩ : ByteArray).size ≤ 21 := by simpa [ByteArray.size] using hl
    have hc : Hid ((⟨#[114]⟩ : ByteArray) ++ ⟨l.toArray⟩ = ⟨(114 :: l).toArray⟩) := cat_list [114] ⟨l.toArray⟩ l rfl
    unfold strOf at *
    generalize (⟨l.toArray⟩ : ByteArray) = b at *
    go_enter Tryd.func13, Tryd.ntmps13
    go_wp2_with fail
    refine C.mono ?_
    rintro e w' ⟨rfl, hb⟩
    go_wp2_with fail
    go_ret
    exact ⟨congrArg (fun x => Ending.returned (Value.string x)) hc.out, hb⟩

/-! ### Number -/
noncomputable def numPair (l : List UInt8) : Value := .tuple #[.int .i64 (Nm.numOf l), .bool (decide (1 ≤ Nm.numOf l))]
theorem numPair_no {l : List UInt8} (h : ¬ Nm.IsRun l) : numPair l = .tuple #[.int .i64 0, .bool false] := by
  unfold numPair; rw [Nm.numOf_no h]; rfl
theorem numPair_hit {l : List UInt8} {n : Int} (h1 : 1 ≤ n) (h2 : n ≤ 9223372036854775807) (h : Nm.runS n = l) : numPair l = .tuple #[.int .i64 n, .bool true] := by
  unfold numPair; rw [Nm.numOf_hit h1 h2 h, decide_eq_true h1]

theorem noRun_head {l : List UInt8} (h : Lib.hasPrefix l [114] = false) : ¬ Nm.IsRun l := by
  rintro ⟨n, h1, _, rfl⟩
  rw [Nm.runS_hi h1] at h
  simp [Lib.hasPrefix] at h
theorem noRun_atoi {t : List UInt8} (h : ∀ v, Lib.atoiAll t ≠ .ok v) : ¬ Nm.IsRun (114 :: t) := by
  rintro ⟨n, h1, h2, he⟩
  rw [Nm.runS_hi h1, List.cons.injEq] at he
  exact h n (by rw [he.2, Nm.atoi_run h1 h2])
theorem noRun_other {t : List UInt8} {v : Int} (h : Lib.atoiAll t = .ok v) (hne : Nm.runS v ≠ 114 :: t) : ¬ Nm.IsRun (114 :: t) := by
  rintro ⟨n, h1, h2, he⟩
  have he' := he
  rw [Nm.runS_hi h1, List.cons.injEq] at he
  rw [he.2, Nm.atoi_run h1 h2] at h
  injection h with h
  exact hne (by rw [← h, he'])
theorem atoi_bounds {t : List UInt8} {v : Int} (h : Lib.atoiAll t = .ok v) : -9223372036854775808 ≤ v ∧ v ≤ 9223372036854775807 := Lib.atoiAll_bounds h

theorem atoi_ok {t : List UInt8} {v : Int} (w : World) (h : Lib.atoiAll t = .ok v) (hs : t.length ≤ 1000000) :
    Calls Tryd.prog 22 #[strOf t] w fun e w' => e = .returned (.tuple #[.int .i64 v, .nilIface]) ∧ Below w.heap.size w w' := by
  refine (Tryd.strconv_Atoi_ok ⟨t.toArray⟩ (by rw [size_mk]; omega) v h w).mono ?_
  rintro e w' ⟨rfl, hw⟩
  refine ⟨rfl, ?_⟩
  rcases hw with rfl | ⟨x, rfl⟩
  · exact Below.refl _ _
  · exact Lib.bytesWorld_below _ _ _
theorem atoi_bad {t : List UInt8} (w : World) (hG : Good w) (h : ∀ v, Lib.atoiAll t ≠ .ok v) (hs : t.length ≤ 1000000) :
    Calls Tryd.prog 22 #[strOf t] w fun e w' => ∃ x N, e = .returned (.tuple #[.int .i64 x, .iface 47 (.pointer (some ⟨N, 0, none⟩))]) ∧ Below w.heap.size w w' := by
  have hsz : (⟨t.toArray⟩ : ByteArray).size ≤ 281474976710656 := by rw [size_mk]; omega
  cases ht : Lib.atoiAll t
  · exact absurd ht (h _)
  · obtain ⟨tp, p, hv⟩ := hG.syn
    exact (Any.strconv_Atoi_syntax_var Tryd.laysC172 ⟨t.toArray⟩ hsz ht tp p w hv).mono fun _ _ ⟨N, he, _, _, hb⟩ => ⟨_, N, he, hb⟩
  · obtain ⟨tp, p, hv⟩ := hG.rng
    exact (Any.strconv_Atoi_range_var Tryd.laysC172 ⟨t.toArray⟩ hsz ht tp p w hv).mono fun _ _ ⟨N, he, _, _, hb⟩ => ⟨_, N, he, hb⟩

set_option maxRecDepth 100000 in
set_option maxHeartbeats 400000 in
theorem number_any (s : ByteArray) (w : World) (hG : Good w) (hs : s.size ≤ 1000000) :
    Calls Tryd.prog 10 #[.string s] w fun e w' => e = .returned (numPair s.data.toList) ∧ Below w.heap.size w w' := by
  have CP := hid (fun W => Tryd.strings_CutPrefix s ⟨#[114]⟩ W)
  by_cases hp : Lib.hasPrefix s.data.toList [114] = true
  · obtain ⟨t, ht⟩ : ∃ t, s.data.toList = 114 :: t := by
      cases hl : s.data.toList with
      | nil => rw [hl] at hp; simp [Lib.hasPrefix] at hp
      | cons c t => rw [hl] at hp; simp [Lib.hasPrefix] at hp; exact ⟨t, by rw [hp]⟩
    have C : Hid (Calls Tryd.prog 21 #[.string s, .string ⟨#[114]⟩] w fun e w' => e = .returned (.tuple #[strOf t, .bool true]) ∧ w' = w) := by
      have := CP.out w
      rw [hp] at this
      unfold Lib.trimPrefix at this
      rw [hp, if_pos rfl, ht] at this
      exact this
    have hlen : t.length ≤ 1000000 := by
      have : s.data.toList.length = s.size := by simp
      rw [ht, List.length_cons] at this
      omega
    rw [ht]
    have hst := hid (show strOf (114 :: t) = .string s by rw [← ht]; rfl)
    clear hp CP ht hs
    by_cases ha : ∃ v, Lib.atoiAll t = .ok v
    · obtain ⟨v, hv⟩ := ha
      obtain ⟨hv1, hv2⟩ := atoi_bounds hv
      have CA := hid (atoi_ok w hv hlen)
      have CR := hid (fun W h => run_any v W h hv1 hv2)
      by_cases hr : Nm.runS v = 114 :: t
      · by_cases h1 : 1 ≤ v
        · rw [numPair_hit h1 hv2 hr]
          rw [hr, hst.out] at CR
          clear hr hlen
          generalize strOf t = st at *
          go_enter Tryd.func10, Tryd.ntmps10
          go_wp2_with fail
          refine C.out.mono ?_
          rintro e w' ⟨rfl, rfl⟩
          go_wp2_with fail
          refine CA.out.mono ?_
          rintro e w' ⟨rfl, hb⟩
          go_wp2_with fail
          refine (CR.out _ (hG.below hb)).mono ?_
          rintro e w'' ⟨rfl, hb2⟩
          go_wp2_with fail
          go_ret2
          exact ⟨rfl, bstep hb hb2⟩
        · rw [Nm.runS_lo (by omega)] at hr
          simp at hr
      · rw [numPair_no (noRun_other hv hr)]
        have hne : Hid (strOf (Nm.runS v) = .string ⟨(Nm.runS v).toArray⟩) := rfl
        have hbe : ((⟨(Nm.runS v).toArray⟩ : ByteArray).toList == s.toList) = false := by
          rw [beq_eq_false_iff_ne, Lib.toList_data, Lib.toList_data]
          intro he
          have h2 := hst.out
          unfold strOf at h2
          injection h2 with h2
          rw [← h2] at he
          exact hr (by simpa using he)
        clear hr hlen hst
        generalize strOf t = st at *
        generalize strOf (Nm.runS v) = r at *
        have hne := hne.out
        subst hne
        generalize (⟨(Nm.runS v).toArray⟩ : ByteArray) = b at *
        go_enter Tryd.func10, Tryd.ntmps10
        go_wp2_with fail
        refine C.out.mono ?_
        rintro e w' ⟨rfl, rfl⟩
        go_wp2_with fail
        refine CA.out.mono ?_
        rintro e w' ⟨rfl, hb⟩
        go_wp2_with fail
        refine (CR.out _ (hG.below hb)).mono ?_
        rintro e w'' ⟨rfl, hb2⟩
        go_wp2_with fail
        go_ret2
        exact ⟨rfl, bstep hb hb2⟩
    · have ha' : ∀ v, Lib.atoiAll t ≠ .ok v := fun v hv => ha ⟨v, hv⟩
      rw [numPair_no (noRun_atoi ha')]
      have CA := hid (atoi_bad w hG ha' hlen)
      clear ha ha' hlen hst hG
      go_enter Tryd.func10, Tryd.ntmps10
      go_wp2_with fail
      refine C.out.mono ?_
      rintro e w' ⟨rfl, rfl⟩
      generalize strOf t = st at *
      go_wp2_with fail
      refine CA.out.mono ?_
      rintro e w' ⟨x, N, rfl, hb⟩
      go_wp2_with fail
      go_ret2
      exact ⟨rfl, hb⟩
  · have hp' : Lib.hasPrefix s.data.toList [114] = false := by simpa using hp
    rw [numPair_no (noRun_head hp')]
    have C := CP.out w
    rw [hp'] at C
    generalize (Lib.trimPrefix s.data.toList [114]) = t at C
    clear hp hp' CP
    go_enter Tryd.func10, Tryd.ntmps10
    go_wp2_with fail
    refine C.mono ?_
    rintro e w' ⟨rfl, rfl⟩
    go_wp2_with fail
    go_ret2
    exact ⟨rfl, Below.refl _ _⟩
/-! ### The reference's Number -/
def Ls (s : ByteArray) (k : Nat) : Int := Nm.loose 0 ((s.data.toList.drop 1).take k)
theorem ls_snoc (s : ByteArray) (k : Nat) (h : k + 1 < s.size) : Nm.lstep (Ls s k) s[k + 1] = Ls s (k + 1) := by
  unfold Ls
  rw [List.take_succ_eq_append_getElem (by simp; omega), Nm.loose_snoc]
  congr 1
  simp
  rfl
theorem ls_all (s : ByteArray) (k : Nat) (h : s.size ≤ k + 1) : Ls s k = Nm.loose 0 (s.data.toList.drop 1) := by
  unfold Ls
  rw [List.take_of_length_le (by simp; omega)]
theorem step_eq (a : Int) (c : UInt8) : wrap64 (wrap64 (wrap64 (10 * a) + wrap64 (c.toNat : Int)) - 48) = Nm.lstep a c := by
  have := c.toNat_lt
  unfold Nm.lstep Nm.wr wrap64
  omega
def NumRel (s : ByteArray) (vn vi : Value) : Prop := ∃ k : Nat, (k = 0 ∨ k + 1 ≤ s.size) ∧ vi = .int .i64 ((k + 1 : Nat) : Int) ∧ vn = .int .i64 (Ls s k)

/-- Whatever the loop read: of an identifier it is the number. -/
theorem ls_run {s : ByteArray} {k : Nat} (h : ¬ (k + 1 < s.size ∧ s.size ≤ 20)) {n : Int} (h1 : 1 ≤ n) (h2 : n ≤ 9223372036854775807) (he : Nm.runS n = s.data.toList) : Ls s k = n := by
  have hl := Nm.run_len h1 h2
  rw [he] at hl
  have hl' : s.size ≤ 20 := by simpa using hl
  rw [ls_all s k (by omega), ← he, Nm.runS_hi h1, List.drop_one, List.tail_cons, Nm.loose_run h1 h2]

set_option maxRecDepth 100000 in
set_option maxHeartbeats 400000 in
theorem rnumber_any (s : ByteArray) (w : World) (hs : s.size ≤ 1000000) :
    Calls Tryd.prog 11 #[.string s] w fun e w' => e = .returned (numPair s.data.toList) ∧ Below w.heap.size w w' := by
  go_enter Tryd.func11, Tryd.ntmps11
  go_wp2_with fail
  go_loop [4, 5] (fun vn vi => NumRel s vn vi) (fun _ vi => s.size + 1 - (intOf vi).toNat)
  case atStart => exact ⟨0, Or.inl rfl, rfl, rfl⟩
  case round =>
    obtain ⟨k, hk, rfl, rfl⟩ := hrel
    have hb : -9223372036854775808 ≤ Ls s k ∧ Ls s k ≤ 9223372036854775807 := Nm.loose_bounds _
    obtain ⟨hb1, hb2⟩ := hb
    by_cases hlt : k + 1 < s.size ∧ s.size ≤ 20
    · obtain ⟨hlt, h20⟩ := hlt
      have HE := hid (ls_snoc s k hlt)
      generalize Ls s k = a at *
      go_wp2_with fail
      go_round
      case rel => exact ⟨k + 1, Or.inr (by omega), by go_num, by rw [step_eq, HE.out]⟩
      case measure => simp [intOf]; omega
    · have H := hid (fun n h1 h2 he => ls_run hlt (n := n) h1 h2 he)
      have hcut : (s.size : Int) ≤ (k : Int) + 1 ∨ (20 < (s.size : Int)) := by omega
      clear hlt
      generalize Ls s k = a at *
      by_cases h1 : a < 1
      · have hno : Hid (numPair s.data.toList = .tuple #[.int .i64 0, .bool false]) := numPair_no (by
          rintro ⟨n, g1, g2, he⟩
          have := H.out n g1 g2 he.symm
          omega)
        clear H
        rcases hcut with hcut | hcut
        all_goals go_wp2_with fail
        all_goals go_ret2
        all_goals exact ⟨by rw [hno.out]; rfl, Below.refl _ _⟩
      · have CR := hid (fun W => rrun_any a W hb2)
        have hbe : ((⟨(Nm.runS a).toArray⟩ : ByteArray).toList == s.toList) = decide (Nm.runS a = s.data.toList) := by
          rw [Lib.toList_data, Lib.toList_data]
          by_cases hr : Nm.runS a = s.data.toList
          · rw [decide_eq_true hr, beq_iff_eq]; simpa using hr
          · rw [decide_eq_false hr, beq_eq_false_iff_ne]; simpa using hr
        by_cases hr : Nm.runS a = s.data.toList
        · rw [decide_eq_true hr] at hbe
          have hyes := hid (numPair_hit (by omega) hb2 hr)
          clear hr H
          unfold strOf at CR
          generalize (⟨(Nm.runS a).toArray⟩ : ByteArray) = b at *
          rcases hcut with hcut | hcut
          all_goals go_wp2_with fail
          all_goals refine (CR.out _).mono ?_
          all_goals rintro e w' ⟨rfl, hb⟩
          all_goals go_wp2_with fail
          all_goals go_ret2
          all_goals exact ⟨by rw [hyes.out]; rfl, hb⟩
        · rw [decide_eq_false hr] at hbe
          have hno : Hid (numPair s.data.toList = .tuple #[.int .i64 0, .bool false]) := numPair_no (by
            rintro ⟨n, g1, g2, he⟩
            have := H.out n g1 g2 he.symm
            rw [← this] at he
            exact hr he.symm)
          clear hr H
          unfold strOf at CR
          generalize (⟨(Nm.runS a).toArray⟩ : ByteArray) = b at *
          rcases hcut with hcut | hcut
          all_goals go_wp2_with fail
          all_goals refine (CR.out _).mono ?_
          all_goals rintro e w' ⟨rfl, hb⟩
          all_goals go_wp2_with fail
          all_goals go_ret2
          all_goals exact ⟨by rw [hno.out]; rfl, hb⟩
end Go.Proofs.YtcpahiipibpphaaDoor
