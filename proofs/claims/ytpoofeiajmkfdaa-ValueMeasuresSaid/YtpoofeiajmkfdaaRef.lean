/-
  The reference's functions that append (PutInt, PutText, PutBool of workflowref01), each by its contract: the same bytes as the program's.
-/
import Derived.Test.YtpoofeiajmkfdaaPut
namespace Go.Proofs.Ytpoofeiajmkfdaa
open Go.RowKit

theorem Bs.alloc {w : World} {v : Value} {bs : List UInt8} (h : Bs w v bs) (o : Obj) : Bs (w.alloc o) v bs := h.below ((Below.refl _ _).alloc (Nat.le_refl _) o)

/-- 'append([]byte{}, b...)'. -/
theorem wpList_app0 {w : World} {ops : Array Oper} {rest : List Oper} {o : Oper} {a : Act} {Q : Exit → Act → World → Prop} (hgd : o.guard = none) (s x : Operand)
    (ho : o.op = .call { callee := .builtin .append, args := #[s, x], argTypes := #[50, 50] })
    (y : Value) (news : List UInt8) (hs : a.eval s = .slice (some ⟨w.heap.size, 0, none⟩) 0 0) (hx : a.eval x = y) (hrd : Bs w y news) (hl : news.length ≤ 140737488355328)
    (h : ∀ v' w', OwnB w' w.heap.size v' news → Below w.heap.size w w' → wpList Try.prog ops Q rest (a.put o.dst v') w') : wpList Try.prog ops Q (o :: rest) a (w.alloc (.cells #[] 5)) := by
  refine wpList_appB hgd s x ho w.heap.size _ y [] news hs (Own.lit (e := 5) w [] (Nat.le_refl _) (by simp)) hx (hrd.alloc _) (by simp; omega) (by simp) ?_
  intro v' w' h1 h2
  exact h v' w' h1 (((Below.refl w.heap.size w).alloc (Nat.le_refl _) _).trans h2)

set_option maxRecDepth 100000 in
set_option maxHeartbeats 400000 in
theorem rputInt_any (v : Value) (bs : List UInt8) (n : Int) (w : World) (hrd : Bs w v bs) (hl : bs.length ≤ 1099511627776) (hn1 : -9223372036854775808 ≤ n) (hn2 : n ≤ 9223372036854775807) :
    Calls Try.prog 107 #[v, .int .i64 n] w (NewB w (bs ++ Wi.enc n)) := by
  have hfl : (bs ++ Wi.enc n).length ≤ 70368744177664 := by
    have := (Wi.enc_len n hn1 hn2).2
    simp; omega
  generalize hfe : bs ++ Wi.enc n = full at hfl
  have HE := hid hfe
  clear hfe
  go_enter Try.func107, Try.ntmps107
  go_wp2_with (first
    | (at_builtin; refine wpList_app0 rfl (.tmp 7) (.tmp 8) rfl v bs rfl rfl hrd (by omega) ?_; intro v1 w1 hown1 hb1)
    | (go_at_call 128; refine (zigzag_any n _ hn1 hn2).mono ?_; rintro e w' ⟨rfl, rfl⟩))
  have HL := hid hfl
  have HR : Hid (PutRel w full v1 (.int .u64 (Wi.zig n)) w1) := ⟨bs, Wi.zig n, hown1, rfl, HE.out, Wi.zig_lt n hn1 hn2, hb1⟩
  clear hfl hown1 hb1 hn1 hn2 hl hrd
  go_loopw [5, 6] (fun v5 v6 wr => PutRel w full v5 v6 wr) (fun _ v6 _ => (intOf v6).toNat)
  case atStart => exact HR.out
  case round =>
    obtain ⟨pre, m, hown, rfl, hfull, hm, hbw⟩ := hrel
    have HF := hid hfull
    have HM := hid hm
    have hpre := pre_le hfull HL.out
    clear hfull hm
    have hsz := hbw.size
    by_cases h128 : m < 128
    · go_wp2_with (at_builtin; refine wpList_app8 rfl (.tmp 23) (.tmp 26) rfl w.heap.size u5 pre _ (UInt8.ofNat m) (lit8 (by omega)) rfl hown rfl hpre hsz ?_; intro v' w' hown' hb')
      go_ret
      refine ⟨v', rfl, ?_, hbw.trans hb'⟩
      have := HF.out
      rw [Wi.digs_small h128] at this
      rw [← this]
      exact hown'
    · have H8 : Hid (Value.int .u8 ((m : Int) % 128 + 128) = by8 (UInt8.ofNat (m % 128 + 128))) := lit8 (m := m % 128 + 128) (by omega)
      have hq : IntKind.u64.wrap ((m : Int) / 128) = (m : Int) / 128 := by have := HM.out; exact IntWalk.u64_in _ (by omega)
      go_wp2_with (at_builtin; refine wpList_app8 rfl (.tmp 14) (.tmp 19) rfl w.heap.size u5 pre _ (UInt8.ofNat (m % 128 + 128)) H8.out rfl hown rfl hpre hsz ?_; intro v' w' hown' hb')
      go_roundw
      case rel =>
        refine ⟨_, m / 128, hown', by go_num, ?_, by have := HM.out; omega, hbw.trans hb'⟩
        have := HF.out
        rw [Wi.digs_big h128] at this
        rw [← this]
        simp
      case measure => simp [intOf]; omega

/-- A byte of a string, as the walk reads it. -/
def sb (s : ByteArray) (k : Nat) : UInt8 := s.data.toList.getD k 0

set_option maxRecDepth 100000 in
set_option maxHeartbeats 400000 in
theorem rputText_any (v : Value) (bs : List UInt8) (s : ByteArray) (w : World) (hrd : Bs w v bs) (hl : bs.length ≤ 1099511627776) (hsl : s.size ≤ 549755813888) :
    Calls Try.prog 108 #[v, .string s] w (NewB w (bs ++ encText s.data.toList)) := by
  have hE := Wi.enc_len (s.size : Int) (by omega) (by omega)
  have HF : Hid (bs ++ encText s.data.toList = bs ++ Wi.enc (s.size : Int) ++ s.data.toList) := by
    show _ = _
    unfold encText
    rw [← size_list, List.append_assoc]
  have hpl : (bs ++ Wi.enc (s.size : Int)).length ≤ 2199023255552 := by simp; omega
  have C13 := hid (fun W (h : Bs W v bs) => rputInt_any v bs (s.size : Int) W h hl (by omega) (by omega))
  generalize bs ++ Wi.enc (s.size : Int) = pre at hpl C13 HF
  generalize bs ++ encText s.data.toList = full at HF
  clear hE
  go_enter Try.func108, Try.ntmps108
  go_wp2_with (go_at_call 107; refine (C13.out _ hrd).mono ?_; rintro e w1 ⟨v1, rfl, hown1, hb1⟩)
  go_loopw [5, 6] (fun v5 v6 wr => ∃ k : Nat, k ≤ s.size ∧ v6 = .int .i64 k ∧ OwnB wr w.heap.size v5 (pre ++ s.data.toList.take k) ∧ Below w.heap.size w wr) (fun _ v6 _ => s.size - (intOf v6).toNat)
  case atStart => exact ⟨0, Nat.zero_le _, rfl, by simpa using hown1, hb1⟩
  case round =>
    obtain ⟨k, hk, rfl, hown, hbw⟩ := hrel
    clear hown1 hb1
    have hsz := hbw.size
    have hln : (pre ++ s.data.toList.take k).length ≤ 70368744177664 := by simp; omega
    by_cases hlt : k < s.size
    · have HS : Hid ((pre ++ s.data.toList.take k) ++ [s[k]] = pre ++ s.data.toList.take (k + 1)) := by
        show _ = _
        rw [List.take_succ_eq_append_getElem (by simpa using hlt), List.append_assoc]
        rfl
      generalize hpp : pre ++ s.data.toList.take k = pp at hown hln HS
      clear hpp
      go_wp2_with (at_builtin; refine wpList_app8 rfl (.tmp 17) (.tmp 21) rfl w.heap.size u5 pp _ s[k] rfl rfl hown rfl hln hsz ?_; intro v' w' hown' hb')
      go_roundw
      case rel => exact ⟨k + 1, by omega, by go_num, by rw [← HS.out]; exact hown', hbw.trans hb'⟩
      case measure => simp [intOf]; omega
    · go_wp2
      go_ret
      refine ⟨u5, rfl, ?_, hbw⟩
      rw [HF.out]
      rw [List.take_of_length_le (by simp; omega)] at hown
      exact hown
end Go.Proofs.Ytpoofeiajmkfdaa
