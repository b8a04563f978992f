/-
  The functions that append: clone, PutInt, PutText, PutBool of wire, and PutInt, PutText, PutBool of the reference, each by its contract: the result is a new slice of the bytes of b and the encoding.
-/
import Derived.Test.YtpoofeiajmkfdaaNum
import Derived.Test.YtpoofeiajmkfdaaMem
namespace Go.Proofs.Ytpoofeiajmkfdaa
open Go.RowKit

def by8 (b : UInt8) : Value := .int .u8 (b.toNat : Int)
def Bs (w : World) (v : Value) (bs : List UInt8) : Prop := Rd w v (bs.map by8)
def OwnB (w : World) (base : Nat) (v : Value) (bs : List UInt8) : Prop := Own w base 5 v (bs.map by8)
theorem one8 (bs : List UInt8) : ∀ u ∈ bs.map by8, u.oneCell' = true := by
  intro u hu
  obtain ⟨b, _, rfl⟩ := List.mem_map.1 hu
  rfl
theorem OwnB.bs {w : World} {base : Nat} {v : Value} {bs : List UInt8} (h : OwnB w base v bs) : Bs w v bs := Own.rd h
theorem OwnB.below {w w' : World} {base : Nat} {v : Value} {bs : List UInt8} (h : OwnB w base v bs) (hb : Below w.heap.size w w') : OwnB w' base v bs := Own.below h hb
theorem OwnB.lower {w : World} {base B : Nat} {v : Value} {bs : List UInt8} (h : OwnB w base v bs) (hB : B ≤ base) : OwnB w B v bs := Own.lower h hB
theorem Bs.below {w w' : World} {v : Value} {bs : List UInt8} (h : Bs w v bs) (hb : Below w.heap.size w w') : Bs w' v bs := Rd.below h hb
theorem Bs.nil (w : World) : Bs w (.slice none 0 0) [] := Rd.nil w
theorem Bs.form {w : World} {v : Value} {bs : List UInt8} (h : Bs w v bs) : ∃ A c, v = .slice A bs.length c := by
  obtain ⟨A, c, rfl, _⟩ := h
  exact ⟨A, c, by simp⟩

theorem Try.info5 : (Try.prog.info? 5).map (fun i => (i.zero, i.size, i.bytes)) = some (some (.int .u8 0), 1, 1) := by kernel_rfl

/-- What a function leaves that returns a new slice of bytes. -/
def NewB (w : World) (bs : List UInt8) (e : Ending) (w' : World) : Prop := ∃ v', e = .returned v' ∧ OwnB w' w.heap.size v' bs ∧ Below w.heap.size w w'

set_option maxHeartbeats 400000 in
theorem clone_rd (v : Value) (xs : List Value) (m : Int) (w : World) (hrd : Rd w v xs) (h1 : ∀ u ∈ xs, u.oneCell' = true) (h0 : 0 ≤ m) (hm : m ≤ 1099511627776) (hl : xs.length ≤ 1099511627776) :
    Calls Try.prog 82 #[v, .int .i64 m] w fun e w' => ∃ v', e = .returned v' ∧ Own w' w.heap.size 5 v' xs ∧ Below w.heap.size w w' := by
  obtain ⟨k, rfl⟩ := Int.eq_ofNat_of_zero_le h0
  obtain ⟨A, c, rfl, hc1, hc2, hcells⟩ := hrd
  obtain ⟨i0, hi, hz0, hz1, hz2⟩ := info_parts Try.info5
  have hmk := fun W : World => run_makeN (P := Try.prog) W 50 5 i0 (.int .u8 0) Try.underlying50 hi hz0 hz1 xs.length (xs.length + k) (by omega) (by rw [hz2]; omega) (by omega)
  rw [Int.natCast_add] at hmk
  clear hc1 hc2
  have hcp := run_copy_new (P := Try.prog) w 50 3 5 i0 (.int .u8 0) Try.underlying50 hi hz1 xs k c A hcells h1
  clear hcells
  clear hi hz0 hz1 hz2
  go_enter Try.func82, Try.ntmps82
  go_wp2_with fail
  go_ret
  exact ⟨_, rfl, by simpa using Own.cap w xs (List.replicate k (.int .u8 0)) (Nat.le_refl _) (by simp [maxLen]; omega), (Below.refl _ _).alloc (Nat.le_refl _) _⟩

theorem clone_any (v : Value) (bs : List UInt8) (m : Int) (w : World) (hrd : Bs w v bs) (h0 : 0 ≤ m) (hm : m ≤ 1099511627776) (hl : bs.length ≤ 1099511627776) :
    Calls Try.prog 82 #[v, .int .i64 m] w (NewB w bs) :=
  (clone_rd v (bs.map by8) m w hrd (one8 bs) h0 hm (by simpa using hl)).mono fun _ _ h => h

/-- A literal of bytes, just made. -/
theorem lit_rd (w : World) (xs : List Value) (h : xs.length ≤ maxLen) : Rd (w.alloc (.cells xs.toArray 5)) (.slice (some ⟨w.heap.size, 0, none⟩) xs.length xs.length) xs :=
  (Own.lit (base := 0) w xs (Nat.zero_le _) h).rd

theorem lit8 {m : Nat} (h : m < 256) : Value.int .u8 (m : Int) = by8 (UInt8.ofNat m) := by
  unfold by8; rw [Wi.ofNat_toNat h]

/-- 'append(out, x)' of one byte: the literal [x] has just been made. -/
theorem wpList_app8 {wr : World} {ops : Array Oper} {rest : List Oper} {o : Oper} {a : Act} {Q : Exit → Act → World → Prop} (hgd : o.guard = none) (s x : Operand)
    (ho : o.op = .call { callee := .builtin .append, args := #[s, x], argTypes := #[50, 50] })
    (base : Nat) (v : Value) (pre : List UInt8) (k : Int) (b : UInt8) (hk : Value.int .u8 k = by8 b) (hs : a.eval s = v) (hown : OwnB wr base v pre) (hx : a.eval x = .slice (some ⟨wr.heap.size, 0, none⟩) 1 1)
    (hl : pre.length ≤ 70368744177664) (hbase : base ≤ wr.heap.size)
    (h : ∀ v' w', OwnB w' base v' (pre ++ [b]) → Below base wr w' → wpList Try.prog ops Q rest (a.put o.dst v') w') : wpList Try.prog ops Q (o :: rest) a (wr.alloc (.cells #[.int .u8 k] 5)) := by
  obtain ⟨i0, hi, hz0, hz1, hz2⟩ := info_parts Try.info5
  refine wpList_app (wr.alloc (.cells #[.int .u8 k] 5)) hgd s x 50 ho base 5 i0 (.int .u8 0) 1 Try.underlying50 hi hz0 hz1 hz2 rfl v _ (pre.map by8) [.int .u8 k] hs (Own.alloc hown _) hx
    (lit_rd wr [.int .u8 k] (by simp [maxLen])) (by intro u hu; obtain rfl := List.mem_singleton.1 hu; rfl) (by simp; omega) (by simp; omega) (by simp; omega) ?_
  intro v' w' h1 h2
  refine h v' w' ?_ (((Below.refl base wr).alloc hbase _).trans h2)
  unfold OwnB
  rw [List.map_append]
  rw [hk] at h1
  exact h1

theorem or128 (m : Nat) : bits BinOp.or IntKind.u8 ((m : Int) % 256) 128 = ((m % 128 + 128 : Nat) : Int) := by
  have h := u8_or_nat (m % 256) 128 (by omega) (by omega)
  rw [show ((m : Int) % 256) = ((m % 256 : Nat) : Int) by omega]
  rw [show ((m % 128 + 128 : Nat)) = m % 256 ||| 128 from ?_]
  · exact h
  · have h1 : m % 256 = m % 128 + (m / 128 % 2) * 128 := by omega
    rw [h1]
    rcases Nat.mod_two_eq_zero_or_one (m / 128) with e | e
    · rw [e, Nat.zero_mul, Nat.add_zero, Nat.or_comm]
      exact (nat_join 7 128 (m % 128) (by decide) (by omega)).symm ▸ (Nat.add_comm _ _)
    · rw [e, Nat.one_mul]
      have e2 : m % 128 + 128 = 128 ||| (m % 128) := by rw [nat_join 7 128 (m % 128) (by decide) (by omega)]; omega
      rw [e2, Nat.or_assoc, Nat.or_comm (m % 128) 128, ← Nat.or_assoc, Nat.or_self]

/-- The loop's relation in PutInt: what has been written, and what is left to be written. -/
def PutRel (w : World) (full : List UInt8) (v5 v6 : Value) (wr : World) : Prop :=
  ∃ (pre : List UInt8) (m : Nat), OwnB wr w.heap.size v5 pre ∧ v6 = .int .u64 (m : Int) ∧ pre ++ Wi.digs m = full ∧ m < 18446744073709551616 ∧ Below w.heap.size w wr

theorem pre_le {pre l full : List UInt8} {k : Nat} (h : pre ++ l = full) (hk : full.length ≤ k) : pre.length ≤ k := by
  have := congrArg List.length h
  simp at this
  omega

set_option maxRecDepth 100000 in
set_option maxHeartbeats 400000 in
theorem putInt_any (v : Value) (bs : List UInt8) (n : Int) (w : World) (hrd : Bs w v bs) (hl : bs.length ≤ 1099511627776) (hn1 : -9223372036854775808 ≤ n) (hn2 : n ≤ 9223372036854775807) :
    Calls Try.prog 105 #[v, .int .i64 n] w (NewB w (bs ++ Wi.enc n)) := by
  have hfl : (bs ++ Wi.enc n).length ≤ 70368744177664 := by
    have := (Wi.enc_len n hn1 hn2).2
    simp; omega
  generalize hfe : bs ++ Wi.enc n = full at hfl
  have HE := hid hfe
  clear hfe
  go_enter Try.func105, Try.ntmps105
  go_wp2_with (first | (go_at_call 82; refine (clone_any v bs 10 _ hrd (by omega) (by omega) hl).mono ?_; rintro e w1 ⟨v1, rfl, hown1, hb1⟩) | (go_at_call 127; refine (fold_any n _ hn1 hn2).mono ?_; rintro e w' ⟨rfl, rfl⟩))
  have HL := hid hfl
  have HR : Hid (PutRel w full v1 (.int .u64 (Wi.zig n)) w1) := ⟨bs, Wi.zig n, hown1, rfl, HE.out, Wi.zig_lt n hn1 hn2, hb1⟩
  clear hfl hown1 hb1 hn1 hn2 hl hrd
  go_loopw [5, 6] (fun v5 v6 wr => PutRel w full v5 v6 wr) (fun _ v6 _ => (intOf v6).toNat)
  case atStart => exact HR.out
  case round =>
    obtain ⟨pre, m, hown, rfl, hfull, hm, hbw⟩ := hrel
    have HF := hid hfull
    have HM := hid hm
    have hpre := pre_le hfull HL.out
    clear hfull hm
    have hsz := hbw.size
    by_cases h128 : m < 128
    · go_wp2_with (at_builtin; refine wpList_app8 rfl (.tmp 21) (.tmp 24) rfl w.heap.size u5 pre _ (UInt8.ofNat m) (lit8 (by omega)) rfl hown rfl hpre hsz ?_; intro v' w' hown' hb')
      go_ret
      refine ⟨v', rfl, ?_, hbw.trans hb'⟩
      have := HF.out
      rw [Wi.digs_small h128] at this
      rw [← this]
      exact hown'
    · have hor : bits BinOp.or IntKind.u8 ((m : Int) % 256) 128 = (m : Int) % 128 + 128 := or128 m
      have H8 : Hid (Value.int .u8 ((m : Int) % 128 + 128) = by8 (UInt8.ofNat (m % 128 + 128))) := lit8 (m := m % 128 + 128) (by omega)
      go_wp2_with (at_builtin; refine wpList_app8 rfl (.tmp 13) (.tmp 17) rfl w.heap.size u5 pre _ (UInt8.ofNat (m % 128 + 128)) H8.out rfl hown rfl hpre hsz ?_; intro v' w' hown' hb')
      go_roundw
      case rel => 
        refine ⟨_, m / 128, hown', by go_num, ?_, by have := HM.out; omega, hbw.trans hb'⟩
        have := HF.out
        rw [Wi.digs_big h128] at this
        rw [← this]
        simp
      case measure => simp [intOf]; omega

theorem putInt_nil (n : Int) (w : World) (hn1 : -9223372036854775808 ≤ n) (hn2 : n ≤ 9223372036854775807) :
    Calls Try.prog 105 #[.slice none 0 0, .int .i64 n] w (NewB w (Wi.enc n)) :=
  putInt_any _ [] n w (Bs.nil w) (by simp) hn1 hn2

def encText (l : List UInt8) : List UInt8 := Wi.enc l.length ++ l
theorem strCells_by8 (s : ByteArray) : Lib.strCells s = s.data.toList.map by8 := rfl
theorem size_list (s : ByteArray) : s.size = s.data.toList.length := by simp

theorem NewB.form {w : World} {bs : List UInt8} {e : Ending} {w' : World} (h : NewB w bs e w') : ∃ A c, e = .returned (.slice A bs.length c) ∧ OwnB w' w.heap.size (.slice A bs.length c) bs ∧ Below w.heap.size w w' := by
  obtain ⟨v, rfl, hown, hb⟩ := h
  obtain ⟨A, c, rfl⟩ := hown.bs.form
  exact ⟨A, c, rfl, hown, hb⟩

/-- append of bytes onto bytes of the call's own. -/
theorem wpList_appB {w : World} {ops : Array Oper} {rest : List Oper} {o : Oper} {a : Act} {Q : Exit → Act → World → Prop} (hgd : o.guard = none) (s x : Operand)
    (ho : o.op = .call { callee := .builtin .append, args := #[s, x], argTypes := #[50, 50] })
    (base : Nat) (v y : Value) (xs news : List UInt8) (hs : a.eval s = v) (hown : OwnB w base v xs) (hx : a.eval x = y) (hrd : Bs w y news)
    (hl : xs.length + news.length ≤ 140737488355328) (hbase : base ≤ w.heap.size)
    (h : ∀ v' w', OwnB w' base v' (xs ++ news) → Below base w w' → wpList Try.prog ops Q rest (a.put o.dst v') w') : wpList Try.prog ops Q (o :: rest) a w := by
  obtain ⟨i0, hi, hz0, hz1, hz2⟩ := info_parts Try.info5
  refine wpList_app w hgd s x 50 ho base 5 i0 (.int .u8 0) 1 Try.underlying50 hi hz0 hz1 hz2 rfl v y (xs.map by8) (news.map by8) hs hown hx hrd (one8 news) (by simp; omega) (by simp; omega) hbase ?_
  intro v' w' h1 h2
  exact h v' w' (by unfold OwnB; rw [List.map_append]; exact h1) h2

theorem wpList_appS {w : World} {ops : Array Oper} {rest : List Oper} {o : Oper} {a : Act} {Q : Exit → Act → World → Prop} (hgd : o.guard = none) (sl x : Operand)
    (ho : o.op = .call { callee := .builtin .append, args := #[sl, x], argTypes := #[50, 9] })
    (base : Nat) (v : Value) (xs : List UInt8) (hs : a.eval sl = v) (hown : OwnB w base v xs) (s : ByteArray) (hx : a.eval x = .string s)
    (hl : xs.length + s.size ≤ 140737488355328) (hbase : base ≤ w.heap.size)
    (h : ∀ v' w', OwnB w' base v' (xs ++ s.data.toList) → Below base w w' → wpList Try.prog ops Q rest (a.put o.dst v') w') : wpList Try.prog ops Q (o :: rest) a w := by
  obtain ⟨i0, hi, hz0, hz1, hz2⟩ := info_parts Try.info5
  refine wpList_appStr w hgd sl x 50 9 ho base 5 i0 Try.underlying50 Try.underlying9 hi hz0 hz1 hz2 v (xs.map by8) hs hown s hx (by simpa using hl) hbase ?_
  intro v' w' h1 h2
  exact h v' w' (by unfold OwnB; rw [List.map_append]; exact h1) h2

set_option maxRecDepth 100000 in
set_option maxHeartbeats 400000 in
theorem putText_any (v : Value) (bs : List UInt8) (s : ByteArray) (w : World) (hrd : Bs w v bs) (hl : bs.length ≤ 1099511627776) (hsl : s.size ≤ 549755813888) :
    Calls Try.prog 106 #[v, .string s] w (NewB w (bs ++ encText s.data.toList)) := by
  have hE := Wi.enc_len (s.size : Int) (by omega) (by omega)
  have c12 := fun W => putInt_nil (s.size : Int) W (by omega) (by omega)
  have C12 := hid c12
  clear c12
  have HF : Hid (bs ++ encText s.data.toList = bs ++ Wi.enc (s.size : Int) ++ s.data.toList) := by
    show _ = _
    unfold encText
    rw [← size_list, List.append_assoc]
  generalize Wi.enc (s.size : Int) = E at hE C12 HF
  obtain ⟨hE1, hE2⟩ := hE
  generalize bs ++ encText s.data.toList = full at HF
  go_enter Try.func106, Try.ntmps106
  go_wp2_with (first
    | (go_at_call 105; refine (C12.out _).mono ?_; intro e w1 hnew; obtain ⟨A1, c1, rfl, hown1, hb1⟩ := hnew.form; clear hnew)
    | (go_at_call 82; refine (clone_any v bs _ _ (hrd.below hb1) (by omega) (by omega) hl).mono ?_; rintro e w2 ⟨v2, rfl, hown2, hb2⟩
       have hs1 := hb1.size
       have hs2 := hb2.size)
    | (at_builtin; refine wpList_appB rfl (.tmp 17) (.tmp 18) rfl w.heap.size v2 _ bs E rfl (hown2.lower hs1) rfl (hown1.below hb2).bs (by omega) (by omega) ?_
       intro v3 w3 hown3 hb3
       have hs3 := hb3.size
       have hl3 : (bs ++ E).length ≤ 1099511627786 := by simp; omega)
    | (at_builtin; refine wpList_appS rfl (.tmp 20) (.tmp 21) rfl w.heap.size v3 (bs ++ E) rfl hown3 s rfl (by omega) (by omega) ?_
       intro v4 w4 hown4 hb4))
  go_ret
  exact ⟨v4, rfl, by rw [HF.out]; exact hown4, ((bstep hb1 hb2).trans hb3).trans hb4⟩

theorem by8_bool (b : Bool) : [if b then (1 : UInt8) else 0].map by8 = [Value.int .u8 (if b then 1 else 0)] := by cases b <;> rfl
def encBool (b : Bool) : List UInt8 := [if b then 1 else 0]

end Go.Proofs.Ytpoofeiajmkfdaa
