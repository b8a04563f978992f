/-
  Texts of a proof, joined: functions of the program and of its reference by contract, and what holds of trees, tokens and bytes.
-/
import Derived.BigQuiet
import Derived.Deep.DeepHandedRow
import Derived.LaidHandle
import Derived.LaidMore
import Derived.Laws.StructEq
import Derived.Lib.AppendIntMem
import Derived.Lib.ItoaLen
import Derived.Lib.LaidTab
import Derived.Lib.ParseIntBTie
import Derived.Lib.SmallJoins
import Derived.MakeChecks
import Derived.Maps.AppendAt
import Derived.Shelf.Bits.Mul64
import Derived.Shelf.LaysC
import Derived.Shelf.LaysM
import Derived.Shelf.Small.Strs
import Derived.Shelf.Small.Utf8
import Derived.Shelf.Strconv.Clone
import Derived.Shelf.Strconv.ErrVarParseInt
import Derived.Shelf.Strconv.Itoa0
import Derived.Shelf.Strconv.Itoa1
import Derived.Shelf.Strconv.Itoa2
import Derived.Shelf.Strconv.Itoa3
import Derived.Shelf.Strconv.Lower
import Derived.Shelf.Strconv.ParseInt10
import Derived.Shelf.Strconv.ParseInt10All
import Derived.Shelf.Strconv.ParseInt10At16
import Derived.Shelf.Strconv.ParseInt10At32
import Derived.Shelf.Strconv.ParseInt10At64
import Derived.Shelf.Strconv.ParseInt10At8
import Derived.Shelf.Strconv.ParseIntEmpty
import Derived.Shelf.Strconv.ParseIntPublic10
import Derived.Shelf.Strconv.ParseUint10
import Derived.Shelf.Strconv.ParseUint10Any
import Derived.Shelf.Strconv.ParseUint10At
import Derived.Shelf.Strconv.ParseUint10Empty
import Derived.Shelf.Strconv.ParseUint10b16
import Derived.Shelf.Strconv.ParseUint10b32
import Derived.Shelf.Strconv.ParseUint10b64
import Derived.Shelf.Strconv.ParseUint10b8
import Derived.Shelf.Strconv.ParseUintEmpty
import Derived.Shelf.Strconv.RangeError
import Derived.Shelf.Strconv.SyntaxError
import Derived.Shelf.Strconv.ToError
import Derived.Shelf.Strconv.ToErrorRange
import Derived.Shelf.Strings.Prefix
import Derived.Shelf.Strings.Runes
import Derived.Shelf.Strings.Search1
import Derived.Stop.LaidErr
import Derived.Test.YtgeppafcemeidaaGreatDoorJPA1
import Derived.Test.YtgeppafcemeidaaGreatDoorProg
import Derived.Test.YtgeppafcemeidaaGreatDoorRows
import Derived.WalkMore
import Derived.WalkSmall
set_option linter.unusedVariables false
set_option linter.unusedSimpArgs false
set_option maxRecDepth 100000
set_option maxHeartbeats 8000000
namespace Go.Proofs.YtgeppafcemeidaaGreatDoor
open Go.Shelf
def Tryz.lays137_ren : Go.Shelf.Ren:=⟨fun | 137 => 188 | 217 => 216 | 266 => 237 | n => n,fun | 9 => 9 | 5 => 5 | 3 => 3 | n => n,fun | n => n⟩
theorem Tryz.lays137 : Go.Proofs.Lays.n137 Tryz.prog Tryz.lays137_ren:={
 mixed:=by kernel_rfl
 f137:=Tryz.func188.trans (congrArg some (by kernel_rfl))
 f217:=Tryz.func216.trans (congrArg some (by kernel_rfl))
 f266:=Tryz.func237.trans (congrArg some (by kernel_rfl))
 t3:=Tryz.underlying3
 a3:=Tryz.isAgg3
 z3:=Tryz.sizeOf3
 v3:=Tryz.zeroValue3
 t5:=Tryz.underlying5
 a5:=Tryz.isAgg5
 z5:=Tryz.sizeOf5
 v5:=Tryz.zeroValue5
 t9:=Tryz.underlying9
 a9:=Tryz.isAgg9
 z9:=Tryz.sizeOf9
 v9:=Tryz.zeroValue9 }
open Go.RowKit in
theorem Tryz.strings_IndexByte (s : ByteArray) (c : Int) (w : World) :
  Calls Tryz.prog 188 #[.string s,.int .u8 c] w fun e w' => e = .returned (.int .i64 (Lib.indexByte s.data.toList c.toNat.toUInt8)) /\ w' = w:=Any.strings_IndexByte Tryz.lays137 s c w
def Tryz.lays152_ren : Go.Shelf.Ren:=⟨fun | 152 => 164 | 137 => 188 | 119 => 189 | 224 => 190 | 225 => 191 | 217 => 216 | 266 => 237 | n => n,fun | 9 => 9 | 21 => 21 | 3 => 3 | 4 => 4 | 5 => 5 | 0 => 0 | 46 => 140 | n => n,fun | n => n⟩
theorem Tryz.lays152 : Go.Proofs.Lays.n152 Tryz.prog Tryz.lays152_ren:={
 mixed:=by kernel_rfl
 f119:=Tryz.func189.trans (congrArg some (by kernel_rfl))
 f137:=Tryz.func188.trans (congrArg some (by kernel_rfl))
 f152:=Tryz.func164.trans (congrArg some (by kernel_rfl))
 f217:=Tryz.func216.trans (congrArg some (by kernel_rfl))
 f224:=Tryz.func190.trans (congrArg some (by kernel_rfl))
 f225:=Tryz.func191.trans (congrArg some (by kernel_rfl))
 f266:=Tryz.func237.trans (congrArg some (by kernel_rfl))
 t0:=Tryz.underlying0
 a0:=Tryz.isAgg0
 z0:=Tryz.sizeOf0
 v0:=Tryz.zeroValue0
 t3:=Tryz.underlying3
 a3:=Tryz.isAgg3
 z3:=Tryz.sizeOf3
 v3:=Tryz.zeroValue3
 t4:=Tryz.underlying4
 a4:=Tryz.isAgg4
 z4:=Tryz.sizeOf4
 v4:=Tryz.zeroValue4
 t5:=Tryz.underlying5
 a5:=Tryz.isAgg5
 z5:=Tryz.sizeOf5
 v5:=Tryz.zeroValue5
 t9:=Tryz.underlying9
 a9:=Tryz.isAgg9
 z9:=Tryz.sizeOf9
 v9:=Tryz.zeroValue9
 t21:=Tryz.underlying21
 a21:=Tryz.isAgg21
 z21:=Tryz.sizeOf21
 v21:=Tryz.zeroValue21
 t46:=Tryz.underlying140
 a46:=Tryz.isAgg140
 z46:=Tryz.sizeOf140
 v46:=Tryz.zeroValue140 }
open Go.RowKit Go.Lib in
theorem Tryz.strings_IndexRune_ascii (s : ByteArray) (r : Int) (w : World) (h0 : 0 <= r) (h1 : r < 128) :
  Calls Tryz.prog 164 #[.string s,.int .i32 r] w fun e w' => e = .returned (.int .i64 (Lib.indexByte s.data.toList r.toNat.toUInt8)) /\ w' = w:=Any.strings_IndexRune_ascii Tryz.lays152 s r w h0 h1
end Go.Proofs.YtgeppafcemeidaaGreatDoor
namespace Go.Proofs.YtgeppafcemeidaaGreatDoor
open Go.RowKit
theorem idx_pos (l : List UInt8) (c : UInt8) : decide (0 <= Lib.indexByte l c) = l.contains c:=by
 induction l with
 | nil => rfl
 | cons b l ih =>
  have hg:=Lib.indexByte_ge l c
  rw [Lib.indexByte,List.contains_cons]
  by_cases h : b = c
  ·
   subst h;simp
  ·
   rw [if_neg (by simpa using h),show (c == b) = false by simpa using fun e => h e.symm,Bool.false_or,<- ih]
   by_cases h2 : Lib.indexByte l c = -1
   ·
    rw [if_pos (by simpa using h2),h2]
   ·
    rw [if_neg (by simpa using h2)]
    have : 0 <= Lib.indexByte l c:=by omega
    rw [decide_eq_true this,decide_eq_true (by omega)]
theorem idx_no {l : List UInt8} {c : UInt8} (h : ∀ b ∈ l,b.toNat < 128) (hc : 128 <= c.toNat) : Lib.indexByte l c = -1:=by
 have hp:=idx_pos l c
 have hn : l.contains c = false:=by
  rw [Bool.eq_false_iff]
  intro hh
  have:=h c (by simpa using hh)
  omega
 rw [hn] at hp
 have:=Lib.indexByte_ge l c
 have h0 : ¬ 0 <= Lib.indexByte l c:=by simpa using hp
 omega
theorem idx_end (s : ByteArray) (w : World) :
  Calls Tryz.prog 164 #[.string s,.int .i32 (-1)] w fun e w' => e = .returned (.int .i64 (-1)) /\ w = w':=by
 go_enter Tryz.func164,Tryz.ntmps164
 go_wp2_with (first | fail | go_in)
 go_ret
 exact ⟨rfl,rfl⟩
theorem index_no (s : ByteArray) (c : UInt8) (hs : ∀ b ∈ s.data.toList,b.toNat < 128) (hc : 128 <= c.toNat) (w : World) :
  Calls Tryz.prog 188 #[.string s,.int .u8 (c.toNat : Int)] w fun e w' => e = .returned (.int .i64 (-1)) /\ w' = w:=by
 refine (Tryz.strings_IndexByte s _ w).mono ?_
 rintro e w' ⟨rfl,rfl⟩
 rw [show ((c.toNat : Int)).toNat.toUInt8 = c by simp,idx_no hs hc]
 exact ⟨rfl,rfl⟩
theorem idx_wide (s : ByteArray) (hs : ∀ b ∈ s.data.toList,b.toNat < 128) (_hl : s.size <= 1000) (r : Int) (h0 : 128 <= r) (h1 : r < 256) (w : World) :
  Calls Tryz.prog 164 #[.string s,.int .i32 r] w fun e w' => e = .returned (.int .i64 (-1)) /\ ∃ q,w' = w.drewN q:=by
 have hv : Utf8.valid r = true:=by rw [validRune_eq];simp [validRune];omega
 obtain ⟨e1,e2,e3⟩:=encode_facts r hv h0
 have hcv : ∀ W : World,(convert 21 9 (.int .i32 r)).run Tryz.prog W = .ok (.string (Utf8.encode r)) W:=fun W => run_convert_int_string W _ _ _ _ (by kernel_rfl) Tryz.underlying9
 have HS:=hid hs
 clear hs hv
 generalize Utf8.encode r = rs at *
 obtain ⟨n,hn⟩ : ∃ n,rs.size = n + 1:=⟨rs.size - 1,by omega⟩
 have hn1 : n < rs.size:=by omega
 have e3' : 128 <= (rs[n]).toNat:=by have:=e3 (by omega);simpa only [hn,Nat.add_sub_cancel] using this
 have hn4 : n <= 3:=by omega
 clear e1 e2 e3
 have hcn:=(rs[n]).toNat_lt
 have HE:=hid e3'
 go_enter Tryz.func164,Tryz.ntmps164
 go_wp2_with (first | fail | go_in)
 go_step3
 go_wp2_with fail
 clear hn
 refine wp_loop_rounds 1 ?_
 rw [rounds_succ]
 by_cases hi : n < s.size
 ·
  have hne : ((s[n].toNat : Int) == (rs[n].toNat : Int)) = false:=by
   have h1:=HS.out s[n] (by show s.data[n] ∈ s.data.toList;exact Array.getElem_mem_toList _)
   simp;omega
  go_wp2_with fail
  go_step3
  go_wp2_with fail
  go_quiet (fail)
  go_wp2_with fail
  have hwr : IntKind.i64.wrap ((n : Int) + 1) = (n : Int) + 1:=wrap_small _ (by omega) (by omega)
  have hle1 : (n : Int) + 1 <= (s.size : Int):=by omega
  have hle0 : 0 <= (n : Int) + 1:=by omega
  have htn : ((n : Int) + 1).toNat = n + 1:=by omega
  have C:=hid (fun W => index_no (s.extract (n + 1) s.size) rs[n] (fun b hb => HS.out b (mem_extract hb)) e3' W)
  go_quiet (first | (refine (C.out _).mono ?_;rintro e w' ⟨rfl,rfl⟩;exact ⟨rfl,_,rfl⟩))
  go_wp2_with fail
  simp only [Exit.noGoto,Exit.inBlock,Exit.then]
  go_ret
  exact ⟨rfl,_,rfl⟩
 ·
  go_wp2_with fail
  rw [Exit.noGoto_ret]
  go_ret
  exact ⟨rfl,0,rfl⟩
def ixp (s : List UInt8) (l : List UInt8) : Int:=match l with
 | [] => -1
 | c :: _ => Lib.indexByte s c
theorem idx_any (s : ByteArray) (hs : ∀ b ∈ s.data.toList,b.toNat < 128) (hl : s.size <= 1000) (l : List UInt8) (w : World) :
  Calls Tryz.prog 164 #[.string s,.int .i32 (rn l)] w fun e w' => e = .returned (.int .i64 (ixp s.data.toList l)) /\ ∃ q,w' = w.drewN q:=by
 cases l with
 | nil =>
  refine (idx_end s w).mono ?_
  rintro e w' ⟨rfl,rfl⟩
  exact ⟨rfl,0,rfl⟩
 | cons c r =>
  have hc:=c.toNat_lt
  by_cases h : c.toNat < 128
  ·
   refine (Tryz.strings_IndexRune_ascii s (c.toNat : Int) w (by omega) (by omega)).mono ?_
   rintro e w' ⟨rfl,rfl⟩
   rw [show ((c.toNat : Int)).toNat.toUInt8 = c by simp]
   exact ⟨rfl,0,rfl⟩
  ·
   refine (idx_wide s hs hl (c.toNat : Int) (by omega) (by omega) w).mono ?_
   rintro e w' ⟨rfl,q,rfl⟩
   rw [show ixp s.data.toList (c :: r) = -1 from idx_no hs (by omega)]
   exact ⟨rfl,_,rfl⟩
theorem contains_any (s : ByteArray) (hs : ∀ b ∈ s.data.toList,b.toNat < 128) (hl : s.size <= 1000) (l : List UInt8) (w : World) :
  Calls Tryz.prog 128 #[.string s,.int .i32 (rn l)] w fun e w' => e = .returned (.bool (hdp s.data.toList.contains l)) /\ ∃ q,w' = w.drewN q:=by
 have C:=idx_any s hs hl l w
 have hb : hdp s.data.toList.contains l = decide (0 <= ixp s.data.toList l):=by
  cases l with
  | nil => rfl
  | cons c r => exact (idx_pos _ c).symm
 rw [hb]
 clear hb hs
 generalize ixp s.data.toList l = x at *
 generalize rn l = y at *
 go_enter Tryz.func128,Tryz.ntmps128
 go_wp2_with fail
 refine C.mono ?_
 rintro e w' ⟨rfl,q,rfl⟩
 go_wp2_with fail
 go_ret
 exact ⟨rfl,_,rfl⟩
def fv (k : Nat) : Value:=.func (.func 127) #[] #[.pointer (some ⟨k,0,none⟩)]
def Cl (w : World) (g k : Nat) (p : UInt8 -> Bool) : Prop :=
 ∃ s : ByteArray,k ≠ g /\ w.cell? ⟨k,0,none⟩ = some (.string s) /\ (∀ b ∈ s.data.toList,b.toNat < 128) /\ s.size <= 1000 /\ ∀ c,s.data.toList.contains c = p c
theorem Cl.ch {w w' : World} {g k : Nat} {p : UInt8 -> Bool} (h : Cl w g k p) (c : Ch g w w') : Cl w' g k p:=by
 obtain ⟨s,h1,h2,h3⟩:=h
 exact ⟨s,h1,c.cell h2 h1,h3⟩
theorem cls_any (g k : Nat) (p : UInt8 -> Bool) (l : List UInt8) (w : World) (h : Cl w g k p) :
  Calls Tryz.prog 127 #[.int .i32 (rn l),.pointer (some ⟨k,0,none⟩)] w fun e w' => e = .returned (.bool (hdp p l)) /\ ∃ q,w' = w.drewN q:=by
 obtain ⟨s,_,hc,h3,h4,h5⟩:=h
 have C:=contains_any s h3 h4 l w
 have hb : hdp s.data.toList.contains l = hdp p l:=by
  cases l with
  | nil => rfl
  | cons c r => exact h5 c
 rw [hb] at C
 clear hb h3 h5
 generalize hdp p l = x at *
 generalize rn l = y at *
 go_enter Tryz.func127,Tryz.ntmps127
 go_wp2_with fail
 refine C.mono ?_
 rintro e w' ⟨rfl,q,rfl⟩
 go_wp2_with fail
 go_ret
 exact ⟨rfl,_,rfl⟩
theorem among_any (g : Nat) (p : UInt8 -> Bool) (s : ByteArray) (w : World) (hg : g < w.heap.size) (hs : ∀ b ∈ s.data.toList,b.toNat < 128) (hl : s.size <= 1000) (hp : ∀ c,s.data.toList.contains c = p c) :
  Calls Tryz.prog 82 #[.string s] w fun e w' => ∃ k,e = .returned (fv k) /\ Below w.heap.size w w' /\ Cl w' g k p:=by
 have hmf : ∀ (fn : Fn) (first cap : Array Value) (w : World),(Instr.makeFunc fn first cap).run Tryz.prog w = .ok (.func fn first cap) w:=fun _ _ _ _ => rfl
 have HS:=hid hs
 have HP:=hid hp
 clear hs hp
 go_enter Tryz.func82,Tryz.ntmps82
 go_wp2_with fail
 go_ret
 refine ⟨w.heap.size,rfl,(Below.refl _ _).alloc (Nat.le_refl _) _,s,by omega,?_,HS.out,hl,HP.out⟩
 simp
end Go.Proofs.YtgeppafcemeidaaGreatDoor
namespace Go.Proofs.YtgeppafcemeidaaGreatDoor
open Go.RowKit
theorem extract_list (s : ByteArray) (a b : Nat) : (s.extract a b).data.toList = (s.data.toList.drop a).take (b - a):=by
 rw [ByteArray.data_extract,Array.toList_extract,List.extract_eq_take_drop]
theorem extract_mk (s : ByteArray) (a b : Nat) : s.extract a b = ⟨((s.data.toList.drop a).take (b - a)).toArray⟩:=by
 rw [<- extract_list]
theorem takeWhile_take (p : UInt8 -> Bool) : ∀ l : List UInt8,l.take (l.length - (l.dropWhile p).length) = l.takeWhile p
 | [] => rfl
 | c :: l => by
  have ih:=takeWhile_take p l
  have hl:=Tk.dropWhile_len p l
  rw [List.dropWhile_cons,List.takeWhile_cons]
  by_cases h : p c = true
  ·
   rw [if_pos h,if_pos h,List.length_cons,show l.length + 1 - (l.dropWhile p).length = (l.length - (l.dropWhile p).length) + 1 by omega,List.take_succ_cons,ih]
  ·
   rw [if_neg h,if_neg h];simp
def posOf (w : World) (g : Nat) : Nat:=match w.cell? ⟨g,1,none⟩ with
 | some v => (intOf v).toNat
 | none => 0
theorem Sc.pos {w : World} {g n : Nat} {s : ByteArray} {l : List UInt8} (h : Sc w g s n l) : posOf w g = n:=by
 unfold posOf;rw [h.cell1];simp [intOf]
theorem span_str {w w' : World} {g n m : Nat} {s : ByteArray} {l r : List UInt8} {p : UInt8 -> Bool} (h : Sc w g s n l) (h' : Sc w' g s m r) (hr : r = l.dropWhile p) :
  s.extract n m = ⟨(l.takeWhile p).toArray⟩:=by
 have h1:=h.len
 have h2:=h'.len
 rw [extract_mk,h.2.2.1,<- takeWhile_take,<- hr,show m - n = l.length - r.length by omega]
theorem span_any (g n k : Nat) (s : ByteArray) (l : List UInt8) (p : UInt8 -> Bool) (w : World) (h : Sc w g s n l) (hk : Cl w g k p) :
  Calls Tryz.prog 81 #[.pointer (some ⟨g,0,none⟩),fv k] w fun e w' =>
   e = .returned (.string ⟨(l.takeWhile p).toArray⟩) /\ Ch g w w' /\ ∃ m,Sc w' g s m (l.dropWhile p):=by
 have hc1:=h.cell1
 have H:=hid h
 have HK:=hid hk
 have hn : n <= s.size:=h.2.1
 have hsz:=h.2.2.2
 have hlen:=h.len
 have hdr:=hid h.2.2.1
 clear h hk
 unfold fv
 go_enter Tryz.func81,Tryz.ntmps81
 go_wp2_with fail
 go_loopw [10] (fun _ wr => ∃ m r,Sc wr g s m r /\ Hid (Ch g w wr) /\ Hid (r.dropWhile p = l.dropWhile p) /\ n <= m) (fun _ wr => s.size - posOf wr g)
 case atStart => exact ⟨n,l,H.out,Ch.refl,rfl,Nat.le_refl _⟩
 case round =>
  obtain ⟨m,r,hS,hCh,hdw,hnm⟩:=hrel
  have HS:=hid hS
  have CP:=hid (peek_any g m s r wr hS)
  have hm1:=hS.cell1
  have hf1:=hS.free 1
  have hms : m <= s.size:=hS.2.1
  clear hS
  go_wp2_with fail
  refine CP.out.mono ?_
  rintro e w' ⟨rfl,q,rfl⟩
  have CC:=hid (cls_any g k p r (wr.drewN q) ((HK.out.ch hCh.out).ch (Ch.draws q)))
  have hm2 : (wr.drewN q).cell? ⟨g,1,none⟩ = some (.int .i64 (m : Int)):=hm1
  have hf2 : (wr.drewN q).frozen? ⟨g,1,none⟩ = false:=hf1
  have h0 : wr.cell? ⟨g,0,none⟩ = some (.string s):=HS.out.cell0
  have hnm' : (n : Int) <= (m : Int):=by omega
  have hms' : (m : Int) <= (s.size : Int):=by omega
  have hn0 : 0 <= (n : Int):=by omega
  have hm9:=hid hm1
  clear hm1 hf1
  cases r with
  | nil =>
   simp only [hdp] at CC
   go_wp2_with fail
   refine CC.out.mono ?_
   rintro e w' ⟨rfl,q2,rfl⟩
   have hm1:=hm9.out
   clear hm2
   go_wp2_with fail
   go_quiet (fail)
   go_wp2_with fail
   go_ret
   have hst:=span_str H.out HS.out (show [] = l.dropWhile p from hdw.out)
   exact ⟨congrArg (fun x => Ending.returned (Value.string x)) hst,hCh.out.trans ((Ch.draws _).trans (Ch.draws _)),m,by rw [<- hdw.out];exact (HS.out.draws _).draws _⟩
  | cons c r =>
   cases hx : p c with
   | false =>
    simp only [hdp,hx] at CC
    go_wp2_with fail
    refine CC.out.mono ?_
    rintro e w' ⟨rfl,q2,rfl⟩
    have hm1:=hm9.out
    clear hm2
    go_wp2_with fail
    go_quiet (fail)
    go_wp2_with fail
    go_ret
    have hdw2 : c :: r = l.dropWhile p:=by rw [<- hdw.out,List.dropWhile_cons,if_neg (by rw [hx];simp)]
    have hst:=span_str H.out HS.out hdw2
    exact ⟨congrArg (fun x => Ending.returned (Value.string x)) hst,hCh.out.trans ((Ch.draws _).trans (Ch.draws _)),m,by rw [<- hdw2];exact (HS.out.draws _).draws _⟩
   | true =>
    simp only [hdp,hx] at CC
    go_wp2_with fail
    refine CC.out.mono ?_
    rintro e w' ⟨rfl,q2,rfl⟩
    have hm3 : (wr.drewN (q + q2)).cell? ⟨g,1,none⟩ = some (.int .i64 (m : Int)):=hm2
    have hf3 : (wr.drewN (q + q2)).frozen? ⟨g,1,none⟩ = false:=hf2
    clear hm2 h0
    go_wp2_with fail
    have HS2:=hid (HS.out.draws (q + q2)).step
    refine ⟨⟨m + 1,r,HS2.out,hCh.out.trans ((Ch.draws _).trans (Ch.set _ _ _ _)),?_,by omega⟩,?_⟩
    ·
     show _ = _
     rw [<- hdw.out,List.dropWhile_cons,if_pos hx]
    ·
     rw [HS2.out.pos,HS.out.pos]
     have:=HS.out.len
     simp only [List.length_cons] at this
     omega
end Go.Proofs.YtgeppafcemeidaaGreatDoor
namespace Go.Proofs.YtgeppafcemeidaaGreatDoor
open Go.RowKit
theorem kw_any (l : List UInt8) (w : World) :
  Calls Tryz.prog 165 #[.string ⟨l.toArray⟩] w fun e w' => e = .returned (.bool (Tk.kw l)) /\ w = w':=by
 have HK : Hid (Tk.kw l = Tk.kws.contains l):=rfl
 generalize Tk.kw l = b at *
 go_enter Tryz.func165,Tryz.ntmps165
 go_wp2
 all_goals go_ret
 all_goals refine ⟨congrArg (fun b => Ending.returned (Value.bool b)) ?_,rfl⟩
 all_goals rw [HK.out]
 all_goals simp_all only [Tk.kws,List.contains_cons,List.contains_nil,Bool.or_true,Bool.true_or,Bool.or_false,Bool.false_eq_true,Bool.or_self]
end Go.Proofs.YtgeppafcemeidaaGreatDoor
namespace Go.Proofs.YtgeppafcemeidaaGreatDoor
open Go.RowKit
def byS (l : List UInt8) : ByteArray:=⟨l.toArray⟩
theorem byS_size (l : List UInt8) : (byS l).size = l.length:=by simp [byS,ByteArray.size]
def tokV (k at_ : Int) (t : List UInt8) (n : Int) : Value:=.agg #[.int .i64 k,.int .i64 at_,.string (byS t),.int .i64 n]
def TPost (g : Nat) (s : ByteArray) (w : World) (r : Tk.TR) (e : Ending) (w' : World) : Prop:=match r with
 | .bad c => e = .returned (.tuple #[tokV 0 0 [] 0,.int .i64 c]) /\ Ch g w w'
 | .good k t n l => e = .returned (.tuple #[tokV k 0 t n,.int .i64 0]) /\ Ch g w w' /\ ∃ m,Sc w' g s m l
def zTok : Obj:=.cells #[.int .i64 0,.int .i64 0,.string ⟨#[]⟩,.int .i64 0] 59 (0,0)
theorem zcells {w : World} {z : Nat} (h : w.heap[z]? = some zTok) : w.cell? ⟨z,0,none⟩ = some (.int .i64 0) /\ w.cell? ⟨z,1,none⟩ = some (.int .i64 0) /\ w.cell? ⟨z,2,none⟩ = some (.string ⟨#[]⟩) /\ w.cell? ⟨z,3,none⟩ = some (.int .i64 0):=by
 refine ⟨?_,?_,?_,?_⟩
 ·
  have:=cellAt h 0;simpa using this
 ·
  have:=cellAt h 1;simpa using this
 ·
  have:=cellAt h 2;simpa using this
 ·
  have:=cellAt h 3;simpa using this
theorem zfree {w : World} {z : Nat} (h : w.heap[z]? = some zTok) (i : Nat) : w.frozen? ⟨z,i,none⟩ = false:=freeAt h i
def asc (l : List UInt8) (p : UInt8 -> Bool) : Bool:=l.all (fun b => decide (b.toNat < 128)) && decide (l.length <= 1000) && (List.range 256).all fun n => l.contains (UInt8.ofNat n) == p (UInt8.ofNat n)
theorem asc_all {l : List UInt8} {p : UInt8 -> Bool} (h : asc l p = true) : (∀ b ∈ l,b.toNat < 128) /\ l.length <= 1000 /\ ∀ c,l.contains c = p c:=by
 simp only [asc,Bool.and_eq_true,List.all_eq_true,decide_eq_true_eq,beq_iff_eq] at h
 refine ⟨h.1.1,h.1.2,fun c => ?_⟩
 have:=h.2 c.toNat (List.mem_range.2 c.toNat_lt)
 simpa using this
theorem among_asc (g : Nat) (l : List UInt8) (p : UInt8 -> Bool) (h : asc l p = true) (w : World) (hg : g < w.heap.size) :
  Calls Tryz.prog 82 #[.string ⟨l.toArray⟩] w fun e w' => ∃ k,e = .returned (fv k) /\ Below w.heap.size w w' /\ Cl w' g k p:=by
 obtain ⟨h1,h2,h3⟩:=asc_all h
 exact among_any g p ⟨l.toArray⟩ w hg (by simpa using h1) (by simpa [ByteArray.size] using h2) (by simpa using h3)
theorem asc_blank : asc [32,9,10] Tk.blank = true:=by kernel_rfl
theorem asc_digit : asc [48,49,50,51,52,53,54,55,56,57] Tk.digit = true:=by kernel_rfl
theorem asc_letter : asc [97,98,99,100,101,102,103,104,105,106,107,108,109,110,111,112,113,114,115,116,117,118,119,120,121,122,65,66,67,68,69,70,71,72,73,74,75,76,77,78,79,80,81,82,83,84,85,86,87,88,89,90,95] Tk.letter = true:=by kernel_rfl
theorem asc_word : asc [97,98,99,100,101,102,103,104,105,106,107,108,109,110,111,112,113,114,115,116,117,118,119,120,121,122,65,66,67,68,69,70,71,72,73,74,75,76,77,78,79,80,81,82,83,84,85,86,87,88,89,90,95,48,49,50,51,52,53,54,55,56,57] Tk.wordc = true:=by kernel_rfl
theorem asc_pair : asc [61,33,60,62] Tk.pairc = true:=by kernel_rfl
theorem asc_sign : asc [40,41,123,125,91,93,44,59,46,58,61,60,62,43,45,42,47,37] Tk.signc = true:=by kernel_rfl
theorem zalloc (w : World) : (w.alloc zTok).heap[w.heap.size]? = some zTok:=by
 show (w.heap.push zTok)[w.heap.size]? = _
 simp
theorem zstep {w w' : World} {z : Nat} (h : w.heap[z]? = some zTok) (hb : Below w.heap.size w w') : w'.heap[z]? = some zTok :=
 (hb.block z (Array.getElem?_eq_some_iff.1 h).1).trans h
theorem Ch.setNew {g b i : Nat} {w W : World} {u : Value} (h : Ch g w W) (hb : w.heap.size <= b) : Ch g w (W.setCell ⟨b,i,none⟩ u) :=
 ⟨h.os,h.tape,h.output,by simpa [World.setCell] using h.size,fun k hk hne => (Below.heap_setCell W ⟨b,i,none⟩ u k (fun e => by have : k = b:=e;omega)).trans (h.block k hk hne)⟩
theorem Sc.setNew {g b i n : Nat} {W : World} {u : Value} {s : ByteArray} {l : List UInt8} (h : Sc W g s n l) (hb : b ≠ g) : Sc (W.setCell ⟨b,i,none⟩ u) g s n l :=
 ⟨(Below.heap_setCell W ⟨b,i,none⟩ u g (fun e => hb e.symm)).trans h.1,h.2⟩
theorem ch4 {g z : Nat} {w W : World} {u0 u1 u2 u3 : Value} (h : Ch g w W) (hz : w.heap.size <= z) :
  Ch g w ((((W.setCell ⟨z,0,none⟩ u0).setCell ⟨z,1,none⟩ u1).setCell ⟨z,2,none⟩ u2).setCell ⟨z,3,none⟩ u3) :=
 (((h.setNew hz).setNew hz).setNew hz).setNew hz
theorem sc4 {g z n : Nat} {W : World} {u0 u1 u2 u3 : Value} {s : ByteArray} {l : List UInt8} (h : Sc W g s n l) (hz : z ≠ g) :
  Sc ((((W.setCell ⟨z,0,none⟩ u0).setCell ⟨z,1,none⟩ u1).setCell ⟨z,2,none⟩ u2).setCell ⟨z,3,none⟩ u3) g s n l :=
 (((h.setNew hz).setNew hz).setNew hz).setNew hz
end Go.Proofs.YtgeppafcemeidaaGreatDoor
namespace Go.Proofs.YtgeppafcemeidaaGreatDoor
open Go.Shelf
def Tryz.laysM171_ren : Go.Shelf.Ren:=⟨fun | 171 => 69 | 243 => 118 | 246 => 161 | 283 => 184 | 284 => 185 | 285 => 186 | 286 => 187 | 129 => 212 | 317 => 211 | 318 => 213 | 319 => 214 | 320 => 215 | 337 => 235 | 338 => 236 | n => n,fun | 3 => 3 | 9 => 9 | 2 => 2 | 4 => 4 | 171 => 133 | 0 => 0 | 53 => 134 | 37 => 70 | 5 => 5 | 173 => 137 | 212 => 145 | 51 => 146 | 20 => 20 | 213 => 147 | 46 => 140 | 232 => 175 | 233 => 176 | n => n,fun | 17 => 0 | 18 => 4 | 19 => 5 | n => n⟩
theorem Tryz.laysM171 : Go.Proofs.LaysM.n171 Tryz.prog Tryz.laysM171_ren:={
 mixed:=by kernel_rfl
 f129:=Tryz.func212.trans (congrArg some (by kernel_rfl))
 f171:=Tryz.func69.trans (congrArg some (by kernel_rfl))
 f243:=Tryz.func118.trans (congrArg some (by kernel_rfl))
 f246:=Tryz.func161.trans (congrArg some (by kernel_rfl))
 f283:=Tryz.func184.trans (congrArg some (by kernel_rfl))
 f284:=Tryz.func185.trans (congrArg some (by kernel_rfl))
 f285:=Tryz.func186.trans (congrArg some (by kernel_rfl))
 f286:=Tryz.func187.trans (congrArg some (by kernel_rfl))
 f317:=Tryz.func211.trans (congrArg some (by kernel_rfl))
 f318:=Tryz.func213.trans (congrArg some (by kernel_rfl))
 f319:=Tryz.func214.trans (congrArg some (by kernel_rfl))
 f320:=Tryz.func215.trans (congrArg some (by kernel_rfl))
 f337:=Tryz.func235.trans (congrArg some (by kernel_rfl))
 f338:=Tryz.func236.trans (congrArg some (by kernel_rfl))
 t0:=Tryz.underlying0
 a0:=Tryz.isAgg0
 z0:=Tryz.sizeOf0
 v0:=Tryz.zeroValue0
 t2:=Tryz.underlying2
 a2:=Tryz.isAgg2
 z2:=Tryz.sizeOf2
 v2:=Tryz.zeroValue2
 t3:=Tryz.underlying3
 a3:=Tryz.isAgg3
 z3:=Tryz.sizeOf3
 v3:=Tryz.zeroValue3
 t4:=Tryz.underlying4
 a4:=Tryz.isAgg4
 z4:=Tryz.sizeOf4
 v4:=Tryz.zeroValue4
 t5:=Tryz.underlying5
 a5:=Tryz.isAgg5
 z5:=Tryz.sizeOf5
 v5:=Tryz.zeroValue5
 t9:=Tryz.underlying9
 a9:=Tryz.isAgg9
 z9:=Tryz.sizeOf9
 v9:=Tryz.zeroValue9
 t20:=Tryz.underlying20
 a20:=Tryz.isAgg20
 z20:=Tryz.sizeOf20
 v20:=Tryz.zeroValue20
 t37:=Tryz.underlying70
 a37:=Tryz.isAgg70
 z37:=Tryz.sizeOf70
 v37:=Tryz.zeroValue70
 t46:=Tryz.underlying140
 a46:=Tryz.isAgg140
 z46:=Tryz.sizeOf140
 v46:=Tryz.zeroValue140
 t51:=Tryz.underlying146
 a51:=Tryz.isAgg146
 z51:=Tryz.sizeOf146
 v51:=Tryz.zeroValue146
 t53:=Tryz.underlying134
 a53:=Tryz.isAgg134
 z53:=Tryz.sizeOf134
 v53:=Tryz.zeroValue134
 t171:=Tryz.underlying133
 a171:=Tryz.isAgg133
 z171:=Tryz.sizeOf133
 v171:=Tryz.zeroValue133
 t173:=Tryz.underlying137
 a173:=Tryz.isAgg137
 z173:=Tryz.sizeOf137
 v173:=Tryz.zeroValue137
 t212:=Tryz.underlying145
 a212:=Tryz.isAgg145
 z212:=Tryz.sizeOf145
 v212:=Tryz.zeroValue145
 t213:=Tryz.underlying147
 a213:=Tryz.isAgg147
 z213:=Tryz.sizeOf147
 t232:=Tryz.underlying175
 a232:=Tryz.isAgg175
 z232:=Tryz.sizeOf175
 v232:=Tryz.zeroValue175
 t233:=Tryz.underlying176
 a233:=Tryz.isAgg176
 z233:=Tryz.sizeOf176
 v233:=Tryz.zeroValue176
 g17:=by kernel_rfl
 g18:=by kernel_rfl
 g19:=by kernel_rfl
 i0:=by kernel_rfl
 i2:=by kernel_rfl
 i3:=by kernel_rfl
 i4:=by kernel_rfl
 i5:=by kernel_rfl
 i9:=by kernel_rfl
 i20:=by kernel_rfl
 i37:=by kernel_rfl
 i46:=by kernel_rfl
 i51:=by kernel_rfl
 i53:=by kernel_rfl
 i171:=by kernel_rfl
 i173:=by kernel_rfl
 i212:=by kernel_rfl
 i232:=by kernel_rfl
 i233:=by kernel_rfl
 m17:=by kernel_rfl
 m18:=by kernel_rfl
 m19:=by kernel_rfl }
open Go.RowKit Go.Sort Go.Lib in
theorem Tryz.strconv_Itoa (n : Int) (h0 : -9223372036854775808 <= n) (h1 : n <= 9223372036854775807) (w : World) (htab : Lib.TabIs Tryz.prog w "internal/strconv.uint64pow10" .u64 Lib.pow10Tab) :
  Calls Tryz.prog 69 #[.int .i64 n] w fun e w' => e = .returned (.string ⟨(Lib.itoa n).toArray⟩) /\ ∃ k os,w' = grow (w.drewN k) os:=Any.strconv_Itoa Tryz.laysM171 n h0 h1 w htab
def Tryz.laysC174_ren : Go.Shelf.Ren:=⟨fun | 174 => 166 | 247 => 192 | 245 => 193 | 287 => 217 | 279 => 218 | 280 => 219 | 281 => 220 | 282 => 221 | 321 => 238 | 322 => 239 | 316 => 240 | 171 => 69 | 205 => 241 | 243 => 118 | 246 => 161 | 283 => 184 | 284 => 185 | 285 => 186 | 286 => 187 | 129 => 212 | 317 => 211 | 318 => 213 | 319 => 214 | 320 => 215 | 337 => 235 | 338 => 236 | n => n,fun | 9 => 9 | 3 => 3 | 2 => 2 | 75 => 122 | 85 => 123 | 4 => 4 | 167 => 149 | 5 => 5 | 53 => 134 | 175 => 150 | 46 => 140 | 168 => 152 | 37 => 70 | 0 => 0 | 210 => 168 | 21 => 21 | 127 => 174 | 145 => 179 | 143 => 177 | 171 => 133 | 173 => 137 | 212 => 145 | 51 => 146 | 20 => 20 | 213 => 147 | 232 => 175 | 233 => 176 | 80 => 92 | n => n,fun | 15 => 2 | 16 => 3 | 17 => 0 | 18 => 4 | 19 => 5 | n => n⟩
theorem Tryz.laysC174 : Go.Proofs.LaysC.n174 Tryz.prog Tryz.laysC174_ren:={
 mixed:=by kernel_rfl
 f129:=Tryz.func212.trans (congrArg some (by kernel_rfl))
 f171:=Tryz.func69.trans (congrArg some (by kernel_rfl))
 f174:=Tryz.func166.trans (congrArg some (by kernel_rfl))
 f205:=Tryz.func241.trans (congrArg some (by kernel_rfl))
 f243:=Tryz.func118.trans (congrArg some (by kernel_rfl))
 f245:=Tryz.func193.trans (congrArg some (by kernel_rfl))
 f246:=Tryz.func161.trans (congrArg some (by kernel_rfl))
 f247:=Tryz.func192.trans (congrArg some (by kernel_rfl))
 f279:=Tryz.func218.trans (congrArg some (by kernel_rfl))
 f280:=Tryz.func219.trans (congrArg some (by kernel_rfl))
 f281:=Tryz.func220.trans (congrArg some (by kernel_rfl))
 f282:=Tryz.func221.trans (congrArg some (by kernel_rfl))
 f283:=Tryz.func184.trans (congrArg some (by kernel_rfl))
 f284:=Tryz.func185.trans (congrArg some (by kernel_rfl))
 f285:=Tryz.func186.trans (congrArg some (by kernel_rfl))
 f286:=Tryz.func187.trans (congrArg some (by kernel_rfl))
 f287:=Tryz.func217.trans (congrArg some (by kernel_rfl))
 f316:=Tryz.func240.trans (congrArg some (by kernel_rfl))
 f317:=Tryz.func211.trans (congrArg some (by kernel_rfl))
 f318:=Tryz.func213.trans (congrArg some (by kernel_rfl))
 f319:=Tryz.func214.trans (congrArg some (by kernel_rfl))
 f320:=Tryz.func215.trans (congrArg some (by kernel_rfl))
 f321:=Tryz.func238.trans (congrArg some (by kernel_rfl))
 f322:=Tryz.func239.trans (congrArg some (by kernel_rfl))
 f337:=Tryz.func235.trans (congrArg some (by kernel_rfl))
 f338:=Tryz.func236.trans (congrArg some (by kernel_rfl))
 t0:=Tryz.underlying0
 a0:=Tryz.isAgg0
 z0:=Tryz.sizeOf0
 v0:=Tryz.zeroValue0
 t2:=Tryz.underlying2
 a2:=Tryz.isAgg2
 z2:=Tryz.sizeOf2
 v2:=Tryz.zeroValue2
 t3:=Tryz.underlying3
 a3:=Tryz.isAgg3
 z3:=Tryz.sizeOf3
 v3:=Tryz.zeroValue3
 t4:=Tryz.underlying4
 a4:=Tryz.isAgg4
 z4:=Tryz.sizeOf4
 v4:=Tryz.zeroValue4
 t5:=Tryz.underlying5
 a5:=Tryz.isAgg5
 z5:=Tryz.sizeOf5
 v5:=Tryz.zeroValue5
 t9:=Tryz.underlying9
 a9:=Tryz.isAgg9
 z9:=Tryz.sizeOf9
 v9:=Tryz.zeroValue9
 t20:=Tryz.underlying20
 a20:=Tryz.isAgg20
 z20:=Tryz.sizeOf20
 v20:=Tryz.zeroValue20
 t21:=Tryz.underlying21
 a21:=Tryz.isAgg21
 z21:=Tryz.sizeOf21
 v21:=Tryz.zeroValue21
 t37:=Tryz.underlying70
 a37:=Tryz.isAgg70
 z37:=Tryz.sizeOf70
 v37:=Tryz.zeroValue70
 t46:=Tryz.underlying140
 a46:=Tryz.isAgg140
 z46:=Tryz.sizeOf140
 v46:=Tryz.zeroValue140
 t51:=Tryz.underlying146
 a51:=Tryz.isAgg146
 z51:=Tryz.sizeOf146
 v51:=Tryz.zeroValue146
 t53:=Tryz.underlying134
 a53:=Tryz.isAgg134
 z53:=Tryz.sizeOf134
 v53:=Tryz.zeroValue134
 t75:=Tryz.underlying122
 a75:=Tryz.isAgg122
 z75:=Tryz.sizeOf122
 v75:=Tryz.zeroValue122
 t85:=Tryz.underlying123
 a85:=Tryz.isAgg123
 z85:=Tryz.sizeOf123
 v85:=Tryz.zeroValue123
 t127:=Tryz.underlying174
 a127:=Tryz.isAgg174
 z127:=Tryz.sizeOf174
 v127:=Tryz.zeroValue174
 t143:=Tryz.underlying177
 a143:=Tryz.isAgg177
 z143:=Tryz.sizeOf177
 v143:=Tryz.zeroValue177
 t145:=Tryz.underlying179
 a145:=Tryz.isAgg179
 z145:=Tryz.sizeOf179
 v145:=Tryz.zeroValue179
 t167:=Tryz.underlying149
 a167:=Tryz.isAgg149
 z167:=Tryz.sizeOf149
 v167:=Tryz.zeroValue149
 t168:=Tryz.underlying152
 a168:=Tryz.isAgg152
 z168:=Tryz.sizeOf152
 v168:=Tryz.zeroValue152
 t171:=Tryz.underlying133
 a171:=Tryz.isAgg133
 z171:=Tryz.sizeOf133
 v171:=Tryz.zeroValue133
 t173:=Tryz.underlying137
 a173:=Tryz.isAgg137
 z173:=Tryz.sizeOf137
 v173:=Tryz.zeroValue137
 t175:=Tryz.underlying150
 a175:=Tryz.isAgg150
 z175:=Tryz.sizeOf150
 v175:=Tryz.zeroValue150
 t210:=Tryz.underlying168
 a210:=Tryz.isAgg168
 z210:=Tryz.sizeOf168
 v210:=Tryz.zeroValue168
 t212:=Tryz.underlying145
 a212:=Tryz.isAgg145
 z212:=Tryz.sizeOf145
 v212:=Tryz.zeroValue145
 t213:=Tryz.underlying147
 a213:=Tryz.isAgg147
 z213:=Tryz.sizeOf147
 t232:=Tryz.underlying175
 a232:=Tryz.isAgg175
 z232:=Tryz.sizeOf175
 v232:=Tryz.zeroValue175
 t233:=Tryz.underlying176
 a233:=Tryz.isAgg176
 z233:=Tryz.sizeOf176
 v233:=Tryz.zeroValue176
 g15:=by kernel_rfl
 g16:=by kernel_rfl
 g17:=by kernel_rfl
 g18:=by kernel_rfl
 g19:=by kernel_rfl
 t80:=Tryz.underlying92
 a80:=Tryz.isAgg92
 z80:=Tryz.sizeOf92
 v80:=Tryz.zeroValue92
 i0:=by kernel_rfl
 i2:=by kernel_rfl
 i3:=by kernel_rfl
 i4:=by kernel_rfl
 i5:=by kernel_rfl
 i9:=by kernel_rfl
 i20:=by kernel_rfl
 i21:=by kernel_rfl
 i37:=by kernel_rfl
 i46:=by kernel_rfl
 i51:=by kernel_rfl
 i53:=by kernel_rfl
 i75:=by kernel_rfl
 i80:=by kernel_rfl
 i85:=by kernel_rfl
 i127:=by kernel_rfl
 i143:=by kernel_rfl
 i145:=by kernel_rfl
 i167:=by kernel_rfl
 i168:=by kernel_rfl
 i171:=by kernel_rfl
 i173:=by kernel_rfl
 i175:=by kernel_rfl
 i210:=by kernel_rfl
 i212:=by kernel_rfl
 i232:=by kernel_rfl
 i233:=by kernel_rfl
 m15:=by kernel_rfl
 m16:=by kernel_rfl
 m17:=by kernel_rfl
 m18:=by kernel_rfl
 m19:=by kernel_rfl
 c0:=by kernel_rfl
 c2:=by kernel_rfl
 c3:=by kernel_rfl
 c4:=by kernel_rfl
 c5:=by kernel_rfl
 c9:=by kernel_rfl
 c20:=by kernel_rfl
 c21:=by kernel_rfl
 c37:=by kernel_rfl
 c46:=by kernel_rfl
 c51:=by kernel_rfl
 c53:=by kernel_rfl
 c75:=by kernel_rfl
 c80:=by kernel_rfl
 c85:=by kernel_rfl
 c127:=by kernel_rfl
 c143:=by kernel_rfl
 c145:=by kernel_rfl
 c167:=by kernel_rfl
 c168:=by kernel_rfl
 c171:=by kernel_rfl
 c173:=by kernel_rfl
 c175:=by kernel_rfl
 c210:=by kernel_rfl
 c212:=by kernel_rfl
 c213:=by kernel_rfl
 c232:=by kernel_rfl
 c233:=by kernel_rfl }
open Go.RowKit in
theorem Tryz.strconv_ParseInt_10_at64_ok (s : ByteArray) (hmax : s.size <= 9223372036854775806) (v : Int) (h : Lib.parseIntB 64 s.data.toList = .ok v) (w : World) :
  Calls Tryz.prog 166 #[.string s,.int .i64 10,.int .i64 64] w fun e w' => e = .returned (.tuple #[.int .i64 v,.nilIface]) /\ (w' = w \/ ∃ t,w' = Lib.bytesWorld w 5 t):=Any.strconv_ParseInt_10_at64_ok Tryz.laysC174 s hmax v h w
open Go.RowKit in
theorem Tryz.strconv_ParseInt_10_at64_range_var (s : ByteArray) (hlim : s.size <= 281474976710656) (h : Lib.parseIntB 64 s.data.toList = .range) (tp : TypeId) (p : Value) (w : World) (hvar : w.var? Tryz.prog "strconv.ErrRange" = some #[.iface tp p]) :
  Calls Tryz.prog 166 #[.string s,.int .i64 10,.int .i64 64] w fun e w' => ∃ N,e = .returned (.tuple #[.int .i64 (Lib.intSat 64 s.data.toList),.iface 152 (.pointer (some ⟨N,0,none⟩))]) /\ w.heap.size <= N /\ w'.heap[N]? = some (.cells #[.string ⟨#[80,97,114,115,101,73,110,116]⟩,.string s,.iface tp p] 168 (0,0)) /\ Below w.heap.size w w':=Any.strconv_ParseInt_10_at64_range_var Tryz.laysC174 s hlim h tp p w hvar
end Go.Proofs.YtgeppafcemeidaaGreatDoor
namespace Go.Proofs.YtgeppafcemeidaaGreatDoor
open Go.RowKit
structure Good (w : World) : Prop where
 tab : Lib.TabIs Tryz.prog w "internal/strconv.uint64pow10" .u64 Lib.pow10Tab
 syn : ∃ tp p,w.var? Tryz.prog "strconv.ErrSyntax" = some #[.iface tp p]
 rng : ∃ tp p,w.var? Tryz.prog "strconv.ErrRange" = some #[.iface tp p]
theorem var_lt {w : World} {n : String} {cs : Array Value} (h : w.var? Tryz.prog n = some cs) : ∃ g,Tryz.prog.globalNamed n = some g /\ g < w.heap.size:=by
 unfold World.var? at h
 cases hg : Tryz.prog.globalNamed n with
 | none => simp [hg] at h
 | some g =>
  refine ⟨g,rfl,?_⟩
  simp only [hg,Option.bind_some] at h
  split at h
  ·
   rename_i hb
   obtain ⟨hlt,_⟩:=Array.getElem?_eq_some_iff.1 hb
   exact hlt
  ·
   cases h
theorem var_below {w W : World} {n : String} {cs : Array Value} (h : w.var? Tryz.prog n = some cs) (hb : Below w.heap.size w W) : W.var? Tryz.prog n = some cs:=by
 obtain ⟨g,hg,hlt⟩:=var_lt h
 exact var?_below hb hg hlt h
theorem Good.below {w W : World} (h : Good w) (hb : Below w.heap.size w W) : Good W :=
 ⟨var_below h.tab hb,by obtain ⟨tp,p,hv⟩:=h.syn;exact ⟨tp,p,var_below hv hb⟩,by obtain ⟨tp,p,hv⟩:=h.rng;exact ⟨tp,p,var_below hv hb⟩⟩
theorem itoa_any (n : Int) (w : World) (hG : Good w) (h0 : -9223372036854775808 <= n) (h1 : n <= 9223372036854775807) :
  Calls Tryz.prog 69 #[.int .i64 n] w fun e w' => e = .returned (strOf (Lib.itoa n)) /\ Below w.heap.size w w' :=
 (Tryz.strconv_Itoa n h0 h1 w hG.tab).mono fun _ _ ⟨he,k,os,hw⟩ => ⟨he,by rw [hw];exact Lib.below_grow _ _ (Nat.le_refl _) k os⟩
theorem cat_list (a : List UInt8) (b : ByteArray) (l : List UInt8) (hb : b = ⟨l.toArray⟩) : (⟨a.toArray⟩ : ByteArray) ++ b = ⟨(a ++ l).toArray⟩:=by
 subst hb
 apply ByteArray.ext
 simp [ByteArray.data_append]
theorem tdiv_neg (m : Nat) : Int.tdiv (-(m : Int)) 10 = -((m / 10 : Nat) : Int):=by
 rw [Int.neg_tdiv];rfl
theorem tmod_neg (m : Nat) : Int.tmod (-(m : Int)) 10 = -((m % 10 : Nat) : Int):=by
 rw [Int.neg_tmod];rfl
theorem size_mk (l : List UInt8) : (⟨l.toArray⟩ : ByteArray).size = l.length:=by simp [ByteArray.size]
end Go.Proofs.YtgeppafcemeidaaGreatDoor
namespace Go.Proofs.YtgeppafcemeidaaGreatDoor
open Go.RowKit
namespace Tk
theorem dig_iff (c : UInt8) : digit c = true ↔ 48 <= c.toNat /\ c.toNat <= 57:=by simp [digit]
theorem parse_any : ∀ (l : List UInt8) (a : Nat),(∀ c ∈ l,48 <= c.toNat /\ c.toNat <= 57) -> Lib.parseUint10 a l = .range \/ Lib.parseUint10 a l = .ok (Nm.val a l)
 | [],a,_ => .inr rfl
 | c :: l,a,hd => by
  have hc:=hd c (by simp)
  rw [Nm.val_cons,Lib.parseUint10,if_pos hc]
  split
  ·
   exact .inl rfl
  ·
   split
   ·
    exact .inl rfl
   ·
    exact parse_any l _ fun c hc => hd c (by simp [hc])
theorem parse_digits {l : List UInt8} (hn : l ≠ []) (hd : ∀ c ∈ l,48 <= c.toNat /\ c.toNat <= 57) :
  Lib.parseIntB 64 l = if Nm.val 0 l > 9223372036854775807 then .range else .ok (Nm.val 0 l : Int):=by
 rw [Lib.parseIntB_64]
 have hm : Lib.parseMag l = Lib.parseUint10 0 l:=by unfold Lib.parseMag;rw [if_neg hn]
 obtain ⟨c,r,rfl⟩:=List.exists_cons_of_ne_nil hn
 have hc:=hd c (by simp)
 rw [Lib.atoiAll_plain c r (by omega) (by omega),hm]
 by_cases h : Nm.val 0 (c :: r) > 9223372036854775807
 ·
  rw [if_pos h]
  rcases parse_any (c :: r) 0 hd with hp | hp
  ·
   rw [hp];rfl
  ·
   rw [hp]
   simp only [Lib.signless]
   rw [if_pos (by omega)]
 ·
  rw [if_neg h,Nm.parse_val (c :: r) 0 hd (by omega)]
  simp only [Lib.signless]
  rw [if_neg (by omega)]
theorem takeWhile_all (p : UInt8 -> Bool) : ∀ l : List UInt8,∀ c ∈ l.takeWhile p,p c = true
 | [],c,h => by cases h
 | d :: l,c,h => by
  rw [List.takeWhile_cons] at h
  split at h
  ·
   rename_i hd
   rcases List.mem_cons.1 h with rfl | h
   ·
    exact hd
   ·
    exact takeWhile_all p l c h
  ·
   cases h
end Tk
theorem parse_ok {l : List UInt8} (hn : l ≠ []) (hd : ∀ c ∈ l,Tk.digit c = true) (h : ¬ Nm.val 0 l > 9223372036854775807) (hl : l.length <= 20000) (w : World) :
  Calls Tryz.prog 166 #[.string ⟨l.toArray⟩,.int .i64 10,.int .i64 64] w fun e w' => e = .returned (.tuple #[.int .i64 (Nm.val 0 l : Int),.nilIface]) /\ Below w.heap.size w w':=by
 refine (Tryz.strconv_ParseInt_10_at64_ok ⟨l.toArray⟩ (by rw [size_mk];omega) (Nm.val 0 l : Int) ?_ w).mono ?_
 ·
  show Lib.parseIntB 64 l = _
  rw [Tk.parse_digits hn (fun c hc => (Tk.dig_iff c).1 (hd c hc)),if_neg h]
 ·
  rintro e w' ⟨rfl,rfl | ⟨t,rfl⟩⟩
  ·
   exact ⟨rfl,Below.refl _ _⟩
  ·
   exact ⟨rfl,Joins.below_bytesWorld _ _ _ _ (Nat.le_refl _)⟩
theorem parse_big {l : List UInt8} (hn : l ≠ []) (hd : ∀ c ∈ l,Tk.digit c = true) (h : Nm.val 0 l > 9223372036854775807) (hl : l.length <= 20000) (w : World) (hG : Good w) :
  Calls Tryz.prog 166 #[.string ⟨l.toArray⟩,.int .i64 10,.int .i64 64] w fun e w' => (∃ v t p,e = .returned (.tuple #[.int .i64 v,.iface t p])) /\ Below w.heap.size w w':=by
 obtain ⟨tp,p,hv⟩:=hG.rng
 refine (Tryz.strconv_ParseInt_10_at64_range_var ⟨l.toArray⟩ (by rw [size_mk];omega) ?_ tp p w hv).mono ?_
 ·
  show Lib.parseIntB 64 l = _
  rw [Tk.parse_digits hn (fun c hc => (Tk.dig_iff c).1 (hd c hc)),if_pos h]
 ·
  rintro e w' ⟨N,rfl,_,_,hb⟩
  exact ⟨⟨_,_,_,rfl⟩,hb⟩
end Go.Proofs.YtgeppafcemeidaaGreatDoor
namespace Go.Proofs.YtgeppafcemeidaaGreatDoor
open Go.RowKit
def GoodC (g : Nat) (w : World) : Prop:=∀ W,Ch g w W -> Good W
theorem GoodC.ch {g : Nat} {w w' : World} (h : GoodC g w) (c : Ch g w w') : GoodC g w':=fun W hW => h W (c.trans hW)
theorem GoodC.good {g : Nat} {w : World} (h : GoodC g w) : Good w:=h w Ch.refl
theorem zdraw {w : World} {z : Nat} (h : w.heap[z]? = some zTok) (q : Nat) : (w.drewN q).heap[z]? = some zTok:=h
theorem hd_letter (l : List UInt8) : hdp Tk.letter l = Tk.letter (l.headD 0):=by cases l <;> rfl
theorem integer_any (g n : Nat) (s : ByteArray) (c : UInt8) (l : List UInt8) (w : World) (h : Sc w g s n (c :: l)) (hdg : Tk.digit c = true) (hG : GoodC g w) :
  Calls Tryz.prog 130 #[.pointer (some ⟨g,0,none⟩)] w (TPost g s w (Tk.num (c :: l))):=by
 have hg:=h.lt
 have hsz:=h.2.2.2
 have hlen:=h.len
 have HG:=hid hG
 have CA:=hid (among_asc g _ _ asc_digit (w.alloc zTok) (by simp;omega))
 have CL:=hid (fun W => among_asc g _ _ asc_letter W)
 have HA : Hid (Sc (w.alloc zTok) g s n (c :: l)):=h.below ((Below.refl _ _).alloc (Nat.le_refl _) _)
 have HZ : Hid ((w.alloc zTok).heap[w.heap.size]? = some zTok):=zalloc w
 have hd1 : (c :: l).takeWhile Tk.digit = c :: l.takeWhile Tk.digit:=by rw [List.takeWhile_cons,if_pos hdg]
 have hd2 : (c :: l).dropWhile Tk.digit = l.dropWhile Tk.digit:=by rw [List.dropWhile_cons,if_pos hdg]
 have hdl : (l.takeWhile Tk.digit).length <= l.length:=List.Sublist.length_le (List.takeWhile_sublist _)
 have HALL : Hid (∀ x ∈ c :: l.takeWhile Tk.digit,Tk.digit x = true):=by show ∀ _,_;rw [<- hd1];exact Tk.takeWhile_all Tk.digit _
 have HT : Hid (Tk.num (c :: l) = if ((c :: l.takeWhile Tk.digit).length > 1 /\ c.toNat = 48) \/ Tk.letter ((l.dropWhile Tk.digit).headD 0) = true then .bad 3
  else if Nm.val 0 (c :: l.takeWhile Tk.digit) > 9223372036854775807 then .bad 14 else .good 3 [] (Nm.val 0 (c :: l.takeWhile Tk.digit) : Int) (l.dropWhile Tk.digit)):=by
  show _ = _
  unfold Tk.num
  simp only [hd1,hd2,List.headD_cons]
 have HSP:=hid (fun k W => span_any g n k s (c :: l) Tk.digit W)
 rw [hd1,hd2] at HSP
 simp only [List.length_cons] at hlen
 generalize Tk.num (c :: l) = r at *
 generalize l.takeWhile Tk.digit = d at *
 generalize l.dropWhile Tk.digit = l2 at *
 clear h hd1 hd2 hdg hG
 go_enter Tryz.func130,Tryz.ntmps130
 go_wp2_with fail
 refine CA.out.mono ?_
 rintro e w1 ⟨k,rfl,hb1,hcl⟩
 have HS1:=hid (HA.out.below hb1)
 have HZ1:=hid (zstep HZ.out hb1)
 have HC1 : Hid (Ch g w w1):=(Ch.of_below ((Below.refl _ _).alloc (Nat.le_refl _) _)).trans (Ch.of_below hb1)
 have HCL:=hid hcl
 clear hb1 hcl
 go_wp2_with fail
 refine (HSP.out k w1 HS1.out HCL.out).mono ?_
 rintro e w2 ⟨rfl,hch,m,hS2⟩
 have HS2:=hid hS2
 have hg2:=hS2.lt
 have HZ2:=hid (hch.obj HZ1.out (by omega : w.heap.size ≠ g))
 have HC2 : Hid (Ch g w w2):=HC1.out.trans hch
 clear hch hS2
 go_wp2_with fail
 refine (CL.out w2 hg2).mono ?_
 rintro e w3 ⟨k3,rfl,hb3,hcl3⟩
 have HS3:=hid (HS2.out.below hb3)
 have HZ3:=hid (zstep HZ2.out hb3)
 have HC3 : Hid (Ch g w w3):=HC2.out.trans (Ch.of_below hb3)
 have HCL3:=hid hcl3
 clear hb3 hcl3
 have CP:=hid (peek_any g m s l2 w3 HS3.out)
 have CC:=hid (fun q => cls_any g k3 Tk.letter l2 (w3.drewN q) (HCL3.out.ch (Ch.draws q)))
 rw [hd_letter] at CC
 unfold fv at *
 by_cases hz : 0 < d.length /\ c.toNat = 48
 ·
  rw [if_pos (.inl ⟨by simp only [List.length_cons];omega,hz.2⟩)] at HT
  obtain ⟨b0,b1,b2,b3⟩:=zcells HZ3.out
  have f0:=zfree HZ3.out 0
  have f1:=zfree HZ3.out 1
  have f2:=zfree HZ3.out 2
  have f3:=zfree HZ3.out 3
  have hds : (⟨(c :: d).toArray⟩ : ByteArray).size = d.length + 1:=size_mk _
  have hz1:=hz.1
  have h0 : 0 < (⟨(c :: d).toArray⟩ : ByteArray).size:=by omega
  have hix : (((⟨(c :: d).toArray⟩ : ByteArray)[0]'h0).toNat : Int) = 48:=by have : c.toNat = 48:=hz.2;show (c.toNat : Int) = 48;omega
  go_wp2_with fail
  refine bodyPost_ret (v:=.tuple #[tokV 0 0 [] 0,.int .i64 3]) (by simp [results,Tryz.results130,go_sem,tokV,byS,b0,b1,b2,b3]) rfl ?_
  rw [HT.out]
  exact ⟨rfl,ch4 HC3.out (Nat.le_refl _)⟩
 ·
  have hds : (⟨(c :: d).toArray⟩ : ByteArray).size = d.length + 1:=size_mk _
  rcases (by omega : ¬ 0 < d.length \/ (0 < d.length /\ ¬ c.toNat = 48)) with hz1 | ⟨hz1,hz2⟩
  ·
   clear hds
   have hz3 : d.length = 0:=by omega
   go_wp2_with fail
   refine CP.out.mono ?_
   rintro e w4 ⟨rfl,q,rfl⟩
   cases hx : Tk.letter (l2.headD 0) with
   | true =>
    rw [hx] at CC HT
    rw [if_pos (.inr rfl)] at HT
    go_wp2_with fail
    refine (CC.out q).mono ?_
    rintro e w4 ⟨rfl,q2,rfl⟩
    obtain ⟨b0,b1,b2,b3⟩:=zcells (zdraw HZ3.out (q + q2))
    have f0:=zfree (zdraw HZ3.out (q + q2)) 0
    have f1:=zfree (zdraw HZ3.out (q + q2)) 1
    have f2:=zfree (zdraw HZ3.out (q + q2)) 2
    have f3:=zfree (zdraw HZ3.out (q + q2)) 3
    go_wp2_with fail
    refine bodyPost_ret (v:=.tuple #[tokV 0 0 [] 0,.int .i64 3]) (by simp [results,Tryz.results130,go_sem,tokV,byS,b0,b1,b2,b3]) rfl ?_
    rw [HT.out]
    exact ⟨rfl,ch4 (HC3.out.trans (Ch.draws _)) (Nat.le_refl _)⟩
   | false =>
    rw [hx] at CC HT
    rw [if_neg (fun h => h.elim (fun h => hz ⟨by have:=h.1;simp only [List.length_cons] at this;omega,h.2⟩) (fun h => by cases h))] at HT
    go_wp2_with fail
    refine (CC.out q).mono ?_
    rintro e w4 ⟨rfl,q2,rfl⟩
    by_cases hv : Nm.val 0 (c :: d) > 9223372036854775807
    ·
     rw [if_pos hv] at HT
     have PB:=hid (parse_big (by simp) HALL.out hv (by simp only [List.length_cons];omega) (w3.drewN (q + q2)) (HG.out _ (HC3.out.trans (Ch.draws _))))
     clear hv
     go_wp2_with fail
     refine PB.out.mono ?_
     rintro e w5 ⟨⟨v,t,pp,rfl⟩,hb5⟩
     have hz5:=(hb5.block _ (Array.getElem?_eq_some_iff.1 (zdraw HZ3.out (q + q2))).1).trans (zdraw HZ3.out (q + q2))
     obtain ⟨b0,b1,b2,b3⟩:=zcells hz5
     have f0:=zfree hz5 0
     have f1:=zfree hz5 1
     have f2:=zfree hz5 2
     have f3:=zfree hz5 3
     have HC5 : Hid (Ch g w w5):=(HC3.out.trans (Ch.draws _)).trans (Ch.of_below hb5)
     clear hb5 hz5
     go_wp2_with fail
     refine bodyPost_ret (v:=.tuple #[tokV 0 0 [] 0,.int .i64 14]) (by simp [results,Tryz.results130,go_sem,tokV,byS,b0,b1,b2,b3]) rfl ?_
     rw [HT.out]
     exact ⟨rfl,ch4 HC5.out (Nat.le_refl _)⟩
    ·
     rw [if_neg hv] at HT
     have PB:=hid (parse_ok (by simp) HALL.out hv (by simp only [List.length_cons];omega) (w3.drewN (q + q2)))
     have hv2 : (Nm.val 0 (c :: d) : Int) <= 9223372036854775807:=by omega
     clear hv
     generalize Nm.val 0 (c :: d) = vv at *
     go_wp2_with fail
     refine PB.out.mono ?_
     rintro e w5 ⟨rfl,hb5⟩
     have hz5:=(hb5.block _ (Array.getElem?_eq_some_iff.1 (zdraw HZ3.out (q + q2))).1).trans (zdraw HZ3.out (q + q2))
     obtain ⟨b0,b1,b2,b3⟩:=zcells hz5
     have f0:=zfree hz5 0
     have f1:=zfree hz5 1
     have f2:=zfree hz5 2
     have f3:=zfree hz5 3
     have HC5 : Hid (Ch g w w5):=(HC3.out.trans (Ch.draws _)).trans (Ch.of_below hb5)
     have HS5:=hid ((HS3.out.draws (q + q2)).below hb5)
     clear hb5 hz5
     go_wp2_with fail
     refine bodyPost_ret (v:=.tuple #[tokV 3 0 [] (vv : Int),.int .i64 0]) (by simp [results,Tryz.results130,go_sem,tokV,byS,b0,b1,b2,b3]) rfl ?_
     rw [HT.out]
     exact ⟨rfl,ch4 HC5.out (Nat.le_refl _),m,sc4 HS5.out (by omega)⟩
  ·
   have h0 : 0 < (⟨(c :: d).toArray⟩ : ByteArray).size:=by omega
   have hix : ¬ (((⟨(c :: d).toArray⟩ : ByteArray)[0]'h0).toNat : Int) = 48:=by show ¬ (c.toNat : Int) = 48;omega
   go_wp2_with fail
   refine CP.out.mono ?_
   rintro e w4 ⟨rfl,q,rfl⟩
   cases hx : Tk.letter (l2.headD 0) with
   | true =>
    rw [hx] at CC HT
    rw [if_pos (.inr rfl)] at HT
    go_wp2_with fail
    refine (CC.out q).mono ?_
    rintro e w4 ⟨rfl,q2,rfl⟩
    obtain ⟨b0,b1,b2,b3⟩:=zcells (zdraw HZ3.out (q + q2))
    have f0:=zfree (zdraw HZ3.out (q + q2)) 0
    have f1:=zfree (zdraw HZ3.out (q + q2)) 1
    have f2:=zfree (zdraw HZ3.out (q + q2)) 2
    have f3:=zfree (zdraw HZ3.out (q + q2)) 3
    go_wp2_with fail
    refine bodyPost_ret (v:=.tuple #[tokV 0 0 [] 0,.int .i64 3]) (by simp [results,Tryz.results130,go_sem,tokV,byS,b0,b1,b2,b3]) rfl ?_
    rw [HT.out]
    exact ⟨rfl,ch4 (HC3.out.trans (Ch.draws _)) (Nat.le_refl _)⟩
   | false =>
    rw [hx] at CC HT
    rw [if_neg (fun h => h.elim (fun h => hz ⟨by have:=h.1;simp only [List.length_cons] at this;omega,h.2⟩) (fun h => by cases h))] at HT
    go_wp2_with fail
    refine (CC.out q).mono ?_
    rintro e w4 ⟨rfl,q2,rfl⟩
    by_cases hv : Nm.val 0 (c :: d) > 9223372036854775807
    ·
     rw [if_pos hv] at HT
     have PB:=hid (parse_big (by simp) HALL.out hv (by simp only [List.length_cons];omega) (w3.drewN (q + q2)) (HG.out _ (HC3.out.trans (Ch.draws _))))
     clear hv
     go_wp2_with fail
     refine PB.out.mono ?_
     rintro e w5 ⟨⟨v,t,pp,rfl⟩,hb5⟩
     have hz5:=(hb5.block _ (Array.getElem?_eq_some_iff.1 (zdraw HZ3.out (q + q2))).1).trans (zdraw HZ3.out (q + q2))
     obtain ⟨b0,b1,b2,b3⟩:=zcells hz5
     have f0:=zfree hz5 0
     have f1:=zfree hz5 1
     have f2:=zfree hz5 2
     have f3:=zfree hz5 3
     have HC5 : Hid (Ch g w w5):=(HC3.out.trans (Ch.draws _)).trans (Ch.of_below hb5)
     clear hb5 hz5
     go_wp2_with fail
     refine bodyPost_ret (v:=.tuple #[tokV 0 0 [] 0,.int .i64 14]) (by simp [results,Tryz.results130,go_sem,tokV,byS,b0,b1,b2,b3]) rfl ?_
     rw [HT.out]
     exact ⟨rfl,ch4 HC5.out (Nat.le_refl _)⟩
    ·
     rw [if_neg hv] at HT
     have PB:=hid (parse_ok (by simp) HALL.out hv (by simp only [List.length_cons];omega) (w3.drewN (q + q2)))
     have hv2 : (Nm.val 0 (c :: d) : Int) <= 9223372036854775807:=by omega
     clear hv
     generalize Nm.val 0 (c :: d) = vv at *
     go_wp2_with fail
     refine PB.out.mono ?_
     rintro e w5 ⟨rfl,hb5⟩
     have hz5:=(hb5.block _ (Array.getElem?_eq_some_iff.1 (zdraw HZ3.out (q + q2))).1).trans (zdraw HZ3.out (q + q2))
     obtain ⟨b0,b1,b2,b3⟩:=zcells hz5
     have f0:=zfree hz5 0
     have f1:=zfree hz5 1
     have f2:=zfree hz5 2
     have f3:=zfree hz5 3
     have HC5 : Hid (Ch g w w5):=(HC3.out.trans (Ch.draws _)).trans (Ch.of_below hb5)
     have HS5:=hid ((HS3.out.draws (q + q2)).below hb5)
     clear hb5 hz5
     go_wp2_with fail
     refine bodyPost_ret (v:=.tuple #[tokV 3 0 [] (vv : Int),.int .i64 0]) (by simp [results,Tryz.results130,go_sem,tokV,byS,b0,b1,b2,b3]) rfl ?_
     rw [HT.out]
     exact ⟨rfl,ch4 HC5.out (Nat.le_refl _),m,sc4 HS5.out (by omega)⟩
end Go.Proofs.YtgeppafcemeidaaGreatDoor
namespace Go.Proofs.YtgeppafcemeidaaGreatDoor
open Go.RowKit
theorem fault_end (w : World) : Calls Tryz.prog 169 #[.int .i32 (-1)] w fun e w' => e = .returned (.int .i64 4) /\ w = w':=by
 go_enter Tryz.func169,Tryz.ntmps169
 go_wp2_with fail
 go_ret
 exact ⟨rfl,rfl⟩
theorem fault_at (c : UInt8) (w : World) : Calls Tryz.prog 169 #[.int .i32 (c.toNat : Int)] w fun e w' => e = .returned (.int .i64 3) /\ w = w':=by
 have hne : ((c.toNat : Int) == -1) = false:=by simp
 go_enter Tryz.func169,Tryz.ntmps169
 go_wp2_with fail
 go_ret
 exact ⟨rfl,rfl⟩
def hexL : List UInt8:=[48,49,50,51,52,53,54,55,56,57,97,98,99,100,101,102]
theorem hex_ix (c : UInt8) : Lib.indexByte hexL c = Tk.hexv c:=by
 have h : ((List.range 256).all fun n => Lib.indexByte hexL (UInt8.ofNat n) == Tk.hexv (UInt8.ofNat n)) = true:=by kernel_rfl
 rw [List.all_eq_true] at h
 have:=h c.toNat (List.mem_range.2 c.toNat_lt)
 simpa using this
theorem hex_hi (c : UInt8) : Tk.hexv c <= 15:=by
 have h : ((List.range 256).all fun n => decide (Tk.hexv (UInt8.ofNat n) <= 15)) = true:=by kernel_rfl
 rw [List.all_eq_true] at h
 have:=h c.toNat (List.mem_range.2 c.toNat_lt)
 simpa using this
theorem hex_end (w : World) : Calls Tryz.prog 164 #[.string ⟨#[48,49,50,51,52,53,54,55,56,57,97,98,99,100,101,102]⟩,.int .i32 (-1)] w fun e w' => e = .returned (.int .i64 (-1)) /\ w = w':=idx_end _ w
theorem hex_at (c : UInt8) (w : World) : Calls Tryz.prog 164 #[.string ⟨#[48,49,50,51,52,53,54,55,56,57,97,98,99,100,101,102]⟩,.int .i32 (c.toNat : Int)] w fun e w' => e = .returned (.int .i64 (Tk.hexv c)) /\ ∃ q,w' = w.drewN q:=by
 rw [<- hex_ix]
 exact idx_any ⟨#[48,49,50,51,52,53,54,55,56,57,97,98,99,100,101,102]⟩ (by simp) (by decide) [c] w
def EPost (g : Nat) (s : ByteArray) (w : World) (r : Tk.ER) (e : Ending) (w' : World) : Prop:=match r with
 | .bad c => e = .returned (.tuple #[.int .u8 0,.int .i64 c]) /\ Ch g w w'
 | .good c l => e = .returned (.tuple #[.int .u8 (c.toNat : Int),.int .i64 0]) /\ Ch g w w' /\ ∃ m,Sc w' g s m l
theorem code_any (g n : Nat) (s : ByteArray) (l : List UInt8) (w : World) (h : Sc w g s n l) :
  Calls Tryz.prog 194 #[.pointer (some ⟨g,0,none⟩)] w (EPost g s w (Tk.code l)):=by
 cases l with
 | nil =>
  have CR:=hid (read_end g n s w h)
  clear h
  go_enter Tryz.func194,Tryz.ntmps194
  go_wp2_with fail
  refine wp_loop_rounds 1 ?_
  rw [rounds_succ]
  go_wp2_with fail
  refine CR.out.mono ?_
  rintro e w1 ⟨rfl,_,hch⟩
  have HC:=hid hch
  clear hch
  go_wp2_with fail
  refine (hex_end _).mono ?_
  rintro e w2 ⟨rfl,rfl⟩
  go_wp2_with fail
  refine (fault_end _).mono ?_
  rintro e w2 ⟨rfl,rfl⟩
  go_wp2_with fail
  go_ret2
  exact ⟨rfl,HC.out⟩
 | cons a l =>
  have CR:=hid (read_at g n s a l w h)
  clear h
  have hhi:=hex_hi a
  by_cases ha : Tk.hexv a < 0
  ·
   have HT : Hid (Tk.code (a :: l) = .bad 3):=by show _ = _;unfold Tk.code;simp only [];rw [if_pos ha]
   rw [HT.out]
   go_enter Tryz.func194,Tryz.ntmps194
   go_wp2_with fail
   refine wp_loop_rounds 1 ?_
   rw [rounds_succ]
   go_wp2_with fail
   refine CR.out.mono ?_
   rintro e w1 ⟨rfl,_,hch⟩
   have HC:=hid hch
   clear hch
   go_wp2_with fail
   refine (hex_at a _).mono ?_
   rintro e w2 ⟨rfl,q,rfl⟩
   go_wp2_with fail
   refine (fault_at a _).mono ?_
   rintro e w2 ⟨rfl,rfl⟩
   go_wp2_with fail
   go_ret2
   exact ⟨rfl,HC.out.trans (Ch.draws _)⟩
  ·
   have ha0 : 0 <= Tk.hexv a:=by omega
   have HA:=hid (fun W => hex_at a W)
   cases l with
   | nil =>
    have HT : Hid (Tk.code [a] = .bad 4):=by show _ = _;unfold Tk.code;simp only [];rw [if_neg ha]
    rw [HT.out]
    generalize Tk.hexv a = x at *
    go_enter Tryz.func194,Tryz.ntmps194
    go_wp2_with fail
    refine wp_loop_rounds 2 ?_
    rw [rounds_succ]
    go_wp2_with fail
    refine CR.out.mono ?_
    rintro e w1 ⟨rfl,hs,hch⟩
    have HC:=hid hch
    have HS:=hid hs
    clear hch hs
    go_wp2_with fail
    refine (HA.out _).mono ?_
    rintro e w2 ⟨rfl,q,rfl⟩
    go_wp2_with fail
    rw [rounds_succ]
    go_wp2_with fail
    refine (read_end g (n + 1) s _ (HS.out.draws q)).mono ?_
    rintro e w3 ⟨rfl,_,hch3⟩
    have HC3:=hid hch3
    clear hch3
    go_wp2_with fail
    refine (hex_end _).mono ?_
    rintro e w4 ⟨rfl,rfl⟩
    go_wp2_with fail
    refine (fault_end _).mono ?_
    rintro e w4 ⟨rfl,rfl⟩
    go_wp2_with fail
    go_ret2
    exact ⟨rfl,(HC.out.trans (Ch.draws _)).trans HC3.out⟩
   | cons b l =>
    have hhi2:=hex_hi b
    have HB:=hid (fun W => hex_at b W)
    by_cases hb : Tk.hexv b < 0
    ·
     have HT : Hid (Tk.code (a :: b :: l) = .bad 3):=by show _ = _;unfold Tk.code;simp only [];rw [if_neg ha,if_pos hb]
     rw [HT.out]
     clear ha
     generalize Tk.hexv a = x at *
     generalize Tk.hexv b = y at *
     go_enter Tryz.func194,Tryz.ntmps194
     go_wp2_with fail
     refine wp_loop_rounds 2 ?_
     rw [rounds_succ]
     go_wp2_with fail
     refine CR.out.mono ?_
     rintro e w1 ⟨rfl,hs,hch⟩
     have HC:=hid hch
     have HS:=hid hs
     clear hch hs
     go_wp2_with fail
     refine (HA.out _).mono ?_
     rintro e w2 ⟨rfl,q,rfl⟩
     go_wp2_with fail
     rw [rounds_succ]
     go_wp2_with fail
     refine (read_at g (n + 1) s b l _ (HS.out.draws q)).mono ?_
     rintro e w3 ⟨rfl,_,hch3⟩
     have HC3:=hid hch3
     clear hch3
     go_wp2_with fail
     refine (HB.out _).mono ?_
     rintro e w4 ⟨rfl,q4,rfl⟩
     go_wp2_with fail
     refine (fault_at b _).mono ?_
     rintro e w4 ⟨rfl,rfl⟩
     go_wp2_with fail
     go_ret2
     exact ⟨rfl,((HC.out.trans (Ch.draws _)).trans HC3.out).trans (Ch.draws _)⟩
    ·
     have HT : Hid (Tk.code (a :: b :: l) = .good (UInt8.ofNat (16 * Tk.hexv a + Tk.hexv b).toNat) l):=by show _ = _;unfold Tk.code;simp only [];rw [if_neg ha,if_neg hb]
     rw [HT.out]
     have hb0 : 0 <= Tk.hexv b:=by omega
     clear ha hb
     generalize Tk.hexv a = x at *
     generalize Tk.hexv b = y at *
     have hxy : 16 * x + y <= 255:=by omega
     have hxy0 : 0 <= 16 * x + y:=by omega
     go_enter Tryz.func194,Tryz.ntmps194
     go_wp2_with fail
     refine wp_loop_rounds 3 ?_
     rw [rounds_succ]
     go_wp2_with fail
     refine CR.out.mono ?_
     rintro e w1 ⟨rfl,hs,hch⟩
     have HC:=hid hch
     have HS:=hid hs
     clear hch hs
     go_wp2_with fail
     refine (HA.out _).mono ?_
     rintro e w2 ⟨rfl,q,rfl⟩
     go_wp2_with fail
     rw [rounds_succ]
     go_wp2_with fail
     refine (read_at g (n + 1) s b l _ (HS.out.draws q)).mono ?_
     rintro e w3 ⟨rfl,hs3,hch3⟩
     have HC3:=hid hch3
     have HS3:=hid hs3
     clear hch3 hs3
     go_wp2_with fail
     refine (HB.out _).mono ?_
     rintro e w4 ⟨rfl,q4,rfl⟩
     go_wp2_with fail
     rw [rounds_succ]
     go_wp2_with fail
     go_ret2
     refine ⟨?_,((HC.out.trans (Ch.draws _)).trans HC3.out).trans (Ch.draws _),_,HS3.out.draws _⟩
     rw [UInt8.toNat_ofNat',show (((16 * x + y).toNat % 2 ^ 8 : Nat) : Int) = 16 * x + y by simp only [Nat.reducePow];omega]
     rfl
theorem escape_any (g n : Nat) (s : ByteArray) (l : List UInt8) (w : World) (h : Sc w g s n l) :
  Calls Tryz.prog 168 #[.pointer (some ⟨g,0,none⟩)] w (EPost g s w (Tk.esc l)):=by
 cases l with
 | nil =>
  have CR:=hid (read_end g n s w h)
  clear h
  go_enter Tryz.func168,Tryz.ntmps168
  go_wp2_with fail
  refine CR.out.mono ?_
  rintro e w1 ⟨rfl,_,hch⟩
  have HC:=hid hch
  clear hch
  go_wp2_with fail
  refine (fault_end _).mono ?_
  rintro e w2 ⟨rfl,rfl⟩
  go_wp2_with fail
  go_ret2
  exact ⟨rfl,HC.out⟩
 | cons c l =>
  have CR:=hid (read_at g n s c l w h)
  have HT : Hid (Tk.esc (c :: l) = if c.toNat = 34 \/ c.toNat = 92 then .good c l else if c.toNat = 110 then .good 10 l else if c.toNat = 116 then .good 9 l else if c.toNat = 120 then Tk.code l else .bad 3):=rfl
  generalize Tk.esc (c :: l) = rr at *
  have hcn:=c.toNat_lt
  clear h
  by_cases h1 : c.toNat = 34
  ·
   rw [if_pos (.inl h1)] at HT
   have i1 : (c.toNat : Int) = 34:=by omega
   go_enter Tryz.func168,Tryz.ntmps168
   go_wp2_with fail
   refine CR.out.mono ?_
   rintro e w1 ⟨rfl,hs,hch⟩
   have HC:=hid hch
   have HS:=hid hs
   clear hch hs
   go_wp2_with fail
   go_ret2
   rw [HT.out]
   exact ⟨by rw [i1];rfl,HC.out,n + 1,HS.out⟩
  by_cases h2 : c.toNat = 92
  ·
   rw [if_pos (.inr h2)] at HT
   have i1 : (c.toNat : Int) = 92:=by omega
   go_enter Tryz.func168,Tryz.ntmps168
   go_wp2_with fail
   refine CR.out.mono ?_
   rintro e w1 ⟨rfl,hs,hch⟩
   have HC:=hid hch
   have HS:=hid hs
   clear hch hs
   go_wp2_with fail
   go_ret2
   rw [HT.out]
   exact ⟨by rw [i1];rfl,HC.out,n + 1,HS.out⟩
  rw [if_neg (by omega)] at HT
  have j1 : ¬ (c.toNat : Int) = 34:=by omega
  have j2 : ¬ (c.toNat : Int) = 92:=by omega
  by_cases h3 : c.toNat = 110
  ·
   rw [if_pos h3] at HT
   have i1 : (c.toNat : Int) = 110:=by omega
   clear j1 j2
   go_enter Tryz.func168,Tryz.ntmps168
   go_wp2_with fail
   refine CR.out.mono ?_
   rintro e w1 ⟨rfl,hs,hch⟩
   have HC:=hid hch
   have HS:=hid hs
   clear hch hs
   go_wp2_with fail
   go_ret2
   rw [HT.out]
   exact ⟨rfl,HC.out,n + 1,HS.out⟩
  rw [if_neg h3] at HT
  by_cases h4 : c.toNat = 116
  ·
   rw [if_pos h4] at HT
   have i1 : (c.toNat : Int) = 116:=by omega
   clear j1 j2
   go_enter Tryz.func168,Tryz.ntmps168
   go_wp2_with fail
   refine CR.out.mono ?_
   rintro e w1 ⟨rfl,hs,hch⟩
   have HC:=hid hch
   have HS:=hid hs
   clear hch hs
   go_wp2_with fail
   go_ret2
   rw [HT.out]
   exact ⟨rfl,HC.out,n + 1,HS.out⟩
  rw [if_neg h4] at HT
  by_cases h5 : c.toNat = 120
  ·
   rw [if_pos h5] at HT
   have i1 : (c.toNat : Int) = 120:=by omega
   clear j1 j2
   go_enter Tryz.func168,Tryz.ntmps168
   go_wp2_with fail
   refine CR.out.mono ?_
   rintro e w1 ⟨rfl,hs,hch⟩
   have HC:=hid hch
   have HS:=hid hs
   clear hch hs
   go_wp2_with fail
   refine (code_any g (n + 1) s l _ HS.out).mono ?_
   intro e w2 hp
   have HE:=hid hp
   clear hp
   cases hc : Tk.code l with
   | bad k =>
    rw [hc] at HE
    obtain ⟨rfl,hch2⟩:=HE.out
    clear HE
    go_wp2_with fail
    go_ret2
    rw [HT.out,hc]
    exact ⟨rfl,HC.out.trans hch2⟩
   | good k r =>
    rw [hc] at HE
    obtain ⟨rfl,hch2,m,hs2⟩:=HE.out
    have HS2:=hid hs2
    clear HE hs2
    go_wp2_with fail
    go_ret2
    rw [HT.out,hc]
    exact ⟨rfl,HC.out.trans hch2,m,HS2.out⟩
  rw [if_neg h5] at HT
  have j3 : ¬ (c.toNat : Int) = 110:=by omega
  have j4 : ¬ (c.toNat : Int) = 116:=by omega
  have j5 : ¬ (c.toNat : Int) = 120:=by omega
  go_enter Tryz.func168,Tryz.ntmps168
  go_wp2_with fail
  refine CR.out.mono ?_
  rintro e w1 ⟨rfl,hs,hch⟩
  have HC:=hid hch
  have HS:=hid hs
  clear hch hs
  go_wp2_with fail
  refine (fault_at c _).mono ?_
  rintro e w2 ⟨rfl,rfl⟩
  go_wp2_with fail
  go_ret2
  rw [HT.out]
  exact ⟨rfl,HC.out⟩
end Go.Proofs.YtgeppafcemeidaaGreatDoor
namespace Go.Proofs.YtgeppafcemeidaaGreatDoor
open Go.RowKit
theorem Ch.base {g B : Nat} {w w1 w2 : World} (h : Ch g w w1) (hb : Below B w1 w2) (hB : w.heap.size <= B) : Ch g w w2 :=
 ⟨hb.os.trans h.os,hb.tape.trans h.tape,hb.output.trans h.output,Nat.le_trans h.size hb.size,fun k hk hne => (hb.block k (by omega)).trans (h.block k hk hne)⟩
theorem Own.chg {w w' : World} {base g : Nat} {e : TypeId} {v : Value} {xs : List Value} (h : Own w base e v xs) (c : Ch g w w') (hg : g < base) : Own w' base e v xs:=by
 rcases h.2 with ⟨rfl,h0⟩ | ⟨k,cap,cur,rfl,hbg,hk,h1⟩
 ·
  exact ⟨h.1,.inl ⟨rfl,h0⟩⟩
 ·
  exact ⟨h.1,.inr ⟨k,cap,cur,rfl,hbg,(c.block k (Array.getElem?_eq_some_iff.1 hk).1 (fun e => by injection e;omega)).trans hk,h1⟩⟩
theorem Sc.under {g n B : Nat} {w w' : World} {s : ByteArray} {l : List UInt8} (h : Sc w g s n l) (hb : Below B w w') (hg : g < B) : Sc w' g s n l:=⟨(hb.block g hg).trans h.1,h.2⟩
def LitRel (w : World) (g : Nat) (s : ByteArray) (R : Tk.TR) (v : Value) (wr : World) : Prop :=
 ∃ m r acc f,Hid (Sc wr g s m r) /\ Hid (wr.heap[w.heap.size]? = some zTok) /\ Hid (Ch g w wr) /\ Hid (OwnB wr (w.heap.size + 1) v acc) /\ Hid (Tk.lit f r acc = R /\ r.length <= f /\ acc.length + r.length <= 16384 /\ w.heap.size + 1 <= wr.heap.size)
theorem lit_nil (f : Nat) (acc : List UInt8) : Tk.lit f [] acc = .bad 4:=by cases f <;> rfl
theorem code_bad {l : List UInt8} {k : Int} (h : Tk.code l = .bad k) : k = 3 \/ k = 4:=by
 unfold Tk.code at h
 split at h
 ·
  cases h;simp
 ·
  split at h
  ·
   cases h;simp
  ·
   split at h
   ·
    cases h;simp
   ·
    split at h
    ·
     cases h;simp
    ·
     cases h
theorem esc_bad {l : List UInt8} {k : Int} (h : Tk.esc l = .bad k) : k = 3 \/ k = 4:=by
 unfold Tk.esc at h
 split at h
 ·
  cases h;simp
 ·
  split at h
  ·
   cases h
  ·
   split at h
   ·
    cases h
   ·
    split at h
    ·
     cases h
    ·
     split at h
     ·
      exact code_bad h
     ·
      cases h;simp
theorem literal_any (g n : Nat) (s : ByteArray) (c : UInt8) (l : List UInt8) (w : World) (h : Sc w g s n (c :: l)) :
  Calls Tryz.prog 131 #[.pointer (some ⟨g,0,none⟩)] w (TPost g s w (Tk.lit l.length l [])):=by
 have hg:=h.lt
 have hsz:=h.2.2.2
 have hlen:=h.len
 simp only [List.length_cons] at hlen
 have HA : Hid (Sc (w.alloc zTok) g s n (c :: l)):=h.below ((Below.refl _ _).alloc (Nat.le_refl _) _)
 have HZ : Hid ((w.alloc zTok).heap[w.heap.size]? = some zTok):=zalloc w
 have CR:=hid (read_at g n s c l _ HA.out)
 have HL : Hid (l.length <= 16384):=by show _ <= _;omega
 have HR : Hid (Tk.lit l.length l [] = Tk.lit l.length l []):=rfl
 generalize hRR : Tk.lit l.length l [] = R at *
 clear h
 go_enter Tryz.func131,Tryz.ntmps131
 go_wp2_with fail
 refine CR.out.mono ?_
 rintro e w1 ⟨rfl,hs1,hch1⟩
 have HREL : Hid (LitRel w g s R (.slice none 0 0) w1):=⟨n + 1,l,[],l.length,hs1,hch1.obj HZ.out (by omega),(Ch.of_below ((Below.refl _ _).alloc (Nat.le_refl _) _)).trans hch1,Own.nil _ _ _,⟨hRR,Nat.le_refl _,by simpa using HL.out,by have:=hch1.size;simp at this;omega⟩⟩
 clear hs1 hch1 hRR
 go_wp2_with fail
 go_loopw [4] (fun v4 wr => LitRel w g s R v4 wr) (fun _ wr => s.size - posOf wr g)
 case atStart => exact HREL.out
 case round =>
  obtain ⟨m,r,acc,f,HS,HZ1,HC,HO,HF⟩:=hrel
  have hgr:=HS.out.lt
  have hlr:=HS.out.len
  cases r with
  | nil =>
   have HT : Hid (R = .bad 4):=by show _ = _;rw [<- HF.out.1,lit_nil]
   have CR2:=hid (read_end g m s _ HS.out)
   go_wp2_with fail
   refine CR2.out.mono ?_
   rintro e w2 ⟨rfl,_,hch2⟩
   have hz2:=hch2.obj HZ1.out (by omega : w.heap.size ≠ g)
   have HC2 : Hid (Ch g w w2):=HC.out.trans hch2
   obtain ⟨b0,b1,b2,b3⟩:=zcells hz2
   have f0:=zfree hz2 0
   have f1:=zfree hz2 1
   have f2:=zfree hz2 2
   have f3:=zfree hz2 3
   clear hz2 hch2
   go_wp2_with fail
   refine (fault_end _).mono ?_
   rintro e w3 ⟨rfl,rfl⟩
   go_wp2_with fail
   refine bodyPost_ret (v:=.tuple #[tokV 0 0 [] 0,.int .i64 4]) (by simp [results,Tryz.results131,go_sem,tokV,byS,b0,b1,b2,b3]) rfl ?_
   rw [HT.out]
   exact ⟨rfl,ch4 HC2.out (Nat.le_refl _)⟩
  | cons c1 r =>
   have CR2:=hid (read_at g m s c1 r _ HS.out)
   have hcn:=c1.toNat_lt
   simp only [List.length_cons] at hlr
   have HF2 : Hid (∃ f',f = f' + 1):=⟨f - 1,by have:=HF.out.2.1;simp only [List.length_cons] at this;omega⟩
   obtain ⟨f,rfl⟩:=HF2.out
   have HT : Hid (R = if c1.toNat = 34 then (if acc.length > 4096 then .bad 6 else .good 4 acc 0 r) else if c1.toNat = 92 then (match Tk.esc r with
    | .bad e => .bad e
    | .good d r' => Tk.lit f r' (acc ++ [d])) else if c1.toNat < 32 \/ c1.toNat > 126 then .bad 3 else Tk.lit f r (acc ++ [c1])):=by show _ = _;rw [<- HF.out.1];rfl
   have HF3 : Hid (r.length <= f /\ acc.length + r.length + 1 <= 16384 /\ w.heap.size + 1 <= wr.heap.size):=by
    have:=HF.out.2
    simp only [List.length_cons] at this
    exact ⟨by omega,by omega,by omega⟩
   clear HF HF2
   obtain ⟨A,cc,hv4⟩:=(OwnB.bs HO.out).form
   subst hv4
   have hal : acc.length <= 16384:=by have:=HF3.out;omega
   by_cases h34 : c1.toNat = 34
   ·
    have i34 : (c1.toNat : Int) = 34:=by omega
    rw [if_pos h34] at HT
    by_cases h4096 : acc.length > 4096
    ·
     rw [if_pos h4096] at HT
     have i1 : (4096 : Int) < (acc.length : Int):=by omega
     go_wp2_with fail
     refine CR2.out.mono ?_
     rintro e w2 ⟨rfl,hs2,hch2⟩
     have HS2:=hid hs2
     have hz2:=hch2.obj HZ1.out (by omega : w.heap.size ≠ g)
     have HZ2:=hid hz2
     have HC2 : Hid (Ch g w w2):=HC.out.trans hch2
     have HO2:=hid (HO.out.chg hch2 (by omega))
     have hs2z : w.heap.size + 1 <= w2.heap.size:=by have:=hch2.size;have:=HF3.out;omega
     obtain ⟨b0,b1,b2,b3⟩:=zcells hz2
     have f0:=zfree hz2 0
     have f1:=zfree hz2 1
     have f2:=zfree hz2 2
     have f3:=zfree hz2 3
     clear hs2 hz2 hch2
     go_wp2_with fail
     refine bodyPost_ret (v:=.tuple #[tokV 0 0 [] 0,.int .i64 6]) (by simp [results,Tryz.results131,go_sem,tokV,byS,b0,b1,b2,b3]) rfl ?_
     rw [HT.out]
     exact ⟨rfl,ch4 HC2.out (Nat.le_refl _)⟩
    ·
     rw [if_neg h4096] at HT
     have i1 : ¬ (4096 : Int) < (acc.length : Int):=by omega
     go_wp2_with fail
     refine CR2.out.mono ?_
     rintro e w2 ⟨rfl,hs2,hch2⟩
     have HS2:=hid hs2
     have hz2:=hch2.obj HZ1.out (by omega : w.heap.size ≠ g)
     have HZ2:=hid hz2
     have HC2 : Hid (Ch g w w2):=HC.out.trans hch2
     have HO2:=hid (HO.out.chg hch2 (by omega))
     have hs2z : w.heap.size + 1 <= w2.heap.size:=by have:=hch2.size;have:=HF3.out;omega
     obtain ⟨b0,b1,b2,b3⟩:=zcells hz2
     have f0:=zfree hz2 0
     have f1:=zfree hz2 1
     have f2:=zfree hz2 2
     have f3:=zfree hz2 3
     clear hs2 hz2 hch2
     have hcv:=(OwnB.bs HO2.out).conv
     unfold strOf at hcv
     go_wp2_with fail
     refine bodyPost_ret (v:=.tuple #[tokV 4 0 acc 0,.int .i64 0]) (by simp [results,Tryz.results131,go_sem,tokV,byS,b0,b1,b2,b3]) rfl ?_
     rw [HT.out]
     exact ⟨rfl,ch4 HC2.out (Nat.le_refl _),m + 1,sc4 HS2.out (by omega)⟩
   ·
    rw [if_neg h34] at HT
    have i34 : ¬ (c1.toNat : Int) = 34:=by omega
    by_cases h92 : c1.toNat = 92
    ·
     have i92 : (c1.toNat : Int) = 92:=by omega
     rw [if_pos h92] at HT
     go_wp2_with fail
     refine CR2.out.mono ?_
     rintro e w2 ⟨rfl,hs2,hch2⟩
     have HS2:=hid hs2
     have hz2:=hch2.obj HZ1.out (by omega : w.heap.size ≠ g)
     have HZ2:=hid hz2
     have HC2 : Hid (Ch g w w2):=HC.out.trans hch2
     have HO2:=hid (HO.out.chg hch2 (by omega))
     have hs2z : w.heap.size + 1 <= w2.heap.size:=by have:=hch2.size;have:=HF3.out;omega
     obtain ⟨b0,b1,b2,b3⟩:=zcells hz2
     have f0:=zfree hz2 0
     have f1:=zfree hz2 1
     have f2:=zfree hz2 2
     have f3:=zfree hz2 3
     clear hs2 hz2 hch2
     go_wp2_with fail
     refine (escape_any g (m + 1) s r _ HS2.out).mono ?_
     intro e w3 hp
     cases hx : Tk.esc r with
     | bad k =>
      rw [hx] at hp HT
      obtain ⟨rfl,hch3⟩:=hp
      have hk0 : (k != 0) = true:=by have:=esc_bad hx;simp;omega
      have hz3:=hch3.obj HZ2.out (by omega : w.heap.size ≠ g)
      have HC3 : Hid (Ch g w w3):=HC2.out.trans hch3
      clear b0 b1 b2 b3 f0 f1 f2 f3 hch3
      obtain ⟨b0,b1,b2,b3⟩:=zcells hz3
      have f0:=zfree hz3 0
      have f1:=zfree hz3 1
      have f2:=zfree hz3 2
      have f3:=zfree hz3 3
      clear hz3 hx
      go_wp2_with fail
      refine bodyPost_ret (v:=.tuple #[tokV 0 0 [] 0,.int .i64 k]) (by simp [results,Tryz.results131,go_sem,tokV,byS,b0,b1,b2,b3]) rfl ?_
      rw [HT.out]
      exact ⟨rfl,ch4 HC3.out (Nat.le_refl _)⟩
     | good d r2 =>
      rw [hx] at hp HT
      obtain ⟨rfl,hch3,m3,hs3⟩:=hp
      have HLE : Hid (r2.length + 1 <= r.length):=Tk.esc_len hx
      have HS3:=hid hs3
      have HZ3:=hid (hch3.obj HZ2.out (by omega : w.heap.size ≠ g))
      have HC3 : Hid (Ch g w w3):=HC2.out.trans hch3
      have HO3:=hid (HO2.out.chg hch3 (by omega))
      have hs3z : w.heap.size + 1 <= w3.heap.size:=by have:=hch3.size;omega
      clear hch3 hs3 hx
      clear b0 b1 b2 b3 f0 f1 f2 f3
      have hb : w.heap.size + 1 <= w3.heap.size:=hs3z
      go_wp2_with (at_builtin;refine wpList_app8 rfl (.tmp 44) (.tmp 46) rfl (w.heap.size + 1) _ acc _ d rfl rfl HO3.out rfl (by omega) hb ?_;intro v' w' hown' hb')
      have HS9:=hid (HS3.out.under hb' (by omega))
      refine ⟨⟨m3,r2,acc ++ [d],f,HS9.out,(hb'.block _ (by omega)).trans HZ3.out,HC3.out.base hb' (by omega),hown',⟨HT.out.symm,by have:=HLE.out;have:=HF3.out;omega,by have:=HLE.out;have:=HF3.out;simp only [List.length_append,List.length_singleton];omega,Nat.le_trans hb hb'.size⟩⟩,?_⟩
      rw [HS9.out.pos,HS.out.pos]
      have:=HS9.out.len
      have:=HLE.out;have:=HF3.out
      omega
    ·
     rw [if_neg h92] at HT
     have i92 : ¬ (c1.toNat : Int) = 92:=by omega
     by_cases hr : c1.toNat < 32 \/ c1.toNat > 126
     ·
      rw [if_pos hr] at HT
      have hr2 : (decide ((c1.toNat : Int) < 32) || decide ((126 : Int) < (c1.toNat : Int))) = true:=by simp;omega
      rcases (by omega : (c1.toNat : Int) < 32 \/ (¬ (c1.toNat : Int) < 32 /\ (126 : Int) < (c1.toNat : Int))) with j1 | ⟨j1,j2⟩
      ·
       clear hr hr2
       go_wp2_with fail
       refine CR2.out.mono ?_
       rintro e w2 ⟨rfl,hs2,hch2⟩
       have HS2:=hid hs2
       have hz2:=hch2.obj HZ1.out (by omega : w.heap.size ≠ g)
       have HZ2:=hid hz2
       have HC2 : Hid (Ch g w w2):=HC.out.trans hch2
       have HO2:=hid (HO.out.chg hch2 (by omega))
       have hs2z : w.heap.size + 1 <= w2.heap.size:=by have:=hch2.size;have:=HF3.out;omega
       obtain ⟨b0,b1,b2,b3⟩:=zcells hz2
       have f0:=zfree hz2 0
       have f1:=zfree hz2 1
       have f2:=zfree hz2 2
       have f3:=zfree hz2 3
       clear hs2 hz2 hch2
       go_wp2_with fail
       refine (fault_at c1 _).mono ?_
       rintro e w3 ⟨rfl,rfl⟩
       go_wp2_with fail
       refine bodyPost_ret (v:=.tuple #[tokV 0 0 [] 0,.int .i64 3]) (by simp [results,Tryz.results131,go_sem,tokV,byS,b0,b1,b2,b3]) rfl ?_
       rw [HT.out]
       exact ⟨rfl,ch4 HC2.out (Nat.le_refl _)⟩
      ·
       clear hr hr2
       go_wp2_with fail
       refine CR2.out.mono ?_
       rintro e w2 ⟨rfl,hs2,hch2⟩
       have HS2:=hid hs2
       have hz2:=hch2.obj HZ1.out (by omega : w.heap.size ≠ g)
       have HZ2:=hid hz2
       have HC2 : Hid (Ch g w w2):=HC.out.trans hch2
       have HO2:=hid (HO.out.chg hch2 (by omega))
       have hs2z : w.heap.size + 1 <= w2.heap.size:=by have:=hch2.size;have:=HF3.out;omega
       obtain ⟨b0,b1,b2,b3⟩:=zcells hz2
       have f0:=zfree hz2 0
       have f1:=zfree hz2 1
       have f2:=zfree hz2 2
       have f3:=zfree hz2 3
       clear hs2 hz2 hch2
       go_wp2_with fail
       refine (fault_at c1 _).mono ?_
       rintro e w3 ⟨rfl,rfl⟩
       go_wp2_with fail
       refine bodyPost_ret (v:=.tuple #[tokV 0 0 [] 0,.int .i64 3]) (by simp [results,Tryz.results131,go_sem,tokV,byS,b0,b1,b2,b3]) rfl ?_
       rw [HT.out]
       exact ⟨rfl,ch4 HC2.out (Nat.le_refl _)⟩
     ·
      rw [if_neg hr] at HT
      have j1 : ¬ (c1.toNat : Int) < 32:=by omega
      have j2 : ¬ (126 : Int) < (c1.toNat : Int):=by omega
      clear hr
      go_wp2_with fail
      refine CR2.out.mono ?_
      rintro e w2 ⟨rfl,hs2,hch2⟩
      have HS2:=hid hs2
      have hz2:=hch2.obj HZ1.out (by omega : w.heap.size ≠ g)
      have HZ2:=hid hz2
      have HC2 : Hid (Ch g w w2):=HC.out.trans hch2
      have HO2:=hid (HO.out.chg hch2 (by omega))
      have hs2z : w.heap.size + 1 <= w2.heap.size:=by have:=hch2.size;have:=HF3.out;omega
      obtain ⟨b0,b1,b2,b3⟩:=zcells hz2
      have f0:=zfree hz2 0
      have f1:=zfree hz2 1
      have f2:=zfree hz2 2
      have f3:=zfree hz2 3
      clear hs2 hz2 hch2
      clear b0 b1 b2 b3 f0 f1 f2 f3
      have hb : w.heap.size + 1 <= w2.heap.size:=hs2z
      go_wp2_with (at_builtin;refine wpList_app8 rfl (.tmp 12) (.tmp 15) rfl (w.heap.size + 1) _ acc _ c1 rfl rfl HO2.out rfl (by omega) hb ?_;intro v' w' hown' hb')
      have HS9:=hid (HS2.out.under hb' (by omega))
      refine ⟨⟨m + 1,r,acc ++ [c1],f,HS9.out,(hb'.block _ (by omega)).trans HZ2.out,HC2.out.base hb' (by omega),hown',⟨HT.out.symm,by have:=HF3.out;omega,by have:=HF3.out;simp only [List.length_append,List.length_singleton];omega,Nat.le_trans hb hb'.size⟩⟩,?_⟩
      rw [HS9.out.pos,HS.out.pos]
      have:=HS9.out.len
      have:=HF3.out
      omega
end Go.Proofs.YtgeppafcemeidaaGreatDoor
namespace Go.Proofs.YtgeppafcemeidaaGreatDoor
open Go.RowKit
theorem cls_at (g k : Nat) (p : UInt8 -> Bool) (c : UInt8) (w : World) (h : Cl w g k p) :
  Calls Tryz.prog 127 #[.int .i32 (c.toNat : Int),.pointer (some ⟨k,0,none⟩)] w fun e w' => e = .returned (.bool (p c)) /\ ∃ q,w' = w.drewN q :=
 cls_any g k p [c] w h
theorem str1 {w : World} {g n : Nat} {s : ByteArray} {c : UInt8} {r : List UInt8} (h : Sc w g s n (c :: r)) : s.extract n (n + 1) = byS [c]:=by
 rw [extract_mk,h.2.2.1,show n + 1 - n = 1 by omega];rfl
theorem str2 {w : World} {g n : Nat} {s : ByteArray} {c d : UInt8} {r : List UInt8} (h : Sc w g s n (c :: d :: r)) : s.extract n (n + 2) = byS [c,d]:=by
 rw [extract_mk,h.2.2.1,show n + 2 - n = 2 by omega];rfl
theorem sign_any (g n : Nat) (s : ByteArray) (c : UInt8) (r : List UInt8) (w : World) (h : Sc w g s n (c :: r)) :
  Calls Tryz.prog 132 #[.pointer (some ⟨g,0,none⟩)] w (TPost g s w (Tk.sgn c r)):=by
 have hg:=h.lt
 have hsz:=h.2.2.2
 have hlen:=h.len
 simp only [List.length_cons] at hlen
 have hc1:=h.cell1
 have H:=hid h
 have CA:=hid (fun W => among_asc g _ _ asc_pair W)
 have CB:=hid (fun W => among_asc g _ _ asc_sign W)
 have HA : Hid (Sc (w.alloc zTok) g s n (c :: r)):=h.below ((Below.refl _ _).alloc (Nat.le_refl _) _)
 have hgA:=HA.out.lt
 have HZ : Hid ((w.alloc zTok).heap[w.heap.size]? = some zTok):=zalloc w
 have hcA : (w.alloc zTok).cell? ⟨g,1,none⟩ = some (.int .i64 (n : Int)):=HA.out.cell1
 have HT : Hid (Tk.sgn c r = if Tk.pairc c = true /\ (r.headD 0).toNat = 61 then .good 5 [c,61] 0 r.tail else if Tk.signc c then .good 5 [c] 0 r else .bad 3):=rfl
 generalize Tk.sgn c r = rr at *
 unfold zTok at hcA
 clear h hc1
 go_enter Tryz.func132,Tryz.ntmps132
 go_wp2_with fail
 refine (CA.out _ hgA).mono ?_
 rintro e w1 ⟨k1,rfl,hb1,hcl1⟩
 have HS1:=hid (HA.out.below hb1)
 have HZ1:=hid (zstep HZ.out hb1)
 have HC1 : Hid (Ch g w w1):=(Ch.of_below ((Below.refl _ _).alloc (Nat.le_refl _) _)).trans (Ch.of_below hb1)
 have HCL1:=hid hcl1
 have hg1:=HS1.out.lt
 clear hb1 hcl1 hgA
 go_wp2_with fail
 refine (CB.out _ hg1).mono ?_
 rintro e w2 ⟨k2,rfl,hb2,hcl2⟩
 have HS2:=hid (HS1.out.below hb2)
 have HZ2:=hid (zstep HZ1.out hb2)
 have HC2 : Hid (Ch g w w2):=HC1.out.trans (Ch.of_below hb2)
 have HCL2:=hid hcl2
 have HCL1':=hid (HCL1.out.ch (Ch.of_below hb2))
 clear hb2 hcl2 hg1
 have CR:=hid (read_at g n s c r w2 HS2.out)
 go_wp2_with fail
 refine CR.out.mono ?_
 rintro e w4 ⟨rfl,hs4,hch4⟩
 have HS4:=hid hs4
 have HZ4:=hid (hch4.obj HZ2.out (by omega : w.heap.size ≠ g))
 have HC4 : Hid (Ch g w w4):=HC2.out.trans hch4
 have CP:=hid (cls_at g k1 Tk.pairc c w4 (HCL1'.out.ch hch4))
 have CS:=hid (fun q => cls_at g k2 Tk.signc c (w4.drewN q) ((HCL2.out.ch hch4).ch (Ch.draws q)))
 have CK:=hid (fun q => peek_any g (n + 1) s r (w4.drewN q) (hs4.draws q))
 clear hs4 hch4
 unfold fv at *
 cases hp : Tk.pairc c with
 | false =>
  rw [hp] at CP HT
  rw [if_neg (fun h => by cases h.1)] at HT
  go_wp2_with fail
  refine CP.out.mono ?_
  rintro e w5 ⟨rfl,q,rfl⟩
  cases hs : Tk.signc c with
  | true =>
   rw [hs] at CS HT
   rw [if_pos rfl] at HT
   go_wp2_with fail
   refine (CS.out (q)).mono ?_
   rintro e w6 ⟨rfl,q6,rfl⟩
   obtain ⟨b0,b1,b2,b3⟩:=zcells HZ4.out
   have f0:=zfree HZ4.out 0
   have f1:=zfree HZ4.out 1
   have f2:=zfree HZ4.out 2
   have f3:=zfree HZ4.out 3
   have p0:=HS4.out.cell0
   have p1:=HS4.out.cell1
   have hn1 : (n : Int) <= (n : Int) + 1:=by omega
   have hn2 : (n : Int) + 1 <= (s.size : Int):=by omega
   have hn0 : 0 <= (n : Int):=by omega
   have htn : ((n : Int) + 1).toNat = n + 1:=by omega
   go_wp2_with fail
   go_region
   all_goals go_wp2_with fail
   have hst:=str1 H.out
   refine bodyPost_ret (v:=.tuple #[tokV 5 0 [c] 0,.int .i64 0]) (by simp [results,Tryz.results132,go_sem,tokV,byS,b0,b1,b2,b3,hst]) rfl ?_
   rw [HT.out]
   exact ⟨rfl,ch4 (HC4.out.trans (Ch.draws _)) (Nat.le_refl _),n + 1,sc4 (HS4.out.draws _) (by omega)⟩
  | false =>
   rw [hs] at CS HT
   rw [if_neg (by simp)] at HT
   go_wp2_with fail
   refine (CS.out (q)).mono ?_
   rintro e w6 ⟨rfl,q6,rfl⟩
   obtain ⟨b0,b1,b2,b3⟩:=zcells (zdraw HZ4.out (q + q6))
   have f0:=zfree (zdraw HZ4.out (q + q6)) 0
   have f1:=zfree (zdraw HZ4.out (q + q6)) 1
   have f2:=zfree (zdraw HZ4.out (q + q6)) 2
   have f3:=zfree (zdraw HZ4.out (q + q6)) 3
   go_wp2_with fail
   refine bodyPost_ret (v:=.tuple #[tokV 0 0 [] 0,.int .i64 3]) (by simp [results,Tryz.results132,go_sem,tokV,byS,b0,b1,b2,b3]) rfl ?_
   rw [HT.out]
   exact ⟨rfl,ch4 (HC4.out.trans (Ch.draws _)) (Nat.le_refl _)⟩
 | true =>
  rw [hp] at CP HT
  go_wp2_with fail
  refine CP.out.mono ?_
  rintro e w5 ⟨rfl,q,rfl⟩
  cases r with
  | nil =>
   rw [if_neg (fun h => by have:=h.2;simp at this)] at HT
   go_wp2_with fail
   refine (CK.out q).mono ?_
   rintro e w5 ⟨rfl,q2,rfl⟩
   simp only [rn]
   cases hs : Tk.signc c with
   | true =>
    rw [hs] at CS HT
    rw [if_pos rfl] at HT
    go_wp2_with fail
    refine (CS.out (q + q2)).mono ?_
    rintro e w6 ⟨rfl,q6,rfl⟩
    obtain ⟨b0,b1,b2,b3⟩:=zcells HZ4.out
    have f0:=zfree HZ4.out 0
    have f1:=zfree HZ4.out 1
    have f2:=zfree HZ4.out 2
    have f3:=zfree HZ4.out 3
    have p0:=HS4.out.cell0
    have p1:=HS4.out.cell1
    have hn1 : (n : Int) <= (n : Int) + 1:=by omega
    have hn2 : (n : Int) + 1 <= (s.size : Int):=by omega
    have hn0 : 0 <= (n : Int):=by omega
    have htn : ((n : Int) + 1).toNat = n + 1:=by omega
    go_wp2_with fail
    go_region
    all_goals go_wp2_with fail
    have hst:=str1 H.out
    refine bodyPost_ret (v:=.tuple #[tokV 5 0 [c] 0,.int .i64 0]) (by simp [results,Tryz.results132,go_sem,tokV,byS,b0,b1,b2,b3,hst]) rfl ?_
    rw [HT.out]
    exact ⟨rfl,ch4 (HC4.out.trans (Ch.draws _)) (Nat.le_refl _),n + 1,sc4 (HS4.out.draws _) (by omega)⟩
   | false =>
    rw [hs] at CS HT
    rw [if_neg (by simp)] at HT
    go_wp2_with fail
    refine (CS.out (q + q2)).mono ?_
    rintro e w6 ⟨rfl,q6,rfl⟩
    obtain ⟨b0,b1,b2,b3⟩:=zcells (zdraw HZ4.out (q + q2 + q6))
    have f0:=zfree (zdraw HZ4.out (q + q2 + q6)) 0
    have f1:=zfree (zdraw HZ4.out (q + q2 + q6)) 1
    have f2:=zfree (zdraw HZ4.out (q + q2 + q6)) 2
    have f3:=zfree (zdraw HZ4.out (q + q2 + q6)) 3
    go_wp2_with fail
    refine bodyPost_ret (v:=.tuple #[tokV 0 0 [] 0,.int .i64 3]) (by simp [results,Tryz.results132,go_sem,tokV,byS,b0,b1,b2,b3]) rfl ?_
    rw [HT.out]
    exact ⟨rfl,ch4 (HC4.out.trans (Ch.draws _)) (Nat.le_refl _)⟩
  | cons d r =>
   by_cases hd : d.toNat = 61
   ·
    have hd2 : d = 61:=UInt8.toNat_inj.1 hd
    subst hd2
    rw [if_pos ⟨trivial,rfl⟩] at HT
    have CR2:=hid (fun q => read_at g (n + 1) s 61 r (w4.drewN q) (HS4.out.draws q))
    go_wp2_with fail
    refine (CK.out q).mono ?_
    rintro e w5 ⟨rfl,q2,rfl⟩
    simp only [rn]
    have h61 : ((61 : UInt8).toNat : Int) = 61:=rfl
    go_wp2_with fail
    refine (CR2.out _).mono ?_
    rintro e w6 ⟨rfl,hs6,hch6⟩
    have HS6:=hid hs6
    have hz6:=hch6.obj (zdraw HZ4.out (q + q2)) (by omega : w.heap.size ≠ g)
    have HC6 : Hid (Ch g w w6):=(HC4.out.trans (Ch.draws _)).trans hch6
    obtain ⟨b0,b1,b2,b3⟩:=zcells hz6
    have f0:=zfree hz6 0
    have f1:=zfree hz6 1
    have f2:=zfree hz6 2
    have f3:=zfree hz6 3
    have p0:=hs6.cell0
    have p1:=hs6.cell1
    have hn1 : (n : Int) <= (n : Int) + 1 + 1:=by omega
    have hn2 : (n : Int) + 1 + 1 <= (s.size : Int):=by simp only [List.length_cons] at hlen;omega
    have hn0 : 0 <= (n : Int):=by omega
    have htn : ((n : Int) + 1 + 1).toNat = n + 2:=by omega
    clear hs6 hch6 hz6
    go_wp2_with fail
    go_region
    all_goals go_wp2_with fail
    have hst:=str2 H.out
    refine bodyPost_ret (v:=.tuple #[tokV 5 0 [c,61] 0,.int .i64 0]) (by simp [results,Tryz.results132,go_sem,tokV,byS,b0,b1,b2,b3,hst]) rfl ?_
    rw [HT.out]
    exact ⟨rfl,ch4 (HC6.out.trans (Ch.draws 1)) (Nat.le_refl _),n + 1 + 1,sc4 (HS6.out.draws 1) (by omega)⟩
   ·
    have hd1 : ¬ (d.toNat : Int) = 61:=by omega
    rw [if_neg (fun h => hd h.2)] at HT
    go_wp2_with fail
    refine (CK.out q).mono ?_
    rintro e w5 ⟨rfl,q2,rfl⟩
    simp only [rn]
    cases hs : Tk.signc c with
    | true =>
     rw [hs] at CS HT
     rw [if_pos rfl] at HT
     go_wp2_with fail
     refine (CS.out (q + q2)).mono ?_
     rintro e w6 ⟨rfl,q6,rfl⟩
     obtain ⟨b0,b1,b2,b3⟩:=zcells HZ4.out
     have f0:=zfree HZ4.out 0
     have f1:=zfree HZ4.out 1
     have f2:=zfree HZ4.out 2
     have f3:=zfree HZ4.out 3
     have p0:=HS4.out.cell0
     have p1:=HS4.out.cell1
     have hn1 : (n : Int) <= (n : Int) + 1:=by omega
     have hn2 : (n : Int) + 1 <= (s.size : Int):=by omega
     have hn0 : 0 <= (n : Int):=by omega
     have htn : ((n : Int) + 1).toNat = n + 1:=by omega
     go_wp2_with fail
     go_region
     all_goals go_wp2_with fail
     have hst:=str1 H.out
     refine bodyPost_ret (v:=.tuple #[tokV 5 0 [c] 0,.int .i64 0]) (by simp [results,Tryz.results132,go_sem,tokV,byS,b0,b1,b2,b3,hst]) rfl ?_
     rw [HT.out]
     exact ⟨rfl,ch4 (HC4.out.trans (Ch.draws _)) (Nat.le_refl _),n + 1,sc4 (HS4.out.draws _) (by omega)⟩
    | false =>
     rw [hs] at CS HT
     rw [if_neg (by simp)] at HT
     go_wp2_with fail
     refine (CS.out (q + q2)).mono ?_
     rintro e w6 ⟨rfl,q6,rfl⟩
     obtain ⟨b0,b1,b2,b3⟩:=zcells (zdraw HZ4.out (q + q2 + q6))
     have f0:=zfree (zdraw HZ4.out (q + q2 + q6)) 0
     have f1:=zfree (zdraw HZ4.out (q + q2 + q6)) 1
     have f2:=zfree (zdraw HZ4.out (q + q2 + q6)) 2
     have f3:=zfree (zdraw HZ4.out (q + q2 + q6)) 3
     go_wp2_with fail
     refine bodyPost_ret (v:=.tuple #[tokV 0 0 [] 0,.int .i64 3]) (by simp [results,Tryz.results132,go_sem,tokV,byS,b0,b1,b2,b3]) rfl ?_
     rw [HT.out]
     exact ⟨rfl,ch4 (HC4.out.trans (Ch.draws _)) (Nat.le_refl _)⟩
end Go.Proofs.YtgeppafcemeidaaGreatDoor
namespace Go.Proofs.YtgeppafcemeidaaGreatDoor
open Go.RowKit
theorem word_any (g n : Nat) (s : ByteArray) (l : List UInt8) (w : World) (h : Sc w g s n l) :
  Calls Tryz.prog 129 #[.pointer (some ⟨g,0,none⟩)] w (TPost g s w (Tk.wordT l)):=by
 have H:=hid h
 have hg:=h.lt
 have hsz:=h.2.2.2
 have hlen:=h.len
 have CA:=hid (among_asc g _ _ asc_word (w.alloc zTok) (by simp;omega))
 have HA : Hid (Sc (w.alloc zTok) g s n l):=h.below ((Below.refl _ _).alloc (Nat.le_refl _) _)
 have HZ : Hid ((w.alloc zTok).heap[w.heap.size]? = some zTok):=zalloc w
 have hdl : (l.takeWhile Tk.wordc).length <= l.length:=List.Sublist.length_le (List.takeWhile_sublist _)
 have hds : (byS (l.takeWhile Tk.wordc)).size = (l.takeWhile Tk.wordc).length:=byS_size _
 have HT : Hid (Tk.wordT l = if (l.takeWhile Tk.wordc).length > 64 then .bad 8 else .good (if Tk.kw (l.takeWhile Tk.wordc) then 2 else 1) (l.takeWhile Tk.wordc) 0 (l.dropWhile Tk.wordc)):=rfl
 have HSP:=hid (fun k W => span_any g n k s l Tk.wordc W)
 have HKW:=hid (fun W => kw_any (l.takeWhile Tk.wordc) W)
 generalize Tk.wordT l = r at *
 generalize hdd : l.takeWhile Tk.wordc = d at *
 clear h hdd
 go_enter Tryz.func129,Tryz.ntmps129
 go_wp2_with fail
 refine CA.out.mono ?_
 rintro e w1 ⟨k,rfl,hb1,hcl⟩
 have HS1:=hid (HA.out.below hb1)
 have HZ1:=hid (zstep HZ.out hb1)
 have HC1 : Hid (Ch g w w1):=(Ch.of_below ((Below.refl _ _).alloc (Nat.le_refl _) _)).trans (Ch.of_below hb1)
 have HCL:=hid hcl
 clear hb1 hcl
 go_wp2_with fail
 refine (HSP.out k w1 HS1.out HCL.out).mono ?_
 rintro e w2 ⟨rfl,hch,m,hS2⟩
 have HS2:=hid hS2
 have hz2 : w2.heap[w.heap.size]? = some zTok:=hch.obj HZ1.out (by omega)
 have HC2 : Hid (Ch g w w2):=HC1.out.trans hch
 obtain ⟨b0,b1,b2,b3⟩:=zcells hz2
 have f0:=zfree hz2 0
 have f1:=zfree hz2 1
 have f2:=zfree hz2 2
 have f3:=zfree hz2 3
 clear hch hS2 hz2
 change (byS d).size = _ at hds
 by_cases h64 : d.length > 64
 ·
  rw [if_pos h64] at HT
  go_wp2_with fail
  refine bodyPost_ret (v:=.tuple #[tokV 0 0 [] 0,.int .i64 8]) (by simp [results,Tryz.results129,go_sem,tokV,byS,b0,b1,b2,b3]) rfl ?_
  rw [HT.out]
  exact ⟨rfl,ch4 HC2.out (Nat.le_refl _)⟩
 ·
  rw [if_neg h64] at HT
  have h64' : ¬ (64 < (d.length : Int)):=by omega
  clear h64
  go_wp2_with fail
  refine (HKW.out w2).mono ?_
  rintro e w3 ⟨rfl,rfl⟩
  cases hk : Tk.kw d with
  | true =>
   rw [hk,if_pos rfl] at HT
   go_wp2_with fail
   refine bodyPost_ret (v:=.tuple #[tokV 2 0 d 0,.int .i64 0]) (by simp [results,Tryz.results129,go_sem,tokV,byS,b0,b1,b2,b3]) rfl ?_
   rw [HT.out]
   exact ⟨rfl,ch4 HC2.out (Nat.le_refl _),m,sc4 HS2.out (by omega)⟩
  | false =>
   rw [hk,if_neg (by simp)] at HT
   go_wp2_with fail
   refine bodyPost_ret (v:=.tuple #[tokV 1 0 d 0,.int .i64 0]) (by simp [results,Tryz.results129,go_sem,tokV,byS,b0,b1,b2,b3]) rfl ?_
   rw [HT.out]
   exact ⟨rfl,ch4 HC2.out (Nat.le_refl _),m,sc4 HS2.out (by omega)⟩
end Go.Proofs.YtgeppafcemeidaaGreatDoor
namespace Go.Proofs.YtgeppafcemeidaaGreatDoor
open Go.RowKit
theorem token_any (g n : Nat) (s : ByteArray) (l : List UInt8) (w : World) (h : Sc w g s n l) (hG : GoodC g w) :
  Calls Tryz.prog 83 #[.pointer (some ⟨g,0,none⟩)] w (TPost g s w (Tk.tok l)):=by
 have hg:=h.lt
 have HG:=hid hG
 have CA:=hid (fun W => among_asc g _ _ asc_digit W)
 have CB:=hid (fun W => among_asc g _ _ asc_letter W)
 have HA : Hid (Sc (w.alloc zTok) g s n l):=h.below ((Below.refl _ _).alloc (Nat.le_refl _) _)
 have hgA:=HA.out.lt
 have HZ : Hid ((w.alloc zTok).heap[w.heap.size]? = some zTok):=zalloc w
 have HT : Hid (Tk.tok l = Tk.tok l):=rfl
 generalize hrr : Tk.tok l = rr at HT |-
 have HT : Hid (rr = Tk.tok l):=hrr.symm
 clear hrr
 clear h hG
 go_enter Tryz.func83,Tryz.ntmps83
 go_wp2_with fail
 refine (CA.out _ hgA).mono ?_
 rintro e w1 ⟨k1,rfl,hb1,hcl1⟩
 have HS1:=hid (HA.out.below hb1)
 have HZ1:=hid (zstep HZ.out hb1)
 have HC1 : Hid (Ch g w w1):=(Ch.of_below ((Below.refl _ _).alloc (Nat.le_refl _) _)).trans (Ch.of_below hb1)
 have HCL1:=hid hcl1
 have hg1:=HS1.out.lt
 clear hb1 hcl1 hgA
 go_wp2_with fail
 refine (CB.out _ hg1).mono ?_
 rintro e w2 ⟨k2,rfl,hb2,hcl2⟩
 have HS2:=hid (HS1.out.below hb2)
 have HZ2:=hid (zstep HZ1.out hb2)
 have HC2 : Hid (Ch g w w2):=HC1.out.trans (Ch.of_below hb2)
 have HCL2:=hid hcl2
 have HCL1':=hid (HCL1.out.ch (Ch.of_below hb2))
 clear hb2 hcl2 hg1
 have CP:=hid (peek_any g n s l w2 HS2.out)
 go_wp2_with fail
 refine CP.out.mono ?_
 rintro e w3 ⟨rfl,q,rfl⟩
 have HS3:=hid (HS2.out.draws q)
 have HZ3:=hid (zdraw HZ2.out q)
 have HC3 : Hid (Ch g w (w2.drewN q)):=HC2.out.trans (Ch.draws _)
 have HL1:=hid (HCL1'.out.ch (Ch.draws q))
 have HL2:=hid (HCL2.out.ch (Ch.draws q))
 clear CP HS2 HZ2 HC2 HCL1' HCL2 HCL1 HS1 HZ1 HC1 CA CB
 generalize w2.drewN q = w3 at *
 unfold fv at *
 cases l with
 | nil =>
  simp only [rn]
  have HT : Hid (rr = .good 0 [] 0 []):=HT.out
  obtain ⟨b0,b1,b2,b3⟩:=zcells HZ3.out
  have f0:=zfree HZ3.out 0
  have f1:=zfree HZ3.out 1
  have f2:=zfree HZ3.out 2
  have f3:=zfree HZ3.out 3
  go_wp2_with fail
  refine bodyPost_ret (v:=.tuple #[tokV 0 0 [] 0,.int .i64 0]) (by simp [results,Tryz.results83,go_sem,tokV,byS,b0,b1,b2,b3]) rfl ?_
  rw [HT.out]
  exact ⟨rfl,ch4 HC3.out (Nat.le_refl _),n,sc4 HS3.out (by omega)⟩
 | cons c r =>
  simp only [rn]
  have hcn:=c.toNat_lt
  have hne : ((c.toNat : Int) == -1) = false:=by simp
  have CL:=hid (cls_at g k2 Tk.letter c w3 HL2.out)
  have CD:=hid (fun q => cls_at g k1 Tk.digit c (w3.drewN q) (HL1.out.ch (Ch.draws q)))
  have HT : Hid (rr = if Tk.letter c then Tk.wordT (c :: r) else if Tk.digit c then Tk.num (c :: r) else if c.toNat = 34 then Tk.lit r.length r [] else Tk.sgn c r):=HT.out
  cases hl : Tk.letter c with
  | true =>
   rw [hl] at CL HT
   rw [if_pos rfl] at HT
   go_wp2_with fail
   refine CL.out.mono ?_
   rintro e w4 ⟨rfl,q4,rfl⟩
   have HS4:=hid (HS3.out.draws (q4))
   have HZ4:=hid (zdraw HZ3.out (q4))
   have HC4 : Hid (Ch g w (w3.drewN (q4))):=HC3.out.trans (Ch.draws _)
   go_wp2_with fail
   refine (word_any g n s (c :: r) _ HS4.out).mono ?_
   intro e w5 hp
   cases hx : Tk.wordT (c :: r) with
   | bad k =>
    rw [hx] at hp HT
    simp only [TPost,tokV] at hp
    obtain ⟨rfl,hch5⟩:=hp
    have hz5:=hch5.obj HZ4.out (by omega : w.heap.size ≠ g)
    have HC5 : Hid (Ch g w w5):=HC4.out.trans hch5
    obtain ⟨b0,b1,b2,b3⟩:=zcells hz5
    have f0:=zfree hz5 0
    have f1:=zfree hz5 1
    have f2:=zfree hz5 2
    have f3:=zfree hz5 3
    clear hz5 hch5 hx
    go_wp2_with fail
    refine bodyPost_ret (v:=.tuple #[tokV 0 0 [] 0,.int .i64 k]) (by simp [results,Tryz.results83,go_sem,tokV,byS,b0,b1,b2,b3]) rfl ?_
    rw [HT.out]
    exact ⟨rfl,ch4 HC5.out (Nat.le_refl _)⟩
   | good k t nn r2 =>
    rw [hx] at hp HT
    simp only [TPost,tokV] at hp
    obtain ⟨rfl,hch5,m5,hs5⟩:=hp
    have HS5:=hid hs5
    have hz5:=hch5.obj HZ4.out (by omega : w.heap.size ≠ g)
    have HC5 : Hid (Ch g w w5):=HC4.out.trans hch5
    obtain ⟨b0,b1,b2,b3⟩:=zcells hz5
    have f0:=zfree hz5 0
    have f1:=zfree hz5 1
    have f2:=zfree hz5 2
    have f3:=zfree hz5 3
    clear hz5 hch5 hx hs5
    go_wp2_with fail
    refine bodyPost_ret (v:=.tuple #[tokV k 0 t nn,.int .i64 0]) (by simp [results,Tryz.results83,go_sem,tokV,byS,b0,b1,b2,b3]) rfl ?_
    rw [HT.out]
    exact ⟨rfl,ch4 HC5.out (Nat.le_refl _),m5,sc4 HS5.out (by omega)⟩
  | false =>
   rw [hl] at CL HT
   rw [if_neg (by simp)] at HT
   go_wp2_with fail
   refine CL.out.mono ?_
   rintro e w4 ⟨rfl,q4,rfl⟩
   cases hd : Tk.digit c with
   | true =>
    rw [hd] at CD HT
    rw [if_pos rfl] at HT
    go_wp2_with fail
    refine (CD.out q4).mono ?_
    rintro e w4 ⟨rfl,q5,rfl⟩
    have HS4:=hid (HS3.out.draws (q4 + q5))
    have HZ4:=hid (zdraw HZ3.out (q4 + q5))
    have HC4 : Hid (Ch g w (w3.drewN (q4 + q5))):=HC3.out.trans (Ch.draws _)
    go_wp2_with fail
    refine (integer_any g n s c r _ HS4.out hd (HG.out.ch HC4.out)).mono ?_
    intro e w5 hp
    cases hx : Tk.num (c :: r) with
    | bad k =>
     rw [hx] at hp HT
     simp only [TPost,tokV] at hp
     obtain ⟨rfl,hch5⟩:=hp
     have hz5:=hch5.obj HZ4.out (by omega : w.heap.size ≠ g)
     have HC5 : Hid (Ch g w w5):=HC4.out.trans hch5
     obtain ⟨b0,b1,b2,b3⟩:=zcells hz5
     have f0:=zfree hz5 0
     have f1:=zfree hz5 1
     have f2:=zfree hz5 2
     have f3:=zfree hz5 3
     clear hz5 hch5 hx
     go_wp2_with fail
     refine bodyPost_ret (v:=.tuple #[tokV 0 0 [] 0,.int .i64 k]) (by simp [results,Tryz.results83,go_sem,tokV,byS,b0,b1,b2,b3]) rfl ?_
     rw [HT.out]
     exact ⟨rfl,ch4 HC5.out (Nat.le_refl _)⟩
    | good k t nn r2 =>
     rw [hx] at hp HT
     simp only [TPost,tokV] at hp
     obtain ⟨rfl,hch5,m5,hs5⟩:=hp
     have HS5:=hid hs5
     have hz5:=hch5.obj HZ4.out (by omega : w.heap.size ≠ g)
     have HC5 : Hid (Ch g w w5):=HC4.out.trans hch5
     obtain ⟨b0,b1,b2,b3⟩:=zcells hz5
     have f0:=zfree hz5 0
     have f1:=zfree hz5 1
     have f2:=zfree hz5 2
     have f3:=zfree hz5 3
     clear hz5 hch5 hx hs5
     go_wp2_with fail
     refine bodyPost_ret (v:=.tuple #[tokV k 0 t nn,.int .i64 0]) (by simp [results,Tryz.results83,go_sem,tokV,byS,b0,b1,b2,b3]) rfl ?_
     rw [HT.out]
     exact ⟨rfl,ch4 HC5.out (Nat.le_refl _),m5,sc4 HS5.out (by omega)⟩
   | false =>
    rw [hd] at CD HT
    rw [if_neg (by simp)] at HT
    go_wp2_with fail
    refine (CD.out q4).mono ?_
    rintro e w4 ⟨rfl,q5,rfl⟩
    have HS4:=hid (HS3.out.draws (q4 + q5))
    have HZ4:=hid (zdraw HZ3.out (q4 + q5))
    have HC4 : Hid (Ch g w (w3.drewN (q4 + q5))):=HC3.out.trans (Ch.draws _)
    by_cases h34 : c.toNat = 34
    ·
     have i34 : (c.toNat : Int) = 34:=by omega
     rw [if_pos h34] at HT
     go_wp2_with fail
     refine (literal_any g n s c r _ HS4.out).mono ?_
     intro e w5 hp
     cases hx : Tk.lit r.length r [] with
     | bad k =>
      rw [hx] at hp HT
      simp only [TPost,tokV] at hp
      obtain ⟨rfl,hch5⟩:=hp
      have hz5:=hch5.obj HZ4.out (by omega : w.heap.size ≠ g)
      have HC5 : Hid (Ch g w w5):=HC4.out.trans hch5
      obtain ⟨b0,b1,b2,b3⟩:=zcells hz5
      have f0:=zfree hz5 0
      have f1:=zfree hz5 1
      have f2:=zfree hz5 2
      have f3:=zfree hz5 3
      clear hz5 hch5 hx
      go_wp2_with fail
      refine bodyPost_ret (v:=.tuple #[tokV 0 0 [] 0,.int .i64 k]) (by simp [results,Tryz.results83,go_sem,tokV,byS,b0,b1,b2,b3]) rfl ?_
      rw [HT.out]
      exact ⟨rfl,ch4 HC5.out (Nat.le_refl _)⟩
     | good k t nn r2 =>
      rw [hx] at hp HT
      simp only [TPost,tokV] at hp
      obtain ⟨rfl,hch5,m5,hs5⟩:=hp
      have HS5:=hid hs5
      have hz5:=hch5.obj HZ4.out (by omega : w.heap.size ≠ g)
      have HC5 : Hid (Ch g w w5):=HC4.out.trans hch5
      obtain ⟨b0,b1,b2,b3⟩:=zcells hz5
      have f0:=zfree hz5 0
      have f1:=zfree hz5 1
      have f2:=zfree hz5 2
      have f3:=zfree hz5 3
      clear hz5 hch5 hx hs5
      go_wp2_with fail
      refine bodyPost_ret (v:=.tuple #[tokV k 0 t nn,.int .i64 0]) (by simp [results,Tryz.results83,go_sem,tokV,byS,b0,b1,b2,b3]) rfl ?_
      rw [HT.out]
      exact ⟨rfl,ch4 HC5.out (Nat.le_refl _),m5,sc4 HS5.out (by omega)⟩
    ·
     have i34 : ¬ (c.toNat : Int) = 34:=by omega
     rw [if_neg h34] at HT
     go_wp2_with fail
     refine (sign_any g n s c r _ HS4.out).mono ?_
     intro e w5 hp
     cases hx : Tk.sgn c r with
     | bad k =>
      rw [hx] at hp HT
      simp only [TPost,tokV] at hp
      obtain ⟨rfl,hch5⟩:=hp
      have hz5:=hch5.obj HZ4.out (by omega : w.heap.size ≠ g)
      have HC5 : Hid (Ch g w w5):=HC4.out.trans hch5
      obtain ⟨b0,b1,b2,b3⟩:=zcells hz5
      have f0:=zfree hz5 0
      have f1:=zfree hz5 1
      have f2:=zfree hz5 2
      have f3:=zfree hz5 3
      clear hz5 hch5 hx
      go_wp2_with fail
      refine bodyPost_ret (v:=.tuple #[tokV 0 0 [] 0,.int .i64 k]) (by simp [results,Tryz.results83,go_sem,tokV,byS,b0,b1,b2,b3]) rfl ?_
      rw [HT.out]
      exact ⟨rfl,ch4 HC5.out (Nat.le_refl _)⟩
     | good k t nn r2 =>
      rw [hx] at hp HT
      simp only [TPost,tokV] at hp
      obtain ⟨rfl,hch5,m5,hs5⟩:=hp
      have HS5:=hid hs5
      have hz5:=hch5.obj HZ4.out (by omega : w.heap.size ≠ g)
      have HC5 : Hid (Ch g w w5):=HC4.out.trans hch5
      obtain ⟨b0,b1,b2,b3⟩:=zcells hz5
      have f0:=zfree hz5 0
      have f1:=zfree hz5 1
      have f2:=zfree hz5 2
      have f3:=zfree hz5 3
      clear hz5 hch5 hx hs5
      go_wp2_with fail
      refine bodyPost_ret (v:=.tuple #[tokV k 0 t nn,.int .i64 0]) (by simp [results,Tryz.results83,go_sem,tokV,byS,b0,b1,b2,b3]) rfl ?_
      rw [HT.out]
      exact ⟨rfl,ch4 HC5.out (Nat.le_refl _),m5,sc4 HS5.out (by omega)⟩
end Go.Proofs.YtgeppafcemeidaaGreatDoor
namespace Go.Proofs.YtgeppafcemeidaaGreatDoor
open Go.RowKit
def tkC (t : Tk.T) : List Value:=[.int .i64 t.k,.int .i64 t.at_,.string (byS t.t),.int .i64 t.n]
def tksC (l : List Tk.T) : List Value:=l.flatMap tkC
theorem tksC_snoc (l : List Tk.T) (t : Tk.T) : tksC (l ++ [t]) = tksC l ++ tkC t:=by simp [tksC]
def OwnT (w : World) (base : Nat) (v : Value) (l : List Tk.T) : Prop:=w.ownsRow base 59 4 v l.length (tksC l)
theorem Tryz.infoTok : (Tryz.prog.info? 59).map (fun i => (i.zero,i.size,i.bytes)) = some (some (.agg #[.int .i64 0,.int .i64 0,.string ⟨#[]⟩,.int .i64 0]),4,40):=by kernel_rfl
theorem own_below {w w' : World} {base size n : Nat} {e : TypeId} {v : Value} {xs : List Value} (h : w.ownsRow base e size v n xs) (c : Below w.heap.size w w') : w'.ownsRow base e size v n xs:=by
 rcases h.2 with ⟨rfl,h0⟩ | ⟨k,cap,cur,rfl,hbg,hk,h1⟩
 ·
  exact ⟨h.1,.inl ⟨rfl,h0⟩⟩
 ·
  exact ⟨h.1,.inr ⟨k,cap,cur,rfl,hbg,(c.block k (Array.getElem?_eq_some_iff.1 hk).1).trans hk,h1⟩⟩
theorem wpList_appTok {wr : World} {ops : Array Oper} {rest : List Oper} {o : Oper} {a : Act} {Q : Exit -> Act -> World -> Prop} (hgd : o.guard = none) (s x : Operand)
  (ho : o.op = .call { callee:=.builtin .append,args:=#[s,x],argTypes:=#[52,52] })
  (base : Nat) (v : Value) (l : List Tk.T) (t : Tk.T) (hs : a.eval s = v) (hown : OwnT wr base v l) (hx : a.eval x = .slice (some ⟨wr.heap.size,0,none⟩) 1 1)
  (hl : l.length <= 1000000) (hbase : base <= wr.heap.size)
  (h : ∀ v' w',OwnT w' base v' (l ++ [t]) -> wr.grownBy w' v.ownBlock -> wpList Tryz.prog ops Q rest (a.put o.dst v') w') :
  wpList Tryz.prog ops Q (o :: rest) a (wr.alloc (.cells #[.int .i64 t.k,.int .i64 t.at_,.string (byS t.t),.int .i64 t.n] 59)):=by
 obtain ⟨i0,hi,hz0,hz1,hz2⟩:=info_parts Tryz.infoTok
 have hown2 : (wr.alloc (.cells #[.int .i64 t.k,.int .i64 t.at_,.string (byS t.t),.int .i64 t.n] 59)).ownsRow base 59 4 v l.length (tksC l):=World.ownsRow.alloc hown _
 obtain ⟨v',w',hrun,h2,h3,_,h5⟩:=run_append_own_at (P:=Tryz.prog) _ base 52 o.type 59 i0 _ 4 40 Tryz.underlying52 hi hz0 hz1 hz2 rfl (by omega) v l.length (tksC l) hown2
  ⟨wr.heap.size,0,none⟩ 1 1 (tkC t) rfl (fun j u hj => by
   rw [show (⟨wr.heap.size,0,none⟩ : Addr).add j = ⟨wr.heap.size,j,none⟩ by simp [Addr.add];omega,World.cell?_alloc_mark]
   match j with
   | 0 => simpa [tkC] using hj
   | 1 => simpa [tkC] using hj
   | 2 => simpa [tkC] using hj
   | 3 => simpa [tkC] using hj
   | j + 4 => simp [tkC] at hj) (by
   intro u hu
   simp only [tkC,List.mem_cons,List.not_mem_nil,or_false] at hu
   rcases hu with rfl | rfl | rfl | rfl <;> rfl) (by unfold maxLen;omega) (by omega) (by simp;omega)
 refine wpList_plain hgd fun _ hK => ?_
 unfold Oper.wp execOp
 simp only [ho,resolve,invoke,builtin,Sem.run_bind,Sem.run_pure,Result.andThen_ok,List.map_toArray,List.map_cons,List.map_nil,hs,hx,hrun]
 refine hK _ _ (h v' w' ?_ ?_)
 ·
  show w'.ownsRow base 59 4 v' (l ++ [t]).length (tksC (l ++ [t]))
  rw [tksC_snoc,List.length_append]
  exact h2
 ·
  exact ⟨h3.os,h3.tape,h3.output,Nat.le_trans (by simp) h3.size,fun k hk hne => (h3.block k (by simp;omega) hne).trans (by
   show (wr.heap.push _)[k]? = _
   rw [Array.getElem?_push_lt hk,Array.getElem?_eq_getElem hk])⟩
end Go.Proofs.YtgeppafcemeidaaGreatDoor
namespace Go.Proofs.YtgeppafcemeidaaGreatDoor
open Go.RowKit
theorem tok_bad {l : List UInt8} {k : Int} (h : Tk.tok l = .bad k) : k ≠ 0:=by
 have hlit : ∀ (f : Nat) (l acc : List UInt8),Tk.lit f l acc = .bad k -> k ≠ 0:=by
  intro f
  induction f with
  | zero => intro l acc h;simp [Tk.lit] at h;omega
  | succ f ih =>
   intro l acc h
   cases l with
   | nil => simp [Tk.lit] at h;omega
   | cons c r =>
    unfold Tk.lit at h
    split at h
    ·
     split at h <;> cases h;omega
    ·
     split at h
     ·
      split at h
      ·
       rename_i e he
       cases h
       rcases esc_bad he with h | h <;> omega
      ·
       exact ih _ _ h
     ·
      split at h
      ·
       cases h;omega
      ·
       exact ih _ _ h
 unfold Tk.tok at h
 split at h
 ·
  cases h
 ·
  split at h
  ·
   unfold Tk.wordT at h
   simp only [] at h
   split at h <;> cases h;omega
  ·
   split at h
   ·
    unfold Tk.num at h
    simp only [] at h
    split at h
    ·
     cases h;omega
    ·
     split at h <;> cases h;omega
   ·
    split at h
    ·
     exact hlit _ _ _ h
    ·
     unfold Tk.sgn at h
     split at h
     ·
      cases h
     ·
      split at h <;> cases h;omega
theorem own_lower {w : World} {base B size n : Nat} {e : TypeId} {v : Value} {xs : List Value} (h : w.ownsRow base e size v n xs) (hB : B <= base) : w.ownsRow B e size v n xs:=by
 rcases h.2 with h0 | ⟨k,cap,cur,rfl,hbg,hk⟩
 ·
  exact ⟨h.1,.inl h0⟩
 ·
  exact ⟨h.1,.inr ⟨k,cap,cur,rfl,by omega,hk⟩⟩
def ScanPost (w : World) (r : Tk.SR) (e : Ending) (w' : World) : Prop:=match r with
 | .bad o c => e = .returned (.tuple #[.slice none 0 0,.int .i64 o,.int .i64 c]) /\ Below w.heap.size w w'
 | .good l => ∃ v,e = .returned (.tuple #[v,.int .i64 0,.int .i64 0]) /\ OwnT w' w.heap.size v l /\ Below w.heap.size w w'
def ScanRel (w : World) (s : ByteArray) (R : Tk.SR) (v : Value) (wr : World) : Prop :=
 ∃ m r acc f,Hid (Sc wr w.heap.size s m r) /\ Hid (Below w.heap.size w wr) /\ Hid (OwnT wr (w.heap.size + 1) v acc) /\ Hid (Tk.scan s.size f r acc = R /\ r.length + 1 <= f /\ acc.length + r.length <= 16384 /\ w.heap.size + 1 <= wr.heap.size)
theorem scan_big {s : ByteArray} (w : World) (h : s.size > 16384) : Calls Tryz.prog 44 #[.string s] w (ScanPost w (Tk.scanA s.data.toList)):=by
 have HT : Hid (Tk.scanA s.data.toList = .bad 0 6):=by show _ = _;unfold Tk.scanA;rw [if_pos (by simpa using h)]
 rw [HT.out]
 have h1 : (16384 : Int) < (s.size : Int):=by omega
 go_enter Tryz.func44,Tryz.ntmps44
 go_wp2_with fail
 go_ret3
 exact ⟨rfl,Below.refl _ _⟩
theorem scan_any (s : ByteArray) (w : World) (hG : Good w) : Calls Tryz.prog 44 #[.string s] w (ScanPost w (Tk.scanA s.data.toList)):=by
 by_cases hbig : s.size > 16384
 ·
  exact scan_big w hbig
 have hsz : s.size <= 16384:=by omega
 have h1 : ¬ (16384 : Int) < (s.size : Int):=by omega
 have HG:=hid hG
 have HT : Hid (Tk.scanA s.data.toList = Tk.scan s.size (s.size + 1) s.data.toList []):=by show _ = _;unfold Tk.scanA;rw [if_neg (by simpa using hsz)];rfl
 have hlen : s.data.toList.length = s.size:=by simp
 generalize Tk.scanA s.data.toList = R at *
 have CA:=hid (fun W => among_asc w.heap.size _ _ asc_blank W)
 clear hbig hG
 go_enter Tryz.func44,Tryz.ntmps44
 go_wp2_with fail
 go_loopw [6] (fun v6 wr => ScanRel w s R v6 wr) (fun _ wr => s.size - posOf wr w.heap.size)
 case atStart =>
  exact ⟨0,s.data.toList,[],s.size + 1,⟨show (w.heap.push _)[w.heap.size]? = _ by simp,Nat.zero_le _,rfl,hsz⟩,(Below.refl _ _).alloc (Nat.le_refl _) _,⟨rfl,.inl ⟨rfl,rfl⟩⟩,HT.out.symm,by rw [hlen];omega,by rw [hlen];simpa using hsz,by simp⟩
 case round =>
  obtain ⟨m,r,acc,f,HS,HB,HO,HF⟩:=hrel
  have hgr:=HS.out.lt
  have hlr:=HS.out.len
  go_wp2_with fail
  refine (CA.out wr hgr).mono ?_
  rintro e w1 ⟨k,rfl,hb1,hcl1⟩
  have HS1:=hid (HS.out.below hb1)
  have HB1:=hid (HB.out.trans (hb1.mono HB.out.size))
  have HO1:=hid (own_below HO.out hb1)
  have HCL1:=hid hcl1
  have HZ1:=hid hb1.size
  clear hb1 hcl1
  go_wp2_with fail
  refine (span_any w.heap.size m k s r Tk.blank w1 HS1.out HCL1.out).mono ?_
  rintro e w2 ⟨rfl,hch2,m2,hs2⟩
  have HS2:=hid hs2
  have HB2:=hid (HB1.out.trans (hch2.below (Nat.le_refl _) HB1.out.size))
  have HO2:=hid (own_chg HO1.out hch2 (by omega))
  have HZ2:=hid (Nat.le_trans HZ1.out hch2.size)
  have hc2:=hs2.cell1
  have hl2:=hs2.len
  have HDL:=hid (Tk.dropWhile_len Tk.blank r)
  have hm2 : Hid ((s.size : Int) - ((r.dropWhile Tk.blank).length : Int) = (m2 : Int)):=by show _ = _;omega
  have HGC : Hid (GoodC w.heap.size w2):=fun W hW => HG.out.below (HB2.out.trans (hW.below (Nat.le_refl _) HB2.out.size))
  clear hs2 hch2 HS1 HB1 HO1 HCL1 HZ1
  have HF2 : Hid (∃ f',f = f' + 1):=⟨f - 1,by have:=HF.out.2.1;omega⟩
  obtain ⟨f,rfl⟩:=HF2.out
  have HT2 : Hid (R = match Tk.tok (r.dropWhile Tk.blank) with
   | .bad e => .bad ((s.size : Int) - ((r.dropWhile Tk.blank).length : Int)) e
   | .good k t n r' => if k = 0 then .good (acc ++ [⟨k,(s.size : Int) - ((r.dropWhile Tk.blank).length : Int),t,n⟩])
    else Tk.scan s.size f r' (acc ++ [⟨k,(s.size : Int) - ((r.dropWhile Tk.blank).length : Int),t,n⟩])):=by show _ = _;rw [<- HF.out.1];rfl
  rw [hm2.out] at HT2
  clear HF2
  go_wp2_with fail
  refine (token_any w.heap.size m2 s _ w2 HS2.out HGC.out).mono ?_
  intro e w3 hp
  cases hx : Tk.tok (r.dropWhile Tk.blank) with
  | bad c =>
   rw [hx] at hp HT2
   simp only [TPost,tokV] at hp
   obtain ⟨rfl,hch3⟩:=hp
   have hk0 : (c != 0) = true:=by have:=tok_bad hx;simp;omega
   have HB3:=hid (HB2.out.trans (hch3.below (Nat.le_refl _) HB2.out.size))
   clear hch3 hx
   go_wp2_with fail
   go_ret3
   rw [HT2.out]
   exact ⟨rfl,HB3.out.alloc HB3.out.size _⟩
  | good c t nn r2 =>
   rw [hx] at hp HT2
   simp only [TPost,tokV] at hp
   obtain ⟨rfl,hch3,m3,hs3⟩:=hp
   have HS3:=hid hs3
   have HB3:=hid (HB2.out.trans (hch3.below (Nat.le_refl _) HB2.out.size))
   have HO3:=hid (own_chg HO2.out hch3 (by omega))
   have HZ3:=hid (Nat.le_trans HZ2.out hch3.size)
   have HTL:=hid (Tk.tok_len hx)
   have hown : Hid (∀ b,u6.ownBlock = some b -> w.heap.size + 1 <= b /\ b < w3.heap.size):=fun b hb => World.ownsRow.lt HO3.out b hb
   clear hch3 hx hs3
   have hHO : OwnT (w3.alloc (.cells #[.int .i64 c,.int .i64 (m2 : Int),.string (byS t),.int .i64 nn] 59)) (w.heap.size + 1) u6 acc:=World.ownsRow.alloc HO3.out _
   have hHOH:=hid hHO
   have hbs : w.heap.size + 1 <= w3.heap.size:=by have:=HF.out.2.2.2;have:=HZ3.out;omega
   have hal : acc.length <= 1000000:=by have:=HF.out.2.2.1;omega
   clear hHO
   have hne8 : Hid (some w3.heap.size ≠ u6.ownBlock):=fun e => by have:=(hown.out _ e.symm).2;omega
   have hneg : Hid (some w.heap.size ≠ u6.ownBlock):=fun e => by have:=(hown.out _ e.symm).1;omega
   have HB4 : Hid (Below w.heap.size w (w3.alloc (.cells #[.int .i64 c,.int .i64 (m2 : Int),.string (byS t),.int .i64 nn] 59))):=HB3.out.alloc HB3.out.size _
   have hrow : Hid (∀ k,u6.ownBlock = some k -> w.heap.size <= k):=fun k hk => by have:=(hown.out k hk).1;omega
   by_cases hc0 : c = 0
   ·
    have HT3 : Hid (R = .good (acc ++ [⟨c,(m2 : Int),t,nn⟩])):=by show _ = _;rw [HT2.out];simp only [];rw [if_pos hc0]
    have hc0' : (c == 0) = true:=by simpa using hc0
    clear hc0
    go_wp2_with (at_builtin;refine wpList_appTok rfl (.tmp 29) (.tmp 31) rfl (w.heap.size + 1) _ acc ⟨c,(m2 : Int),t,nn⟩ rfl hHOH.out ((show _ = Value.slice (some ⟨w3.heap.size + 1,0,none⟩) 1 1 from rfl).trans (by simp)) hal (by simp;omega) ?_;intro v' w' hown' hgb';have hc8 : w'.cell? ⟨w3.heap.size,0,none⟩ = some (.int .i64 c):=World.grownBy.cell hgb' (by rw [World.cell?_alloc_mark];rfl) hne8.out)
    go_ret3
    rw [HT3.out]
    exact ⟨v',rfl,own_lower hown' (by omega),HB4.out.grown hgb' (Nat.le_trans HB3.out.size (by simp)) hrow.out⟩
   ·
    have HT3 : Hid (R = Tk.scan s.size f r2 (acc ++ [⟨c,(m2 : Int),t,nn⟩])):=by show _ = _;rw [HT2.out];simp only [];rw [if_neg hc0]
    have HLR : Hid (r2.length + 1 <= (r.dropWhile Tk.blank).length):=by
     show _ <= _
     rcases HTL.out with h | h
     ·
      exact absurd h.1 hc0
     ·
      exact h.2.2
    have hc0' : (c == 0) = false:=by simpa using hc0
    clear hc0
    go_wp2_with (at_builtin;refine wpList_appTok rfl (.tmp 29) (.tmp 31) rfl (w.heap.size + 1) _ acc ⟨c,(m2 : Int),t,nn⟩ rfl hHOH.out ((show _ = Value.slice (some ⟨w3.heap.size + 1,0,none⟩) 1 1 from rfl).trans (by simp)) hal (by simp;omega) ?_;intro v' w' hown' hgb';have hc8 : w'.cell? ⟨w3.heap.size,0,none⟩ = some (.int .i64 c):=World.grownBy.cell hgb' (by rw [World.cell?_alloc_mark];rfl) hne8.out)
    have HS9 : Hid (Sc w' w.heap.size s m3 r2):=⟨(hgb'.block _ (by simp;omega) (fun e => hneg.out e)).trans ((HS3.out.below ((Below.refl _ _).alloc (Nat.le_refl _) _)).1),HS3.out.2⟩
    refine ⟨⟨m3,r2,acc ++ [⟨c,(m2 : Int),t,nn⟩],f,HS9.out,HB4.out.grown hgb' (Nat.le_trans HB3.out.size (by simp)) hrow.out,hid hown',⟨HT3.out.symm,?_,?_,Nat.le_trans hbs (Nat.le_trans (by simp) hgb'.size)⟩⟩,?_⟩
    ·
     have:=HF.out.2.1;have:=HLR.out;have:=HDL.out;omega
    ·
     have:=HF.out.2.2.1;have:=HLR.out;have:=HDL.out;simp only [List.length_append,List.length_singleton];omega
    ·
     rw [HS9.out.pos,HS.out.pos]
     have:=HS9.out.len;have:=HLR.out;have:=HDL.out
     omega
end Go.Proofs.YtgeppafcemeidaaGreatDoor
namespace Go.Proofs.YtgeppafcemeidaaGreatDoor
open Go.RowKit
def RdT (w : World) (v : Value) (l : List Tk.T) : Prop :=
 ∃ A c,v = .slice A l.length c /\ l.length <= c /\ c <= maxLen /\ (l = [] \/ ∃ b o,A = some ⟨b,o,none⟩ /\ ∀ i t,l[i]? = some t ->
  w.cell? ⟨b,o + i * 4,none⟩ = some (.int .i64 t.k) /\ w.cell? ⟨b,o + i * 4 + 1,none⟩ = some (.int .i64 t.at_) /\ w.cell? ⟨b,o + i * 4 + 2,none⟩ = some (.string (byS t.t)) /\ w.cell? ⟨b,o + i * 4 + 3,none⟩ = some (.int .i64 t.n))
theorem tksC_get : ∀ (l : List Tk.T) (i j : Nat) (t : Tk.T),l[i]? = some t -> j < 4 -> (tksC l)[i * 4 + j]? = (tkC t)[j]?
 | [],i,j,t,h,_ => by simp at h
 | u :: l,0,j,t,h,hj => by
  simp at h;subst h
  show (tkC u ++ tksC l)[0 * 4 + j]? = _
  rw [List.getElem?_append_left (by simp [tkC];omega)];simp
 | u :: l,i + 1,j,t,h,hj => by
  show (tkC u ++ tksC l)[(i + 1) * 4 + j]? = _
  rw [List.getElem?_append_right (by simp [tkC];omega)]
  rw [show (i + 1) * 4 + j - (tkC u).length = i * 4 + j by simp [tkC];omega]
  exact tksC_get l i j t (by simpa using h) hj
theorem OwnT.rd {w : World} {base : Nat} {v : Value} {l : List Tk.T} (h : OwnT w base v l) : RdT w v l:=by
 rcases h.2 with ⟨rfl,h0⟩ | ⟨k,cap,cur,rfl,hbg,hk,h1,h2,h3,h4⟩
 ·
  have : l = []:=List.eq_nil_of_length_eq_zero h0
  subst this
  exact ⟨none,0,rfl,Nat.le_refl _,Nat.zero_le _,.inl rfl⟩
 ·
  refine ⟨_,cap,rfl,h1,h2,.inr ⟨k,0,rfl,fun i t hi => ?_⟩⟩
  have hl : i < l.length:=(List.getElem?_eq_some_iff.1 hi).1
  have key : ∀ j,j < 4 -> w.cell? ⟨k,0 + i * 4 + j,none⟩ = (tkC t)[j]?:=by
   intro j hj
   rw [cellAt hk,<- tksC_get l i j t hi hj,<- h4,List.getElem?_take,if_pos (by omega),Nat.zero_add]
   simp
  exact ⟨(key 0 (by omega)).trans rfl,(key 1 (by omega)).trans rfl,(key 2 (by omega)).trans rfl,(key 3 (by omega)).trans rfl⟩
theorem RdT.keep {w w' : World} {v : Value} {l : List Tk.T} (h : RdT w v l) (hb : Below w.heap.size w w') : RdT w' v l:=by
 obtain ⟨A,c,hv,h1,h2,h3⟩:=h
 refine ⟨A,c,hv,h1,h2,?_⟩
 rcases h3 with h3 | ⟨b,o,hA,h3⟩
 ·
  exact .inl h3
 ·
  refine .inr ⟨b,o,hA,fun i t hi => ?_⟩
  obtain ⟨q0,q1,q2,q3⟩:=h3 i t hi
  have k : ∀ {a : Addr} {u : Value},w.cell? a = some u -> w'.cell? a = some u:=fun hc => (hb.cell (World.block_lt_of_cell? w _ hc)).trans hc
  exact ⟨k q0,k q1,k q2,k q3⟩
theorem RdT.form' {w : World} {v : Value} {l : List Tk.T} (h : RdT w v l) : ∃ A c,v = .slice A l.length c:=by
 obtain ⟨A,c,hv,_⟩:=h
 exact ⟨A,c,hv⟩
theorem RdT.at_ {w : World} {A : Option Addr} {n c : Nat} {l : List Tk.T} (h : RdT w (.slice A n c) l) (i : Nat) (hi : i < l.length) : ∃ b o,A = some ⟨b,o,none⟩ /\
  w.cell? ⟨b,o + i * 4,none⟩ = some (.int .i64 l[i].k) /\ w.cell? ⟨b,o + i * 4 + 1,none⟩ = some (.int .i64 l[i].at_) /\ w.cell? ⟨b,o + i * 4 + 2,none⟩ = some (.string (byS l[i].t)) /\ w.cell? ⟨b,o + i * 4 + 3,none⟩ = some (.int .i64 l[i].n):=by
 obtain ⟨A',c',hv,_,_,h3⟩:=h
 injection hv with e1 _ _
 subst e1
 rcases h3 with h3 | ⟨b,o,hA,h3⟩
 ·
  subst h3;simp at hi
 ·
  exact ⟨b,o,hA,h3 i l[i] (List.getElem?_eq_getElem hi)⟩
end Go.Proofs.YtgeppafcemeidaaGreatDoor
namespace Go.Proofs.YtgeppafcemeidaaGreatDoor
namespace Tk
def hexd (n : Nat) : UInt8:=[48,49,50,51,52,53,54,55,56,57,97,98,99,100,101,102].getD n 0
def qc (c : UInt8) : List UInt8 :=
 if c.toNat = 34 \/ c.toNat = 92 then [92,c] else if c.toNat = 10 then [92,110] else if c.toNat = 9 then [92,116]
 else if c.toNat < 32 \/ c.toNat > 126 then [92,120,hexd (c.toNat / 16),hexd (c.toNat % 16)] else [c]
def quote (l : List UInt8) : List UInt8:=34 :: (l.flatMap qc ++ [34])
theorem qc_len (c : UInt8) : (qc c).length <= 4:=by
 unfold qc
 repeat' split
 all_goals simp
theorem qcs_len (l : List UInt8) : (l.flatMap qc).length <= 4 * l.length:=by
 induction l with
 | nil => simp
 | cons c l ih =>
  have:=qc_len c
  rw [List.flatMap_cons,List.length_append,List.length_cons];omega
theorem take_step {l : List UInt8} {k : Nat} (h : k < l.length) : (l.take (k + 1)).flatMap qc = (l.take k).flatMap qc ++ qc l[k]:=by
 rw [List.take_succ_eq_append_getElem h,List.flatMap_append];simp
end Tk
end Go.Proofs.YtgeppafcemeidaaGreatDoor
namespace Go.Proofs.YtgeppafcemeidaaGreatDoor
namespace Tk
theorem tok_cons (c : UInt8) (r : List UInt8) : tok (c :: r) = if letter c then wordT (c :: r) else if digit c then num (c :: r) else if c.toNat = 34 then lit r.length r [] else sgn c r:=rfl
theorem scan_eq (N f : Nat) (l : List UInt8) (acc : List T) : scan N (f + 1) l acc = match tok (l.dropWhile blank) with
  | .bad e => .bad ((N : Int) - (l.dropWhile blank).length) e
  | .good k t n r => if k = 0 then .good (acc ++ [⟨k,(N : Int) - (l.dropWhile blank).length,t,n⟩]) else scan N f r (acc ++ [⟨k,(N : Int) - (l.dropWhile blank).length,t,n⟩]):=rfl
theorem scan_step {N f : Nat} {l r : List UInt8} {acc : List T} {k n : Int} {t : List UInt8} (hx : tok (l.dropWhile blank) = .good k t n r) (hk : k ≠ 0) :
  scan N (f + 1) l acc = scan N f r (acc ++ [⟨k,(N : Int) - (l.dropWhile blank).length,t,n⟩]):=by
 rw [scan_eq,hx]
 simp only []
 rw [if_neg hk]
theorem scan_last {N f : Nat} {l : List UInt8} {acc : List T} (hx : l.dropWhile blank = []) : scan N (f + 1) l acc = .good (acc ++ [⟨0,(N : Int),[],0⟩]):=by
 rw [scan_eq,hx]
 simp [tok]
theorem scan_bad {N f : Nat} {l : List UInt8} {acc : List T} {e : Int} (hx : tok (l.dropWhile blank) = .bad e) : scan N (f + 1) l acc = .bad ((N : Int) - (l.dropWhile blank).length) e:=by
 rw [scan_eq,hx]
end Tk
end Go.Proofs.YtgeppafcemeidaaGreatDoor
namespace Go.Proofs.YtgeppafcemeidaaGreatDoor
namespace Tk
theorem lit_bad : ∀ (f : Nat) (l acc : List UInt8) {k : Int},lit f l acc = .bad k -> k ≠ 0:=by
 intro f
 induction f with
 | zero => intro l acc k h;simp [lit] at h;omega
 | succ f ih =>
  intro l acc k h
  cases l with
  | nil => simp [lit] at h;omega
  | cons c r =>
   unfold lit at h
   split at h
   ·
    split at h <;> cases h;omega
   ·
    split at h
    ·
     split at h
     ·
      rename_i e he
      cases h
      unfold esc at he
      split at he
      ·
       cases he;omega
      ·
       split at he
       ·
        cases he
       ·
        split at he
        ·
         cases he
        ·
         split at he
         ·
          cases he
         ·
          split at he
          ·
           unfold code at he
           split at he
           ·
            cases he;omega
           ·
            split at he
            ·
             cases he;omega
            ·
             split at he
             ·
              cases he;omega
             ·
              split at he
              ·
               cases he;omega
              ·
               cases he
          ·
           cases he;omega
     ·
      exact ih _ _ h
    ·
     split at h
     ·
      cases h;omega
     ·
      exact ih _ _ h
theorem tok_ne {l : List UInt8} {k : Int} (h : tok l = .bad k) : k ≠ 0:=by
 cases l with
 | nil => cases h
 | cons c r =>
  rw [tok_cons] at h
  split at h
  ·
   unfold wordT at h
   simp only [] at h
   split at h <;> cases h;omega
  ·
   split at h
   ·
    unfold num at h
    simp only [] at h
    split at h
    ·
     cases h;omega
    ·
     split at h <;> cases h;omega
   ·
    split at h
    ·
     exact lit_bad _ _ _ h
    ·
     unfold sgn at h
     split at h
     ·
      cases h
     ·
      split at h <;> cases h;omega
theorem scan_err (N : Nat) : ∀ (f : Nat) (l : List UInt8) (acc : List T) {o e : Int},l.length < f -> scan N f l acc = .bad o e -> e ≠ 0
 | 0,_,_,_,_,h,_ => by omega
 | f + 1,l,acc,o,e,hf,h => by
  have hd:=dropWhile_len blank l
  cases hx : tok (l.dropWhile blank) with
  | bad k => rw [scan_bad hx] at h;cases h;exact tok_ne hx
  | good k t n r =>
   have htl:=tok_len hx
   by_cases hk : k = 0
   ·
    subst hk
    rcases htl with ⟨_,h0,_⟩ | h'
    ·
     rw [scan_last h0] at h;cases h
    ·
     omega
   ·
    rw [scan_step hx hk] at h
    exact scan_err N f r _ (by omega) h
theorem scanA_err {l : List UInt8} {o e : Int} (h : scanA l = .bad o e) : e ≠ 0:=by
 unfold scanA at h
 split at h
 ·
  cases h;omega
 ·
  exact scan_err _ _ _ _ (by omega) h
theorem scan_count (N : Nat) : ∀ (f : Nat) (l : List UInt8) (acc res : List T),scan N f l acc = .good res -> res.length <= acc.length + l.length + 1
 | 0,_,_,_,h => by simp [scan] at h
 | f + 1,l,acc,res,h => by
  have hd:=dropWhile_len blank l
  cases hx : tok (l.dropWhile blank) with
  | bad k => rw [scan_bad hx] at h;cases h
  | good k t n r =>
   have htl:=tok_len hx
   by_cases hk : k = 0
   ·
    subst hk
    rcases htl with ⟨_,h0,_⟩ | h'
    ·
     rw [scan_last h0] at h;cases h;simp
    ·
     omega
   ·
    rw [scan_step hx hk] at h
    have:=scan_count N f r _ res h
    simp only [List.length_append,List.length_singleton] at this
    omega
theorem scanA_count {l : List UInt8} {res : List T} (h : scanA l = .good res) : res.length <= 16385:=by
 unfold scanA at h
 split at h
 ·
  cases h
 ·
  have:=scan_count _ _ _ _ _ h
  simp at this;omega
end Tk
end Go.Proofs.YtgeppafcemeidaaGreatDoor
namespace Go.Proofs.YtgeppafcemeidaaGreatDoor
open Go.RowKit
theorem gTab : Tryz.prog.globalNamed "internal/strconv.uint64pow10" = some 0:=by kernel_rfl
theorem gTabT : (Tryz.prog.globals[0]?).map (·.type) = some 145:=by kernel_rfl
theorem gSyn : Tryz.prog.globalNamed "strconv.ErrSyntax" = some 2:=by kernel_rfl
theorem gSynT : (Tryz.prog.globals[2]?).map (·.type) = some 122:=by kernel_rfl
theorem gRng : Tryz.prog.globalNamed "strconv.ErrRange" = some 3:=by kernel_rfl
theorem gRngT : (Tryz.prog.globals[3]?).map (·.type) = some 122:=by kernel_rfl
theorem cTab : Tryz.prog.cellsOf 145 = 20:=by kernel_rfl
theorem cU64 : Tryz.prog.cellsOf 134 = 1:=by kernel_rfl
theorem cErr : Tryz.prog.cellsOf 179 = 1:=by kernel_rfl
theorem cStr : Tryz.prog.cellsOf 9 = 1:=by kernel_rfl
theorem starName : "*" ++ "errors.errorString" = "*errors.errorString":=by decide
theorem rowErr (u : TypeId) (h : Tryz.prog.typeName? 3 u = some "*errors.errorString") : u = 177 :=
 typeName_ptr_named (nm:="errors.errorString") (by rw [starName];kernel_rfl) (by kernel_rfl) (by decide) u (by rw [starName];exact h)
def listed : List (String × DataW Unit):=[("math/bits.deBruijn32tab",Rows.laid_math_bits_deBruijn32tab),("math/bits.deBruijn64tab",Rows.laid_math_bits_deBruijn64tab),("internal/strconv.uint64pow10",Rows.laid_internal_strconv_uint64pow10),("strconv.ErrRange",Rows.laid_strconv_ErrRange),("strconv.ErrSyntax",Rows.laid_strconv_ErrSyntax)]
theorem good_of {W : World} (h : laidMetH Tryz.prog listed W) : Good W:=by
 rw [MakeChecks.laidMetH_plain _ _ _ (by kernel_rfl)] at h
 have h3 : laidMet Tryz.prog (("internal/strconv.uint64pow10",Lib.tabData .u64 Lib.pow10Tab) :: [("strconv.ErrRange",Rows.laid_strconv_ErrRange),("strconv.ErrSyntax",Rows.laid_strconv_ErrSyntax)]) W:=h.tail.tail
 have h4:=h3.tail
 obtain ⟨a0,s0,hv0,-,-,-⟩:=laid_sentinel h4 gRng gRngT Tryz.underlying122 rowErr Tryz.underlying177 Tryz.underlying179 rfl rfl Tryz.underlying9 cErr cStr
 obtain ⟨a1,s1,hv1,-,-,-⟩:=laid_sentinel h4.tail gSyn gSynT Tryz.underlying122 rowErr Tryz.underlying177 Tryz.underlying179 rfl rfl Tryz.underlying9 cErr cStr
 exact ⟨Lib.tabIs_of_head gTab gTabT Tryz.underlying145 Tryz.underlying134 cU64 cTab h3,⟨_,_,hv1⟩,⟨_,_,hv0⟩⟩
theorem door_met (os : Os) (args : Array Value) : laidMetH Tryz.prog listed ((World.doorLaid Tryz.prog 400 os).forCall (fun _ _ => 0) ⟨#[],args,[]⟩).memory :=
 laidMetH_of_parts3 (fuel:=8) (laidMet_of_run' 8 (by kernel_rfl) (by kernel_rfl)) (by kernel_rfl) (by kernel_rfl)
end Go.Proofs.YtgeppafcemeidaaGreatDoor
