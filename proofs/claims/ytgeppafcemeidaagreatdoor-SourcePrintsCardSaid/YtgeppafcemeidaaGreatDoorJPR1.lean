/-
  Texts of a proof, joined: functions of the program and of its reference by contract, and what holds of trees, tokens and bytes.
-/
import Derived.Test.YtgeppafcemeidaaGreatDoorJPB1
set_option linter.unusedVariables false
set_option linter.unusedSimpArgs false
set_option maxRecDepth 100000
set_option maxHeartbeats 8000000
namespace Go.Proofs.YtgeppafcemeidaaGreatDoor
open Go.RowKit
open Sy (N)
open Tk (T)
def RX (m F : Nat) (p : N -> Bool) : Prop:=∀ v : N,v.size < m -> ∀ (a : Value) (w : World) (S : Nat -> Prop),NA w S a v -> Calls Tryz.prog F #[a] w fun e w' => e = .returned (.bool (p v)) /\ Below w.heap.size w w'
def RL (m F : Nat) (p : List N -> Bool) : Prop:=∀ l : List N,(∀ v ∈ l,v.size < m) -> ∀ (iv : Value) (w : World) (S : Nat -> Prop),Sl w S iv l -> Calls Tryz.prog F #[iv] w fun e w' => e = .returned (.bool (p l)) /\ Below w.heap.size w w'
theorem Sl.base {w : World} {S : Nat -> Prop} {iv : Value} {l : List N} (h : Sl w S iv l) (hp : 0 < l.length) : ∃ b o c,iv = .slice (some ⟨b,o,none⟩) l.length c:=by
 obtain ⟨b,o,c,_,_,he,_⟩:=h.kids 0 hp
 exact ⟨b,o,c,he⟩
theorem Sl.kid {w : World} {S : Nat -> Prop} {b o c : Nat} {l : List N} (h : Sl w S (.slice (some ⟨b,o,none⟩) l.length c) l) (i : Nat) (hi : i < l.length) (q : Nat) (hq : q = o + i * 5) :
  ∃ A c1,w.cell? ⟨b,q,none⟩ = some (.int .i64 l[i].op) /\ w.cell? ⟨b,q + 1,none⟩ = some (.string ⟨l[i].nm.toArray⟩) /\ w.cell? ⟨b,q + 2,none⟩ = some (.int .i64 l[i].n) /\ w.cell? ⟨b,q + 3,none⟩ = some (.string ⟨l[i].t.toArray⟩) /\ w.cell? ⟨b,q + 4,none⟩ = some (.slice A l[i].l.length c1) /\
   NA w S (.agg #[.int .i64 l[i].op,.string ⟨l[i].nm.toArray⟩,.int .i64 l[i].n,.string ⟨l[i].t.toArray⟩,.slice A l[i].l.length c1]) l[i]:=by
 subst hq
 obtain ⟨b',o',c',A,c1,he,q0,q1,q2,q3,q4,hv⟩:=h.kids i hi
 injection he with he1 he2 he3
 injection he1 with he1
 injection he1 with h1 h2
 subst h1 h2
 exact ⟨A,c1,q0,q1,q2,q3,q4,hv⟩
theorem Sl.of {w : World} {S : Nat -> Prop} {op n : Int} {nm t : List UInt8} {l : List N} {A : Option Addr} {c : Nat} {xs : List Value} (ho : Ok op nm n t l.length) (hr : RdN w S 5 (.slice A l.length c) l.length xs) (hv : NsC w S l xs) : Sl w S (.slice A l.length c) l:=⟨ho.2.2.2.2.2.2,xs,hr,hv⟩
theorem Sy.len_eq (l : List N) (k : Nat) : ((l.length : Int) == (k : Int)) = (l.length == k):=by rw [Bool.eq_iff_iff];simp;omega
theorem bx_all {w wr : World} {a0 a1 a2 a3 a4 : Value} (h : Bx w #[a0,a1,a2,a3,a4] wr) :
  wr.cell? ⟨w.heap.size,0,none⟩ = some a0 /\ wr.cell? ⟨w.heap.size,1,none⟩ = some a1 /\ wr.cell? ⟨w.heap.size,2,none⟩ = some a2 /\ wr.cell? ⟨w.heap.size,3,none⟩ = some a3 /\ wr.cell? ⟨w.heap.size,4,none⟩ = some a4 :=
 ⟨h.cell 0,h.cell 1,h.cell 2,h.cell 3,h.cell 4⟩
theorem exprs_any {m : Nat} (C : RX m 74 Sy.rX) : RL m 123 Sy.rXs:=by
 intro l hm iv w S hs
 rw [Sy.rXs_all]
 obtain ⟨A,c,rfl⟩:=hs.form
 have hl:=hs.1
 have HS:=hid hs
 have HC:=hid (fun (i : Nat) (hi : i < l.length) => C l[i] (hm _ (List.getElem_mem hi)))
 clear hs C hm
 go_enter Tryz.func123,Tryz.ntmps123
 go_wp2_with fail
 go_loopw [3] (fun v3 wr => ∃ i : Nat,i <= l.length /\ v3 = .int .i64 (i : Int) /\ Hid ((l.take i).all Sy.rX = true) /\ Below w.heap.size w wr) (fun v3 _ => l.length - (intOf v3).toNat)
 case atStart => exact ⟨0,Nat.zero_le _,rfl,rfl,Below.refl _ _⟩
 case round =>
  obtain ⟨i,hi,rfl,HA,hb⟩:=hrel
  have HB:=hid hb
  clear hb
  by_cases hlt : i < l.length
  ·
   obtain ⟨b,o,cc,A1,c1,he,q0,q1,q2,q3,q4,hva⟩:=(HS.out.below HB.out).kids i hlt
   injection he with he1 he2 he3
   subst he1
   clear he2 he3
   have hjl : (i : Int) < (l.length : Int):=by omega
   have CI:=hid (HC.out i hlt _ wr S hva)
   clear hva
   by_cases hp : Sy.rX l[i] = true
   ·
    have HN:=hid (all_take HA.out hlt hp)
    rw [hp] at CI
    clear hp
    go_wp2_with fail
    refine CI.out.mono ?_
    rintro e w1 ⟨rfl,hb1⟩
    go_wp2_with fail
    go_roundw
    case rel => exact ⟨i + 1,by omega,by go_num,HN.out,bstep HB.out hb1⟩
    case measure => simp [intOf];omega
   ·
    have hp' : Sy.rX l[i] = false:=by simpa using hp
    rw [hp'] at CI
    have HN:=hid (all_no hlt hp')
    clear hp hp'
    go_wp2_with fail
    refine CI.out.mono ?_
    rintro e w1 ⟨rfl,hb1⟩
    go_wp2_with fail
    go_ret
    exact ⟨ret_bool HN.out.symm,bstep HB.out hb1⟩
  ·
   have h2 : l.take i = l:=List.take_of_length_le (by omega)
   rw [h2] at HA
   go_wp2_with fail
   go_ret
   exact ⟨ret_bool HA.out.symm,HB.out⟩
theorem blocks_any {m : Nat} (C : RX m 115 Sy.rB) : RL m 116 Sy.rBs:=by
 intro l hm iv w S hs
 rw [Sy.rBs_all]
 obtain ⟨A,c,rfl⟩:=hs.form
 have hl:=hs.1
 have HS:=hid hs
 have HC:=hid (fun (i : Nat) (hi : i < l.length) => C l[i] (hm _ (List.getElem_mem hi)))
 clear hs C hm
 go_enter Tryz.func116,Tryz.ntmps116
 go_wp2_with fail
 go_loopw [3] (fun v3 wr => ∃ i : Nat,i <= l.length /\ v3 = .int .i64 (i : Int) /\ Hid ((l.take i).all Sy.rB = true) /\ Below w.heap.size w wr) (fun v3 _ => l.length - (intOf v3).toNat)
 case atStart => exact ⟨0,Nat.zero_le _,rfl,rfl,Below.refl _ _⟩
 case round =>
  obtain ⟨i,hi,rfl,HA,hb⟩:=hrel
  have HB:=hid hb
  clear hb
  by_cases hlt : i < l.length
  ·
   obtain ⟨b,o,cc,A1,c1,he,q0,q1,q2,q3,q4,hva⟩:=(HS.out.below HB.out).kids i hlt
   injection he with he1 he2 he3
   subst he1
   clear he2 he3
   have hjl : (i : Int) < (l.length : Int):=by omega
   have CI:=hid (HC.out i hlt _ wr S hva)
   clear hva
   by_cases hp : Sy.rB l[i] = true
   ·
    have HN:=hid (all_take HA.out hlt hp)
    rw [hp] at CI
    clear hp
    go_wp2_with fail
    refine CI.out.mono ?_
    rintro e w1 ⟨rfl,hb1⟩
    go_wp2_with fail
    go_roundw
    case rel => exact ⟨i + 1,by omega,by go_num,HN.out,bstep HB.out hb1⟩
    case measure => simp [intOf];omega
   ·
    have hp' : Sy.rB l[i] = false:=by simpa using hp
    rw [hp'] at CI
    have HN:=hid (all_no hlt hp')
    clear hp hp'
    go_wp2_with fail
    refine CI.out.mono ?_
    rintro e w1 ⟨rfl,hb1⟩
    go_wp2_with fail
    go_ret
    exact ⟨ret_bool HN.out.symm,bstep HB.out hb1⟩
  ·
   have h2 : l.take i = l:=List.take_of_length_le (by omega)
   rw [h2] at HA
   go_wp2_with fail
   go_ret
   exact ⟨ret_bool HA.out.symm,HB.out⟩
end Go.Proofs.YtgeppafcemeidaaGreatDoor
namespace Go.Proofs.YtgeppafcemeidaaGreatDoor
open Go.RowKit
open Sy (N)
open Tk (T)
theorem x_g1 {m : Nat} (op : Int) (hop : op = 1 \/ op = 2 \/ op = 3) (n : Int) (nm t : List UInt8) (l : List N) (w : World) (S : Nat -> Prop) (A : Option Addr) (c : Nat) (hm : ∀ v ∈ l,v.size < m) (hv : NA w S (.agg #[.int .i64 op,.string ⟨nm.toArray⟩,.int .i64 n,.string ⟨t.toArray⟩,.slice A l.length c]) (.mk op nm n t l)) (hs : Sl w S (.slice A l.length c) l) :
  Calls Tryz.prog 74 #[.agg #[.int .i64 op,.string ⟨nm.toArray⟩,.int .i64 n,.string ⟨t.toArray⟩,.slice A l.length c]] w fun e w' => e = .returned (.bool (Sy.rX (.mk op nm n t l))) /\ Below w.heap.size w w':=by
 have hl:=hs.1
 have HS:=hid hs
 have CBR:=hid (fun W (hW : Below w.heap.size w W) => bare_any (.mk op nm n t l) false false _ W S (hv.below hW))
 have HD : Hid (Sy.rX (.mk op nm n t l) = (Sy.bareN (.mk op nm n t l) false false && l.length == 0)):=by
  show _ = _
  rcases hop with rfl | rfl | rfl <;> (rw [Sy.rX];simp)
 generalize Sy.rX (.mk op nm n t l) = dd at HD |-
 generalize Sy.bareN (.mk op nm n t l) false false = bb at HD CBR
 have HX:=hid (Bx.refl (w:=w) (cs:=#[.int .i64 op,.string ⟨nm.toArray⟩,.int .i64 n,.string ⟨t.toArray⟩,.slice A l.length c]))
 clear hv hs hm
 rcases hop with rfl | rfl | rfl
 all_goals
  go_enter Tryz.func74,Tryz.ntmps74
  go_wp2_with fail
  refine (CBR.out _ HX.out.below).mono ?_
  rintro e w1 ⟨rfl,hb1⟩
  replace HX:=hid (HX.out.step hb1)
  clear hb1
  obtain ⟨x0,x1,x2,x3,x4⟩:=bx_all HX.out
  cases bb
  ·
   go_wp2_with fail
   go_ret
   exact ⟨ret_bool (by rw [HD.out];simp),HX.out.below⟩
  go_wp2_with fail
  go_ret
  exact ⟨ret_bool (by rw [HD.out];simp only [Bool.true_and,Bool.and_true];exact Sy.len_eq l 0),HX.out.below⟩
theorem x_5 {m : Nat} (n : Int) (nm t : List UInt8) (l : List N) (w : World) (S : Nat -> Prop) (A : Option Addr) (c : Nat) (hm : ∀ v ∈ l,v.size < m) (hv : NA w S (.agg #[.int .i64 5,.string ⟨nm.toArray⟩,.int .i64 n,.string ⟨t.toArray⟩,.slice A l.length c]) (.mk 5 nm n t l)) (hs : Sl w S (.slice A l.length c) l) :
  Calls Tryz.prog 74 #[.agg #[.int .i64 5,.string ⟨nm.toArray⟩,.int .i64 n,.string ⟨t.toArray⟩,.slice A l.length c]] w fun e w' => e = .returned (.bool (Sy.rX (.mk 5 nm n t l))) /\ Below w.heap.size w w':=by
 have hl:=hs.1
 have HS:=hid hs
 have CBR:=hid (fun W (hW : Below w.heap.size w W) => bare_any (.mk 5 nm n t l) false true _ W S (hv.below hW))
 have HD : Hid (Sy.rX (.mk 5 nm n t l) = (Sy.bareN (.mk 5 nm n t l) false true && l.length == 0)):=by
  show _ = _
  rw [Sy.rX];simp
 generalize Sy.rX (.mk 5 nm n t l) = dd at HD |-
 generalize Sy.bareN (.mk 5 nm n t l) false true = bb at HD CBR
 have HX:=hid (Bx.refl (w:=w) (cs:=#[.int .i64 5,.string ⟨nm.toArray⟩,.int .i64 n,.string ⟨t.toArray⟩,.slice A l.length c]))
 clear hv hs hm
 go_enter Tryz.func74,Tryz.ntmps74
 go_wp2_with fail
 refine (CBR.out _ HX.out.below).mono ?_
 rintro e w1 ⟨rfl,hb1⟩
 replace HX:=hid (HX.out.step hb1)
 clear hb1
 obtain ⟨x0,x1,x2,x3,x4⟩:=bx_all HX.out
 cases bb
 ·
  go_wp2_with fail
  go_ret
  exact ⟨ret_bool (by rw [HD.out];simp),HX.out.below⟩
 go_wp2_with fail
 go_ret
 exact ⟨ret_bool (by rw [HD.out];simp only [Bool.true_and,Bool.and_true];exact Sy.len_eq l 0),HX.out.below⟩
theorem x_6 {m : Nat} (n : Int) (nm t : List UInt8) (l : List N) (w : World) (S : Nat -> Prop) (A : Option Addr) (c : Nat) (hm : ∀ v ∈ l,v.size < m) (hv : NA w S (.agg #[.int .i64 6,.string ⟨nm.toArray⟩,.int .i64 n,.string ⟨t.toArray⟩,.slice A l.length c]) (.mk 6 nm n t l)) (hs : Sl w S (.slice A l.length c) l) :
  Calls Tryz.prog 74 #[.agg #[.int .i64 6,.string ⟨nm.toArray⟩,.int .i64 n,.string ⟨t.toArray⟩,.slice A l.length c]] w fun e w' => e = .returned (.bool (Sy.rX (.mk 6 nm n t l))) /\ Below w.heap.size w w':=by
 have hl:=hs.1
 have HS:=hid hs
 have CBR:=hid (fun W (hW : Below w.heap.size w W) => bare_any (.mk 6 nm n t l) true false _ W S (hv.below hW))
 have HD : Hid (Sy.rX (.mk 6 nm n t l) = (Sy.bareN (.mk 6 nm n t l) true false && l.length == 0)):=by
  show _ = _
  rw [Sy.rX];simp
 generalize Sy.rX (.mk 6 nm n t l) = dd at HD |-
 generalize Sy.bareN (.mk 6 nm n t l) true false = bb at HD CBR
 have HX:=hid (Bx.refl (w:=w) (cs:=#[.int .i64 6,.string ⟨nm.toArray⟩,.int .i64 n,.string ⟨t.toArray⟩,.slice A l.length c]))
 clear hv hs hm
 go_enter Tryz.func74,Tryz.ntmps74
 go_wp2_with fail
 refine (CBR.out _ HX.out.below).mono ?_
 rintro e w1 ⟨rfl,hb1⟩
 replace HX:=hid (HX.out.step hb1)
 clear hb1
 obtain ⟨x0,x1,x2,x3,x4⟩:=bx_all HX.out
 cases bb
 ·
  go_wp2_with fail
  go_ret
  exact ⟨ret_bool (by rw [HD.out];simp),HX.out.below⟩
 go_wp2_with fail
 go_ret
 exact ⟨ret_bool (by rw [HD.out];simp only [Bool.true_and,Bool.and_true];exact Sy.len_eq l 0),HX.out.below⟩
theorem x_7 {m : Nat} (CX : RL m 123 Sy.rXs) (n : Int) (nm t : List UInt8) (l : List N) (w : World) (S : Nat -> Prop) (A : Option Addr) (c : Nat) (hm : ∀ v ∈ l,v.size < m) (hv : NA w S (.agg #[.int .i64 7,.string ⟨nm.toArray⟩,.int .i64 n,.string ⟨t.toArray⟩,.slice A l.length c]) (.mk 7 nm n t l)) (hs : Sl w S (.slice A l.length c) l) :
  Calls Tryz.prog 74 #[.agg #[.int .i64 7,.string ⟨nm.toArray⟩,.int .i64 n,.string ⟨t.toArray⟩,.slice A l.length c]] w fun e w' => e = .returned (.bool (Sy.rX (.mk 7 nm n t l))) /\ Below w.heap.size w w':=by
 have hl:=hs.1
 have HS:=hid hs
 have CBR:=hid (fun W (hW : Below w.heap.size w W) => bare_any (.mk 7 nm n t l) false false _ W S (hv.below hW))
 have CEX:=hid (fun W (hW : Below w.heap.size w W) => CX l hm _ W S (hs.below hW))
 have HD : Hid (Sy.rX (.mk 7 nm n t l) = (Sy.bareN (.mk 7 nm n t l) false false && Sy.rXs l)):=by
  show _ = _
  rw [Sy.rX];simp
 generalize Sy.rX (.mk 7 nm n t l) = dd at HD |-
 generalize Sy.bareN (.mk 7 nm n t l) false false = bb at HD CBR
 generalize Sy.rXs l = xx at HD CEX
 have HX:=hid (Bx.refl (w:=w) (cs:=#[.int .i64 7,.string ⟨nm.toArray⟩,.int .i64 n,.string ⟨t.toArray⟩,.slice A l.length c]))
 clear hv hs hm
 go_enter Tryz.func74,Tryz.ntmps74
 go_wp2_with fail
 refine (CBR.out _ HX.out.below).mono ?_
 rintro e w1 ⟨rfl,hb1⟩
 replace HX:=hid (HX.out.step hb1)
 clear hb1
 obtain ⟨x0,x1,x2,x3,x4⟩:=bx_all HX.out
 cases bb
 ·
  go_wp2_with fail
  go_ret
  exact ⟨ret_bool (by rw [HD.out];simp),HX.out.below⟩
 go_wp2_with fail
 refine (CEX.out _ HX.out.below).mono ?_
 rintro e w1 ⟨rfl,hb1⟩
 replace HX:=hid (HX.out.step hb1)
 clear hb1
 obtain ⟨x0,x1,x2,x3,x4⟩:=bx_all HX.out
 go_wp2_with fail
 go_ret
 exact ⟨ret_bool (by rw [HD.out];simp),HX.out.below⟩
theorem x_g2 {m : Nat} (CX : RL m 123 Sy.rXs) (op : Int) (hop : op = 10 \/ op = 11) (n : Int) (nm t : List UInt8) (l : List N) (w : World) (S : Nat -> Prop) (A : Option Addr) (c : Nat) (hm : ∀ v ∈ l,v.size < m) (hv : NA w S (.agg #[.int .i64 op,.string ⟨nm.toArray⟩,.int .i64 n,.string ⟨t.toArray⟩,.slice A l.length c]) (.mk op nm n t l)) (hs : Sl w S (.slice A l.length c) l) :
  Calls Tryz.prog 74 #[.agg #[.int .i64 op,.string ⟨nm.toArray⟩,.int .i64 n,.string ⟨t.toArray⟩,.slice A l.length c]] w fun e w' => e = .returned (.bool (Sy.rX (.mk op nm n t l))) /\ Below w.heap.size w w':=by
 have hl:=hs.1
 have HS:=hid hs
 have CBR:=hid (fun W (hW : Below w.heap.size w W) => bare_any (.mk op nm n t l) true false _ W S (hv.below hW))
 have CEX:=hid (fun W (hW : Below w.heap.size w W) => CX l hm _ W S (hs.below hW))
 have HD : Hid (Sy.rX (.mk op nm n t l) = (Sy.bareN (.mk op nm n t l) true false && Sy.rXs l)):=by
  show _ = _
  rcases hop with rfl | rfl <;> (rw [Sy.rX];simp)
 generalize Sy.rX (.mk op nm n t l) = dd at HD |-
 generalize Sy.bareN (.mk op nm n t l) true false = bb at HD CBR
 generalize Sy.rXs l = xx at HD CEX
 have HX:=hid (Bx.refl (w:=w) (cs:=#[.int .i64 op,.string ⟨nm.toArray⟩,.int .i64 n,.string ⟨t.toArray⟩,.slice A l.length c]))
 clear hv hs hm
 rcases hop with rfl | rfl
 all_goals
  go_enter Tryz.func74,Tryz.ntmps74
  go_wp2_with fail
  refine (CBR.out _ HX.out.below).mono ?_
  rintro e w1 ⟨rfl,hb1⟩
  replace HX:=hid (HX.out.step hb1)
  clear hb1
  obtain ⟨x0,x1,x2,x3,x4⟩:=bx_all HX.out
  cases bb
  ·
   go_wp2_with fail
   go_ret
   exact ⟨ret_bool (by rw [HD.out];simp),HX.out.below⟩
  go_wp2_with fail
  refine (CEX.out _ HX.out.below).mono ?_
  rintro e w1 ⟨rfl,hb1⟩
  replace HX:=hid (HX.out.step hb1)
  clear hb1
  obtain ⟨x0,x1,x2,x3,x4⟩:=bx_all HX.out
  go_wp2_with fail
  go_ret
  exact ⟨ret_bool (by rw [HD.out];simp),HX.out.below⟩
theorem x_g3 {m : Nat} (CX : RL m 123 Sy.rXs) (op : Int) (hop : op = 12 \/ op = 13 \/ op = 14) (n : Int) (nm t : List UInt8) (l : List N) (w : World) (S : Nat -> Prop) (A : Option Addr) (c : Nat) (hm : ∀ v ∈ l,v.size < m) (hv : NA w S (.agg #[.int .i64 op,.string ⟨nm.toArray⟩,.int .i64 n,.string ⟨t.toArray⟩,.slice A l.length c]) (.mk op nm n t l)) (hs : Sl w S (.slice A l.length c) l) :
  Calls Tryz.prog 74 #[.agg #[.int .i64 op,.string ⟨nm.toArray⟩,.int .i64 n,.string ⟨t.toArray⟩,.slice A l.length c]] w fun e w' => e = .returned (.bool (Sy.rX (.mk op nm n t l))) /\ Below w.heap.size w w':=by
 have hl:=hs.1
 have HS:=hid hs
 have CBR:=hid (fun W (hW : Below w.heap.size w W) => bare_any (.mk op nm n t l) false false _ W S (hv.below hW))
 have CEX:=hid (fun W (hW : Below w.heap.size w W) => CX l hm _ W S (hs.below hW))
 have HD : Hid (Sy.rX (.mk op nm n t l) = (Sy.bareN (.mk op nm n t l) false false && l.length == 1 && Sy.rXs l)):=by
  show _ = _
  rcases hop with rfl | rfl | rfl <;> (rw [Sy.rX];simp)
 generalize Sy.rX (.mk op nm n t l) = dd at HD |-
 generalize Sy.bareN (.mk op nm n t l) false false = bb at HD CBR
 generalize Sy.rXs l = xx at HD CEX
 have HX:=hid (Bx.refl (w:=w) (cs:=#[.int .i64 op,.string ⟨nm.toArray⟩,.int .i64 n,.string ⟨t.toArray⟩,.slice A l.length c]))
 clear hv hs hm
 rcases hop with rfl | rfl | rfl
 all_goals
  go_enter Tryz.func74,Tryz.ntmps74
  go_wp2_with fail
  refine (CBR.out _ HX.out.below).mono ?_
  rintro e w1 ⟨rfl,hb1⟩
  replace HX:=hid (HX.out.step hb1)
  clear hb1
  obtain ⟨x0,x1,x2,x3,x4⟩:=bx_all HX.out
  cases bb
  ·
   go_wp2_with fail
   go_ret
   exact ⟨ret_bool (by rw [HD.out];simp),HX.out.below⟩
  by_cases hk1 : l.length = 1
  rotate_left
  ·
   have hj1 : ((l.length : Int) == 1) = false:=by simp;omega
   have HK1:=hid hk1
   clear hk1
   go_wp2_with fail
   go_ret
   exact ⟨ret_bool (by rw [HD.out];simp [HK1.out]),HX.out.below⟩
  have hj1 : ((l.length : Int) == 1) = true:=by simp;omega
  have HK1:=hid hk1
  clear hk1
  go_wp2_with fail
  refine (CEX.out _ HX.out.below).mono ?_
  rintro e w1 ⟨rfl,hb1⟩
  replace HX:=hid (HX.out.step hb1)
  clear hb1
  obtain ⟨x0,x1,x2,x3,x4⟩:=bx_all HX.out
  go_wp2_with fail
  go_ret
  exact ⟨ret_bool (by rw [HD.out];simp [HK1.out]),HX.out.below⟩
theorem x_29 {m : Nat} (CX : RL m 123 Sy.rXs) (n : Int) (nm t : List UInt8) (l : List N) (w : World) (S : Nat -> Prop) (A : Option Addr) (c : Nat) (hm : ∀ v ∈ l,v.size < m) (hv : NA w S (.agg #[.int .i64 29,.string ⟨nm.toArray⟩,.int .i64 n,.string ⟨t.toArray⟩,.slice A l.length c]) (.mk 29 nm n t l)) (hs : Sl w S (.slice A l.length c) l) :
  Calls Tryz.prog 74 #[.agg #[.int .i64 29,.string ⟨nm.toArray⟩,.int .i64 n,.string ⟨t.toArray⟩,.slice A l.length c]] w fun e w' => e = .returned (.bool (Sy.rX (.mk 29 nm n t l))) /\ Below w.heap.size w w':=by
 have hl:=hs.1
 have HS:=hid hs
 have CBR:=hid (fun W (hW : Below w.heap.size w W) => bare_any (.mk 29 nm n t l) true false _ W S (hv.below hW))
 have CEX:=hid (fun W (hW : Below w.heap.size w W) => CX l hm _ W S (hs.below hW))
 have HD : Hid (Sy.rX (.mk 29 nm n t l) = (Sy.bareN (.mk 29 nm n t l) true false && l.length == 1 && Sy.rXs l)):=by
  show _ = _
  rw [Sy.rX];simp
 generalize Sy.rX (.mk 29 nm n t l) = dd at HD |-
 generalize Sy.bareN (.mk 29 nm n t l) true false = bb at HD CBR
 generalize Sy.rXs l = xx at HD CEX
 have HX:=hid (Bx.refl (w:=w) (cs:=#[.int .i64 29,.string ⟨nm.toArray⟩,.int .i64 n,.string ⟨t.toArray⟩,.slice A l.length c]))
 clear hv hs hm
 go_enter Tryz.func74,Tryz.ntmps74
 go_wp2_with fail
 refine (CBR.out _ HX.out.below).mono ?_
 rintro e w1 ⟨rfl,hb1⟩
 replace HX:=hid (HX.out.step hb1)
 clear hb1
 obtain ⟨x0,x1,x2,x3,x4⟩:=bx_all HX.out
 cases bb
 ·
  go_wp2_with fail
  go_ret
  exact ⟨ret_bool (by rw [HD.out];simp),HX.out.below⟩
 by_cases hk1 : l.length = 1
 rotate_left
 ·
  have hj1 : ((l.length : Int) == 1) = false:=by simp;omega
  have HK1:=hid hk1
  clear hk1
  go_wp2_with fail
  go_ret
  exact ⟨ret_bool (by rw [HD.out];simp [HK1.out]),HX.out.below⟩
 have hj1 : ((l.length : Int) == 1) = true:=by simp;omega
 have HK1:=hid hk1
 clear hk1
 go_wp2_with fail
 refine (CEX.out _ HX.out.below).mono ?_
 rintro e w1 ⟨rfl,hb1⟩
 replace HX:=hid (HX.out.step hb1)
 clear hb1
 obtain ⟨x0,x1,x2,x3,x4⟩:=bx_all HX.out
 go_wp2_with fail
 go_ret
 exact ⟨ret_bool (by rw [HD.out];simp [HK1.out]),HX.out.below⟩
theorem x_two {m : Nat} (CX : RL m 123 Sy.rXs) (op n : Int) (nm t : List UInt8) (l : List N) (w : World) (S : Nat -> Prop) (A : Option Addr) (c : Nat) (hm : ∀ v ∈ l,v.size < m) (hv : NA w S (.agg #[.int .i64 op,.string ⟨nm.toArray⟩,.int .i64 n,.string ⟨t.toArray⟩,.slice A l.length c]) (.mk op nm n t l)) (hs : Sl w S (.slice A l.length c) l) (e1 : (op == 1) = false) (e2 : (op == 2) = false) (e3 : (op == 3) = false) (e4 : (op == 4) = false) (e5 : (op == 5) = false) (e6 : (op == 6) = false) (e7 : (op == 7) = false) (e8 : (op == 8) = false) (e10 : (op == 10) = false) (e11 : (op == 11) = false) (e12 : (op == 12) = false) (e13 : (op == 13) = false) (e14 : (op == 14) = false) (e29 : (op == 29) = false) (g1 : 15 <= op) (g2 : op <= 28) :
  Calls Tryz.prog 74 #[.agg #[.int .i64 op,.string ⟨nm.toArray⟩,.int .i64 n,.string ⟨t.toArray⟩,.slice A l.length c]] w fun e w' => e = .returned (.bool (Sy.rX (.mk op nm n t l))) /\ Below w.heap.size w w':=by
 have hl:=hs.1
 have HS:=hid hs
 have CBR:=hid (fun W (hW : Below w.heap.size w W) => bare_any (.mk op nm n t l) false false _ W S (hv.below hW))
 have CEX:=hid (fun W (hW : Below w.heap.size w W) => CX l hm _ W S (hs.below hW))
 have HD : Hid (Sy.rX (.mk op nm n t l) = (Sy.bareN (.mk op nm n t l) false false && l.length == 2 && Sy.rXs l)):=by
  show _ = _
  have f : ∀ k : Int,(op == k) = false -> ¬ op = k:=fun k h => by simpa using h
  rw [Sy.rX,if_neg (fun h => h.elim (f 1 e1) (fun h => h.elim (f 2 e2) (f 3 e3))),if_neg (f 4 e4),if_neg (f 5 e5),if_neg (f 6 e6),if_neg (f 7 e7),if_neg (f 8 e8),if_neg (fun h => h.elim (f 10 e10) (f 11 e11)),if_neg (fun h => h.elim (f 12 e12) (fun h => h.elim (f 13 e13) (f 14 e14))),if_neg (f 29 e29)]
  rw [show decide (15 <= op) = true by simp [g1],show decide (op <= 28) = true by simp [g2]];rfl
 generalize Sy.rX (.mk op nm n t l) = dd at HD |-
 generalize Sy.bareN (.mk op nm n t l) false false = bb at HD CBR
 generalize Sy.rXs l = xx at HD CEX
 have HX:=hid (Bx.refl (w:=w) (cs:=#[.int .i64 op,.string ⟨nm.toArray⟩,.int .i64 n,.string ⟨t.toArray⟩,.slice A l.length c]))
 clear hv hs hm
 go_enter Tryz.func74,Tryz.ntmps74
 go_wp2_with fail
 refine (CBR.out _ HX.out.below).mono ?_
 rintro e w1 ⟨rfl,hb1⟩
 replace HX:=hid (HX.out.step hb1)
 clear hb1
 obtain ⟨x0,x1,x2,x3,x4⟩:=bx_all HX.out
 cases bb
 ·
  go_wp2_with fail
  go_ret
  exact ⟨ret_bool (by rw [HD.out];simp),HX.out.below⟩
 by_cases hk1 : l.length = 2
 rotate_left
 ·
  have hj1 : ((l.length : Int) == 2) = false:=by simp;omega
  have HK1:=hid hk1
  clear hk1
  go_wp2_with fail
  go_ret
  exact ⟨ret_bool (by rw [HD.out];simp [HK1.out]),HX.out.below⟩
 have hj1 : ((l.length : Int) == 2) = true:=by simp;omega
 have HK1:=hid hk1
 clear hk1
 go_wp2_with fail
 refine (CEX.out _ HX.out.below).mono ?_
 rintro e w1 ⟨rfl,hb1⟩
 replace HX:=hid (HX.out.step hb1)
 clear hb1
 obtain ⟨x0,x1,x2,x3,x4⟩:=bx_all HX.out
 go_wp2_with fail
 go_ret
 exact ⟨ret_bool (by rw [HD.out];simp [HK1.out]),HX.out.below⟩
theorem x_4 {m : Nat} (n : Int) (nm t : List UInt8) (l : List N) (w : World) (S : Nat -> Prop) (A : Option Addr) (c : Nat) (hm : ∀ v ∈ l,v.size < m) (hv : NA w S (.agg #[.int .i64 4,.string ⟨nm.toArray⟩,.int .i64 n,.string ⟨t.toArray⟩,.slice A l.length c]) (.mk 4 nm n t l)) (hs : Sl w S (.slice A l.length c) l) :
  Calls Tryz.prog 74 #[.agg #[.int .i64 4,.string ⟨nm.toArray⟩,.int .i64 n,.string ⟨t.toArray⟩,.slice A l.length c]] w fun e w' => e = .returned (.bool (Sy.rX (.mk 4 nm n t l))) /\ Below w.heap.size w w':=by
 have hl:=hs.1
 have HD : Hid (Sy.rX (.mk 4 nm n t l) = (nm == [] && t == [] && decide (0 <= n) && l.length == 0)):=by
  show _ = _
  rw [Sy.rX];simp
 generalize Sy.rX (.mk 4 nm n t l) = dd at HD |-
 have HL : Hid (∀ b : Bool,((l.length : Int) == 0) = b -> (l.length == 0) = b):=fun b hb => by rw [<- hb];exact (Sy.len_eq l 0).symm
 clear hv hs hm
 cases h1 : (nm == [])
 ·
  go_enter Tryz.func74,Tryz.ntmps74
  go_wp2_with fail
  go_ret
  exact ⟨ret_bool (by rw [HD.out,h1];rfl),bl _⟩
 cases h2 : (t == [])
 ·
  go_enter Tryz.func74,Tryz.ntmps74
  go_wp2_with fail
  go_ret
  exact ⟨ret_bool (by rw [HD.out,h1,h2];rfl),bl _⟩
 by_cases h3 : 0 <= n
 ·
  go_enter Tryz.func74,Tryz.ntmps74
  go_wp2_with fail
  go_ret
  exact ⟨ret_bool (by rw [HD.out,h1,h2];simp only [h3,decide_true,Bool.true_and];exact Sy.len_eq l 0),bl _⟩
 ·
  go_enter Tryz.func74,Tryz.ntmps74
  go_wp2_with fail
  go_ret
  exact ⟨ret_bool (by rw [HD.out,h1,h2,show decide (0 <= n) = false from decide_eq_false (by omega)];rfl),bl _⟩
theorem x_no {m : Nat} (op n : Int) (nm t : List UInt8) (l : List N) (w : World) (S : Nat -> Prop) (A : Option Addr) (c : Nat) (hm : ∀ v ∈ l,v.size < m) (hv : NA w S (.agg #[.int .i64 op,.string ⟨nm.toArray⟩,.int .i64 n,.string ⟨t.toArray⟩,.slice A l.length c]) (.mk op nm n t l)) (hs : Sl w S (.slice A l.length c) l) (e1 : (op == 1) = false) (e2 : (op == 2) = false) (e3 : (op == 3) = false) (e4 : (op == 4) = false) (e5 : (op == 5) = false) (e6 : (op == 6) = false) (e7 : (op == 7) = false) (e8 : (op == 8) = false) (e10 : (op == 10) = false) (e11 : (op == 11) = false) (e12 : (op == 12) = false) (e13 : (op == 13) = false) (e14 : (op == 14) = false) (e29 : (op == 29) = false) (g : op < 15 \/ 28 < op) :
  Calls Tryz.prog 74 #[.agg #[.int .i64 op,.string ⟨nm.toArray⟩,.int .i64 n,.string ⟨t.toArray⟩,.slice A l.length c]] w fun e w' => e = .returned (.bool (Sy.rX (.mk op nm n t l))) /\ Below w.heap.size w w':=by
 have hl:=hs.1
 have hf : Sy.rX (.mk op nm n t l) = false:=by
  have f : ∀ k : Int,(op == k) = false -> ¬ op = k:=fun k h => by simpa using h
  rw [Sy.rX,if_neg (fun h => h.elim (f 1 e1) (fun h => h.elim (f 2 e2) (f 3 e3))),if_neg (f 4 e4),if_neg (f 5 e5),if_neg (f 6 e6),if_neg (f 7 e7),if_neg (f 8 e8),if_neg (fun h => h.elim (f 10 e10) (f 11 e11)),if_neg (fun h => h.elim (f 12 e12) (fun h => h.elim (f 13 e13) (f 14 e14))),if_neg (f 29 e29)]
  have : (decide (15 <= op) && decide (op <= 28)) = false:=by
   rw [Bool.and_eq_false_iff,decide_eq_false_iff_not,decide_eq_false_iff_not];omega
  rw [this];rfl
 rw [hf]
 clear hf hv hs hm
 by_cases g1 : 15 <= op
 ·
  have g2 : ¬ op <= 28:=by omega
  go_enter Tryz.func74,Tryz.ntmps74
  go_wp2_with fail
  go_ret
  exact ⟨rfl,bl _⟩
 ·
  go_enter Tryz.func74,Tryz.ntmps74
  go_wp2_with fail
  go_ret
  exact ⟨rfl,bl _⟩
namespace Sy
def pP (v : N) : Bool:=v.op == 9 && bareN v false true && v.l.length == 1 && rXs v.l
theorem rPs_all : ∀ l : List N,rPs l = l.all pP
 | [] => by rw [rPs];rfl
 | .mk op nm n t k :: l => by rw [rPs,rPs_all l];rfl
end Sy
theorem x_8 {m : Nat} (CX : RL m 123 Sy.rXs) (n : Int) (nm t : List UInt8) (l : List N) (w : World) (S : Nat -> Prop) (A : Option Addr) (c : Nat) (hm : ∀ v ∈ l,v.size < m) (hv : NA w S (.agg #[.int .i64 8,.string ⟨nm.toArray⟩,.int .i64 n,.string ⟨t.toArray⟩,.slice A l.length c]) (.mk 8 nm n t l)) (hs : Sl w S (.slice A l.length c) l) :
  Calls Tryz.prog 74 #[.agg #[.int .i64 8,.string ⟨nm.toArray⟩,.int .i64 n,.string ⟨t.toArray⟩,.slice A l.length c]] w fun e w' => e = .returned (.bool (Sy.rX (.mk 8 nm n t l))) /\ Below w.heap.size w w':=by
 have hl:=hs.1
 have HS:=hid hs
 have HD : Hid (Sy.rX (.mk 8 nm n t l) = (l.all Sy.pP && Sy.bareN (.mk 8 nm n t l) false false)):=by
  show _ = _
  rw [Sy.rX,<- Sy.rPs_all];simp
 generalize Sy.rX (.mk 8 nm n t l) = dd at HD |-
 have CBR:=hid (fun W (hW : Below w.heap.size w W) => bare_any (.mk 8 nm n t l) false false _ W S (hv.below hW))
 generalize Sy.bareN (.mk 8 nm n t l) false false = bb at HD CBR
 have HMM : Hid (∀ (i : Nat) (hi : i < l.length),∀ u ∈ l[i].l,u.size < m):=fun i hi u hu => by
  have h1:=hm _ (List.getElem_mem hi)
  have h2:=Sy.N.size_mem hu
  rw [Sy.N.size_l] at h1;omega
 have CXX:=hid CX
 clear hv hs hm CX
 go_enter Tryz.func74,Tryz.ntmps74
 go_wp2_with fail
 go_loopw [4] (fun v4 wr => ∃ i : Nat,i <= l.length /\ v4 = .int .i64 (i : Int) /\ Hid ((l.take i).all Sy.pP = true) /\ Bx w #[.int .i64 8,.string ⟨nm.toArray⟩,.int .i64 n,.string ⟨t.toArray⟩,.slice A l.length c] wr) (fun v4 _ => l.length - (intOf v4).toNat)
 case atStart => exact ⟨0,Nat.zero_le _,rfl,rfl,Bx.refl⟩
 case round =>
  obtain ⟨i,hi,rfl,HA,hbx⟩:=hrel
  have HX:=hid hbx
  obtain ⟨x0,x1,x2,x3,x4⟩:=bx_all hbx
  clear hbx
  by_cases hlt : i < l.length
  ·
   obtain ⟨b,o,cc,A1,c1,he,q0,q1,q2,q3,q4,hva⟩:=(HS.out.below HX.out.below).kids i hlt
   injection he with he1 he2 he3
   subst he1
   clear he2 he3
   have hjl : (i : Int) < (l.length : Int):=by omega
   have CB:=hid (fun W (hW : Below wr.heap.size wr W) => bare_any l[i] false true _ W S (hva.below hW))
   obtain ⟨A2,c2,heq,ho2,hk2⟩:=hva.open_
   have CE:=hid (fun W (hW : Below wr.heap.size wr W) => CXX.out l[i].l (HMM.out i hlt) _ W S (Sl.below ⟨by have:=ho2.2.2.2.2.2.2;exact this,hk2⟩ hW))
   have he4 : (Value.slice A1 l[i].l.length c1) = .slice A2 l[i].l.length c2:=by
    injection heq with heq
    have:=congrArg (fun x : Array Value => x[4]?) heq
    simpa using this
   rw [<- he4] at CE
   have hl2:=ho2.2.2.2.2.2.2
   clear hva heq ho2 hk2 he4
   have HP : Hid (Sy.pP l[i] = (l[i].op == 9 && Sy.bareN l[i] false true && l[i].l.length == 1 && Sy.rXs l[i].l)):=rfl
   have HY:=hid (all_take (p:=Sy.pP) HA.out hlt)
   have HZ : Hid (Sy.pP l[i] = false -> dd = false):=fun h => by rw [HD.out,all_no hlt h];rfl
   generalize Sy.pP l[i] = pp at HP HY HZ
   generalize Sy.bareN l[i] false true = b2 at HP CB
   generalize Sy.rXs l[i].l = xx at HP CE
   generalize l[i].op = kop at *
   generalize l[i].nm = knm at *
   generalize l[i].n = kn at *
   generalize l[i].t = kt at *
   generalize l[i].l = kl at *
   have HQ:=hid (Bx.refl (w:=wr) (cs:=#[.int .i64 kop,.string ⟨knm.toArray⟩,.int .i64 kn,.string ⟨kt.toArray⟩,.slice A1 kl.length c1]))
   cases h9 : (kop == 9)
   ·
    have hn9 : ¬ kop = 9:=by simpa using h9
    replace HP : Hid (pp = false):=by show _ = _;rw [HP.out,h9];rfl
    replace HZ:=hid (HZ.out HP.out)
    have hne : (kop != 9) = true:=by simp [hn9]
    clear h9 hn9
    go_wp2_with fail
    go_ret
    exact ⟨ret_bool HZ.out.symm,bstep HX.out.below HQ.out.below⟩
   have hn9 : kop = 9:=by simpa using h9
   have hne : (kop != 9) = false:=by simp [hn9]
   clear hn9
   go_wp2_with fail
   refine (CB.out _ HQ.out.below).mono ?_
   rintro e w1 ⟨rfl,hb1⟩
   replace HQ:=hid (HQ.out.step hb1)
   clear hb1
   obtain ⟨y0,y1,y2,y3,y4⟩:=bx_all HQ.out
   cases b2
   ·
    replace HZ:=hid (HZ.out (by rw [HP.out];simp))
    go_wp2_with fail
    go_ret
    exact ⟨ret_bool HZ.out.symm,bstep HX.out.below HQ.out.below⟩
   cases hk1 : (kl.length == 1)
   ·
    have hj : ((kl.length : Int) != 1) = true:=by simp at hk1 |-;omega
    replace HZ:=hid (HZ.out (by rw [HP.out,hk1];simp))
    clear hk1
    go_wp2_with fail
    go_ret
    exact ⟨ret_bool HZ.out.symm,bstep HX.out.below HQ.out.below⟩
   have hj : ((kl.length : Int) != 1) = false:=by simp at hk1 |-;omega
   replace HP : Hid (pp = xx):=by show _ = _;rw [HP.out,h9,hk1];rfl
   clear hk1 h9
   go_wp2_with fail
   refine (CE.out _ HQ.out.below).mono ?_
   rintro e w2 ⟨rfl,hb2⟩
   replace HQ:=hid (HQ.out.step hb2)
   clear hb2
   cases xx
   ·
    replace HZ:=hid (HZ.out HP.out)
    go_wp2_with fail
    go_ret
    exact ⟨ret_bool HZ.out.symm,bstep HX.out.below HQ.out.below⟩
   ·
    replace HY:=hid (HY.out HP.out)
    have HXB:=hid (HX.out.step HQ.out.below)
    go_wp2_with fail
    go_roundw
    case rel => exact ⟨i + 1,by omega,by go_num,HY.out,HXB.out⟩
    case measure => simp [intOf];omega
  ·
   have h2 : l.take i = l:=List.take_of_length_le (by omega)
   rw [h2] at HA
   go_wp2_with fail
   refine (CBR.out _ HX.out.below).mono ?_
   rintro e w1 ⟨rfl,hb1⟩
   replace HX:=hid (HX.out.step hb1)
   clear hb1
   go_wp2_with fail
   go_ret
   exact ⟨ret_bool (by rw [HD.out,HA.out];rfl),HX.out.below⟩
end Go.Proofs.YtgeppafcemeidaaGreatDoor
namespace Go.Proofs.YtgeppafcemeidaaGreatDoor
open Go.RowKit
open Sy (N)
open Tk (T)
theorem isExpr_any {m : Nat} (CX : RL m 123 Sy.rXs) : RX (m + 1) 74 Sy.rX:=by
 intro v hsz a w S hv
 obtain ⟨op,nm,n,t,l⟩:=v
 obtain ⟨A,c,xs,rfl,ho,hl,hr,hvs⟩:=hv.open2
 have hm : ∀ v ∈ l,v.size < m:=Sy.kids_lt hsz
 have hs : Sl w S (.slice A l.length c) l:=Sl.of ho hr hvs
 by_cases hg1 : op = 1 \/ op = 2 \/ op = 3
 ·
  exact x_g1 op hg1 n nm t l w S A c hm hv hs
 by_cases h4 : op = 4
 ·
  subst h4;exact x_4 n nm t l w S A c hm hv hs
 by_cases h5 : op = 5
 ·
  subst h5;exact x_5 n nm t l w S A c hm hv hs
 by_cases h6 : op = 6
 ·
  subst h6;exact x_6 n nm t l w S A c hm hv hs
 by_cases h7 : op = 7
 ·
  subst h7;exact x_7 CX n nm t l w S A c hm hv hs
 by_cases h8 : op = 8
 ·
  subst h8;exact x_8 CX n nm t l w S A c hm hv hs
 by_cases hg2 : op = 10 \/ op = 11
 ·
  exact x_g2 CX op hg2 n nm t l w S A c hm hv hs
 by_cases hg3 : op = 12 \/ op = 13 \/ op = 14
 ·
  exact x_g3 CX op hg3 n nm t l w S A c hm hv hs
 by_cases h29 : op = 29
 ·
  subst h29;exact x_29 CX n nm t l w S A c hm hv hs
 have e : ∀ k : Int,¬ op = k -> (op == k) = false:=fun k h => by simpa using h
 by_cases h0 : 15 <= op /\ op <= 28
 ·
  exact x_two CX op n nm t l w S A c hm hv hs (e 1 (by omega)) (e 2 (by omega)) (e 3 (by omega)) (e 4 (by omega)) (e 5 (by omega)) (e 6 (by omega)) (e 7 (by omega)) (e 8 (by omega)) (e 10 (by omega)) (e 11 (by omega)) (e 12 (by omega)) (e 13 (by omega)) (e 14 (by omega)) (e 29 (by omega)) h0.1 h0.2
 ·
  exact x_no op n nm t l w S A c hm hv hs (e 1 (by omega)) (e 2 (by omega)) (e 3 (by omega)) (e 4 (by omega)) (e 5 (by omega)) (e 6 (by omega)) (e 7 (by omega)) (e 8 (by omega)) (e 10 (by omega)) (e 11 (by omega)) (e 12 (by omega)) (e 13 (by omega)) (e 14 (by omega)) (e 29 (by omega)) (by omega)
theorem b_53 {m : Nat} (KS : RX m 158 Sy.rS) (n : Int) (nm t : List UInt8) (l : List N) (w : World) (S : Nat -> Prop) (A : Option Addr) (c : Nat) (hm : ∀ v ∈ l,v.size < m) (hv : NA w S (.agg #[.int .i64 53,.string ⟨nm.toArray⟩,.int .i64 n,.string ⟨t.toArray⟩,.slice A l.length c]) (.mk 53 nm n t l)) (hs : Sl w S (.slice A l.length c) l) :
  Calls Tryz.prog 115 #[.agg #[.int .i64 53,.string ⟨nm.toArray⟩,.int .i64 n,.string ⟨t.toArray⟩,.slice A l.length c]] w fun e w' => e = .returned (.bool (Sy.rB (.mk 53 nm n t l))) /\ Below w.heap.size w w':=by
 have hl:=hs.1
 have HS:=hid hs
 have HD : Hid (Sy.rB (.mk 53 nm n t l) = (Sy.bareN (.mk 53 nm n t l) false false && l.all Sy.rS)):=by
  show _ = _
  rw [Sy.rB,Sy.rSs_all];simp
 generalize Sy.rB (.mk 53 nm n t l) = dd at HD |-
 have CBR:=hid (fun W (hW : Below w.heap.size w W) => bare_any (.mk 53 nm n t l) false false _ W S (hv.below hW))
 generalize Sy.bareN (.mk 53 nm n t l) false false = bb at HD CBR
 have HC:=hid (fun (i : Nat) (hi : i < l.length) => KS l[i] (hm _ (List.getElem_mem hi)))
 have HX:=hid (Bx.refl (w:=w) (cs:=#[.int .i64 53,.string ⟨nm.toArray⟩,.int .i64 n,.string ⟨t.toArray⟩,.slice A l.length c]))
 clear hv hs hm KS
 go_enter Tryz.func115,Tryz.ntmps115
 go_wp2_with fail
 refine (CBR.out _ HX.out.below).mono ?_
 rintro e w1 ⟨rfl,hb1⟩
 replace HX:=hid (HX.out.step hb1)
 clear hb1
 obtain ⟨x0,x1,x2,x3,x4⟩:=bx_all HX.out
 cases bb
 ·
  go_wp2_with fail
  go_ret
  exact ⟨ret_bool (by rw [HD.out];simp),HX.out.below⟩
 replace HD : Hid (dd = l.all Sy.rS):=by show _ = _;rw [HD.out];rfl
 go_wp2_with fail
 go_loopw [3] (fun v3 wr => ∃ i : Nat,i <= l.length /\ v3 = .int .i64 (i : Int) /\ Hid ((l.take i).all Sy.rS = true) /\ Bx w #[.int .i64 53,.string ⟨nm.toArray⟩,.int .i64 n,.string ⟨t.toArray⟩,.slice A l.length c] wr) (fun v3 _ => l.length - (intOf v3).toNat)
 case atStart => exact ⟨0,Nat.zero_le _,rfl,rfl,HX.out⟩
 case round =>
  obtain ⟨i,hi,rfl,HA,hbx⟩:=hrel
  clear x0 x1 x2 x3 x4
  have HX:=hid hbx
  obtain ⟨x0,x1,x2,x3,x4⟩:=bx_all hbx
  clear hbx
  by_cases hlt : i < l.length
  ·
   obtain ⟨b,o,cc,A1,c1,he,q0,q1,q2,q3,q4,hva⟩:=(HS.out.below HX.out.below).kids i hlt
   injection he with he1 he2 he3
   subst he1
   clear he2 he3
   have hjl : (i : Int) < (l.length : Int):=by omega
   have CI:=hid (HC.out i hlt _ wr S hva)
   clear hva
   by_cases hp : Sy.rS l[i] = true
   ·
    have HN:=hid (all_take HA.out hlt hp)
    rw [hp] at CI
    clear hp
    go_wp2_with fail
    refine CI.out.mono ?_
    rintro e w2 ⟨rfl,hb2⟩
    have HXB:=hid (HX.out.step hb2)
    clear hb2
    go_wp2_with fail
    go_roundw
    case rel => exact ⟨i + 1,by omega,by go_num,HN.out,HXB.out⟩
    case measure => simp [intOf];omega
   ·
    have hp' : Sy.rS l[i] = false:=by simpa using hp
    rw [hp'] at CI
    have HN : Hid (dd = false):=HD.out.trans (all_no hlt hp')
    clear hp hp'
    go_wp2_with fail
    refine CI.out.mono ?_
    rintro e w2 ⟨rfl,hb2⟩
    go_wp2_with fail
    go_ret
    exact ⟨ret_bool HN.out.symm,bstep HX.out.below hb2⟩
  ·
   have h2 : l.take i = l:=List.take_of_length_le (by omega)
   rw [h2] at HA
   go_wp2_with fail
   go_ret
   exact ⟨ret_bool (by rw [HD.out,HA.out]),HX.out.below⟩
theorem isBlock_any {m : Nat} (KS : RX m 158 Sy.rS) : RX (m + 1) 115 Sy.rB:=by
 intro v hsz a w S hv
 obtain ⟨op,nm,n,t,l⟩:=v
 obtain ⟨A,c,xs,rfl,ho,hl,hr,hvs⟩:=hv.open2
 have hm : ∀ v ∈ l,v.size < m:=Sy.kids_lt hsz
 have hs : Sl w S (.slice A l.length c) l:=Sl.of ho hr hvs
 by_cases h : op = 53
 ·
  subst h;exact b_53 KS n nm t l w S A c hm hv hs
 have hne : (op != 53) = true:=by simp [h]
 have hf : Sy.rB (.mk op nm n t l) = false:=by rw [Sy.rB,show (op == 53) = false by simp [h]];rfl
 rw [hf]
 clear hf h hv hs hm ho hr hvs hsz
 go_enter Tryz.func115,Tryz.ntmps115
 go_wp2_with fail
 go_ret
 exact ⟨rfl,bl _⟩
end Go.Proofs.YtgeppafcemeidaaGreatDoor
namespace Go.Proofs.YtgeppafcemeidaaGreatDoor
open Go.RowKit
open Sy (N)
open Tk (T)
namespace Sy
theorem wh_at {l : List N} (h : l.length = 2) : rWh l = (rX (l[0]'(by omega)) && rB (l[1]'(by omega))):=by
 match l,h with
 | [a,b],_ => rw [rWh];rfl
theorem wh_no {l : List N} (h : l.length ≠ 2) : rWh l = false:=by
 match l,h with
 | [],_ => simp [rWh]
 | [a],_ => simp [rWh]
 | [a,b],h => simp at h
 | a :: b :: c :: l,_ => simp [rWh]
theorem el_at {l : List N} (h : l.length = 1) : rEl l = rB (l[0]'(by omega)):=by
 match l,h with
 | [a],_ => rw [rEl];rfl
theorem el_no {l : List N} (h : l.length ≠ 1) : rEl l = false:=by
 match l,h with
 | [],_ => simp [rEl]
 | [a],h => simp at h
 | a :: b :: l,_ => simp [rEl]
theorem if_two {l : List N} (h : l.length = 2) : rIf l = (rX (l[0]'(by omega)) && rB (l[1]'(by omega))):=by
 match l,h with
 | [a,b],_ => rw [rIf];rfl
theorem if_three {l : List N} (h : l.length = 3) : rIf l = (rX (l[0]'(by omega)) && rB (l[1]'(by omega)) && (rB (l[2]'(by omega)) || ((l[2]'(by omega)).op == 42 && rS (l[2]'(by omega))))):=by
 match l,h with
 | [a,b,c],_ => rw [rIf];rfl
theorem if_nil {l : List N} (h : l.length ≠ 2) (h' : l.length ≠ 3) : rIf l = false:=by
 match l,h,h' with
 | [],_,_ => simp [rIf]
 | [a],_,_ => simp [rIf]
 | [a,b],h,_ => simp at h
 | [a,b,c],_,h => simp at h
 | a :: b :: c :: d :: l,_,_ => simp [rIf]
end Sy
theorem s_g1 {m : Nat} (CX : RL m 123 Sy.rXs) (op : Int) (hop : op = 40 \/ op = 41) (n : Int) (nm t : List UInt8) (l : List N) (w : World) (S : Nat -> Prop) (A : Option Addr) (c : Nat) (hm : ∀ v ∈ l,v.size < m) (hv : NA w S (.agg #[.int .i64 op,.string ⟨nm.toArray⟩,.int .i64 n,.string ⟨t.toArray⟩,.slice A l.length c]) (.mk op nm n t l)) (hs : Sl w S (.slice A l.length c) l) :
  Calls Tryz.prog 158 #[.agg #[.int .i64 op,.string ⟨nm.toArray⟩,.int .i64 n,.string ⟨t.toArray⟩,.slice A l.length c]] w fun e w' => e = .returned (.bool (Sy.rS (.mk op nm n t l))) /\ Below w.heap.size w w':=by
 have hl:=hs.1
 have HS:=hid hs
 have CBR:=hid (fun W (hW : Below w.heap.size w W) => bare_any (.mk op nm n t l) true false _ W S (hv.below hW))
 have CEX:=hid (fun W (hW : Below w.heap.size w W) => CX l hm _ W S (hs.below hW))
 have HD : Hid (Sy.rS (.mk op nm n t l) = (Sy.bareN (.mk op nm n t l) true false && l.length == 1 && Sy.rXs l)):=by
  show _ = _
  rcases hop with rfl | rfl <;> (rw [Sy.rS];simp)
 generalize Sy.rS (.mk op nm n t l) = dd at HD |-
 generalize Sy.bareN (.mk op nm n t l) true false = bb at HD CBR
 generalize Sy.rXs l = xx at HD CEX
 have HX:=hid (Bx.refl (w:=w) (cs:=#[.int .i64 op,.string ⟨nm.toArray⟩,.int .i64 n,.string ⟨t.toArray⟩,.slice A l.length c]))
 clear hv hs hm
 rcases hop with rfl | rfl
 all_goals
  go_enter Tryz.func158,Tryz.ntmps158
  go_wp2_with fail
  refine (CBR.out _ HX.out.below).mono ?_
  rintro e w1 ⟨rfl,hb1⟩
  replace HX:=hid (HX.out.step hb1)
  clear hb1
  obtain ⟨x0,x1,x2,x3,x4⟩:=bx_all HX.out
  cases bb
  ·
   go_wp2_with fail
   go_ret
   exact ⟨ret_bool (by rw [HD.out];simp),HX.out.below⟩
  by_cases hk1 : l.length = 1
  rotate_left
  ·
   have hj1 : ((l.length : Int) == 1) = false:=by simp;omega
   have HK1:=hid hk1
   clear hk1
   go_wp2_with fail
   go_ret
   exact ⟨ret_bool (by rw [HD.out];simp [HK1.out]),HX.out.below⟩
  have hj1 : ((l.length : Int) == 1) = true:=by simp;omega
  have HK1:=hid hk1
  clear hk1
  go_wp2_with fail
  refine (CEX.out _ HX.out.below).mono ?_
  rintro e w1 ⟨rfl,hb1⟩
  replace HX:=hid (HX.out.step hb1)
  clear hb1
  obtain ⟨x0,x1,x2,x3,x4⟩:=bx_all HX.out
  go_wp2_with fail
  go_ret
  exact ⟨ret_bool (by rw [HD.out];simp [HK1.out]),HX.out.below⟩
theorem s_44 {m : Nat} (CX : RL m 123 Sy.rXs) (n : Int) (nm t : List UInt8) (l : List N) (w : World) (S : Nat -> Prop) (A : Option Addr) (c : Nat) (hm : ∀ v ∈ l,v.size < m) (hv : NA w S (.agg #[.int .i64 44,.string ⟨nm.toArray⟩,.int .i64 n,.string ⟨t.toArray⟩,.slice A l.length c]) (.mk 44 nm n t l)) (hs : Sl w S (.slice A l.length c) l) :
  Calls Tryz.prog 158 #[.agg #[.int .i64 44,.string ⟨nm.toArray⟩,.int .i64 n,.string ⟨t.toArray⟩,.slice A l.length c]] w fun e w' => e = .returned (.bool (Sy.rS (.mk 44 nm n t l))) /\ Below w.heap.size w w':=by
 have hl:=hs.1
 have HS:=hid hs
 have CBR:=hid (fun W (hW : Below w.heap.size w W) => bare_any (.mk 44 nm n t l) false false _ W S (hv.below hW))
 have CEX:=hid (fun W (hW : Below w.heap.size w W) => CX l hm _ W S (hs.below hW))
 have HD : Hid (Sy.rS (.mk 44 nm n t l) = (Sy.bareN (.mk 44 nm n t l) false false && decide (l.length <= 1) && Sy.rXs l)):=by
  show _ = _
  rw [Sy.rS];simp
 generalize Sy.rS (.mk 44 nm n t l) = dd at HD |-
 generalize Sy.bareN (.mk 44 nm n t l) false false = bb at HD CBR
 generalize Sy.rXs l = xx at HD CEX
 have HX:=hid (Bx.refl (w:=w) (cs:=#[.int .i64 44,.string ⟨nm.toArray⟩,.int .i64 n,.string ⟨t.toArray⟩,.slice A l.length c]))
 clear hv hs hm
 go_enter Tryz.func158,Tryz.ntmps158
 go_wp2_with fail
 refine (CBR.out _ HX.out.below).mono ?_
 rintro e w1 ⟨rfl,hb1⟩
 replace HX:=hid (HX.out.step hb1)
 clear hb1
 obtain ⟨x0,x1,x2,x3,x4⟩:=bx_all HX.out
 cases bb
 ·
  go_wp2_with fail
  go_ret
  exact ⟨ret_bool (by rw [HD.out];simp),HX.out.below⟩
 by_cases hk1 : l.length <= 1
 rotate_left
 ·
  have hj1 : ¬ (l.length : Int) <= 1:=by omega
  have HK1:=hid hk1
  clear hk1
  go_wp2_with fail
  go_ret
  exact ⟨ret_bool (by rw [HD.out];simp [HK1.out]),HX.out.below⟩
 have hj1 : (l.length : Int) <= 1:=by omega
 have HK1:=hid hk1
 clear hk1
 go_wp2_with fail
 refine (CEX.out _ HX.out.below).mono ?_
 rintro e w1 ⟨rfl,hb1⟩
 replace HX:=hid (HX.out.step hb1)
 clear hb1
 obtain ⟨x0,x1,x2,x3,x4⟩:=bx_all HX.out
 go_wp2_with fail
 go_ret
 exact ⟨ret_bool (by rw [HD.out];simp [HK1.out]),HX.out.below⟩
theorem s_g2 {m : Nat} (CX : RL m 123 Sy.rXs) (op : Int) (hop : op = 45 \/ op = 52) (n : Int) (nm t : List UInt8) (l : List N) (w : World) (S : Nat -> Prop) (A : Option Addr) (c : Nat) (hm : ∀ v ∈ l,v.size < m) (hv : NA w S (.agg #[.int .i64 op,.string ⟨nm.toArray⟩,.int .i64 n,.string ⟨t.toArray⟩,.slice A l.length c]) (.mk op nm n t l)) (hs : Sl w S (.slice A l.length c) l) :
  Calls Tryz.prog 158 #[.agg #[.int .i64 op,.string ⟨nm.toArray⟩,.int .i64 n,.string ⟨t.toArray⟩,.slice A l.length c]] w fun e w' => e = .returned (.bool (Sy.rS (.mk op nm n t l))) /\ Below w.heap.size w w':=by
 have hl:=hs.1
 have HS:=hid hs
 have CBR:=hid (fun W (hW : Below w.heap.size w W) => bare_any (.mk op nm n t l) false false _ W S (hv.below hW))
 have CEX:=hid (fun W (hW : Below w.heap.size w W) => CX l hm _ W S (hs.below hW))
 have HD : Hid (Sy.rS (.mk op nm n t l) = (Sy.bareN (.mk op nm n t l) false false && l.length == 1 && Sy.rXs l)):=by
  show _ = _
  rcases hop with rfl | rfl <;> (rw [Sy.rS];simp)
 generalize Sy.rS (.mk op nm n t l) = dd at HD |-
 generalize Sy.bareN (.mk op nm n t l) false false = bb at HD CBR
 generalize Sy.rXs l = xx at HD CEX
 have HX:=hid (Bx.refl (w:=w) (cs:=#[.int .i64 op,.string ⟨nm.toArray⟩,.int .i64 n,.string ⟨t.toArray⟩,.slice A l.length c]))
 clear hv hs hm
 rcases hop with rfl | rfl
 all_goals
  go_enter Tryz.func158,Tryz.ntmps158
  go_wp2_with fail
  refine (CBR.out _ HX.out.below).mono ?_
  rintro e w1 ⟨rfl,hb1⟩
  replace HX:=hid (HX.out.step hb1)
  clear hb1
  obtain ⟨x0,x1,x2,x3,x4⟩:=bx_all HX.out
  cases bb
  ·
   go_wp2_with fail
   go_ret
   exact ⟨ret_bool (by rw [HD.out];simp),HX.out.below⟩
  by_cases hk1 : l.length = 1
  rotate_left
  ·
   have hj1 : ((l.length : Int) == 1) = false:=by simp;omega
   have HK1:=hid hk1
   clear hk1
   go_wp2_with fail
   go_ret
   exact ⟨ret_bool (by rw [HD.out];simp [HK1.out]),HX.out.below⟩
  have hj1 : ((l.length : Int) == 1) = true:=by simp;omega
  have HK1:=hid hk1
  clear hk1
  go_wp2_with fail
  refine (CEX.out _ HX.out.below).mono ?_
  rintro e w1 ⟨rfl,hb1⟩
  replace HX:=hid (HX.out.step hb1)
  clear hb1
  obtain ⟨x0,x1,x2,x3,x4⟩:=bx_all HX.out
  go_wp2_with fail
  go_ret
  exact ⟨ret_bool (by rw [HD.out];simp [HK1.out]),HX.out.below⟩
theorem s_46 {m : Nat} (CB : RL m 116 Sy.rBs) (n : Int) (nm t : List UInt8) (l : List N) (w : World) (S : Nat -> Prop) (A : Option Addr) (c : Nat) (hm : ∀ v ∈ l,v.size < m) (hv : NA w S (.agg #[.int .i64 46,.string ⟨nm.toArray⟩,.int .i64 n,.string ⟨t.toArray⟩,.slice A l.length c]) (.mk 46 nm n t l)) (hs : Sl w S (.slice A l.length c) l) :
  Calls Tryz.prog 158 #[.agg #[.int .i64 46,.string ⟨nm.toArray⟩,.int .i64 n,.string ⟨t.toArray⟩,.slice A l.length c]] w fun e w' => e = .returned (.bool (Sy.rS (.mk 46 nm n t l))) /\ Below w.heap.size w w':=by
 have hl:=hs.1
 have HS:=hid hs
 have CBR:=hid (fun W (hW : Below w.heap.size w W) => bare_any (.mk 46 nm n t l) true false _ W S (hv.below hW))
 have CBL:=hid (fun W (hW : Below w.heap.size w W) => CB l hm _ W S (hs.below hW))
 have HD : Hid (Sy.rS (.mk 46 nm n t l) = (Sy.bareN (.mk 46 nm n t l) true false && l.length == 2 && Sy.rBs l)):=by
  show _ = _
  rw [Sy.rS];simp
 generalize Sy.rS (.mk 46 nm n t l) = dd at HD |-
 generalize Sy.bareN (.mk 46 nm n t l) true false = bb at HD CBR
 generalize Sy.rBs l = yy at HD CBL
 have HX:=hid (Bx.refl (w:=w) (cs:=#[.int .i64 46,.string ⟨nm.toArray⟩,.int .i64 n,.string ⟨t.toArray⟩,.slice A l.length c]))
 clear hv hs hm
 go_enter Tryz.func158,Tryz.ntmps158
 go_wp2_with fail
 refine (CBR.out _ HX.out.below).mono ?_
 rintro e w1 ⟨rfl,hb1⟩
 replace HX:=hid (HX.out.step hb1)
 clear hb1
 obtain ⟨x0,x1,x2,x3,x4⟩:=bx_all HX.out
 cases bb
 ·
  go_wp2_with fail
  go_ret
  exact ⟨ret_bool (by rw [HD.out];simp),HX.out.below⟩
 by_cases hk1 : l.length = 2
 rotate_left
 ·
  have hj1 : ((l.length : Int) == 2) = false:=by simp;omega
  have HK1:=hid hk1
  clear hk1
  go_wp2_with fail
  go_ret
  exact ⟨ret_bool (by rw [HD.out];simp [HK1.out]),HX.out.below⟩
 have hj1 : ((l.length : Int) == 2) = true:=by simp;omega
 have HK1:=hid hk1
 clear hk1
 go_wp2_with fail
 refine (CBL.out _ HX.out.below).mono ?_
 rintro e w1 ⟨rfl,hb1⟩
 replace HX:=hid (HX.out.step hb1)
 clear hb1
 obtain ⟨x0,x1,x2,x3,x4⟩:=bx_all HX.out
 go_wp2_with fail
 go_ret
 exact ⟨ret_bool (by rw [HD.out];simp [HK1.out]),HX.out.below⟩
theorem s_47 {m : Nat} (CB : RL m 116 Sy.rBs) (n : Int) (nm t : List UInt8) (l : List N) (w : World) (S : Nat -> Prop) (A : Option Addr) (c : Nat) (hm : ∀ v ∈ l,v.size < m) (hv : NA w S (.agg #[.int .i64 47,.string ⟨nm.toArray⟩,.int .i64 n,.string ⟨t.toArray⟩,.slice A l.length c]) (.mk 47 nm n t l)) (hs : Sl w S (.slice A l.length c) l) :
  Calls Tryz.prog 158 #[.agg #[.int .i64 47,.string ⟨nm.toArray⟩,.int .i64 n,.string ⟨t.toArray⟩,.slice A l.length c]] w fun e w' => e = .returned (.bool (Sy.rS (.mk 47 nm n t l))) /\ Below w.heap.size w w':=by
 have hl:=hs.1
 have HS:=hid hs
 have CBR:=hid (fun W (hW : Below w.heap.size w W) => bare_any (.mk 47 nm n t l) false false _ W S (hv.below hW))
 have CBL:=hid (fun W (hW : Below w.heap.size w W) => CB l hm _ W S (hs.below hW))
 have HD : Hid (Sy.rS (.mk 47 nm n t l) = (Sy.bareN (.mk 47 nm n t l) false false && l.length == 1 && Sy.rBs l)):=by
  show _ = _
  rw [Sy.rS];simp
 generalize Sy.rS (.mk 47 nm n t l) = dd at HD |-
 generalize Sy.bareN (.mk 47 nm n t l) false false = bb at HD CBR
 generalize Sy.rBs l = yy at HD CBL
 have HX:=hid (Bx.refl (w:=w) (cs:=#[.int .i64 47,.string ⟨nm.toArray⟩,.int .i64 n,.string ⟨t.toArray⟩,.slice A l.length c]))
 clear hv hs hm
 go_enter Tryz.func158,Tryz.ntmps158
 go_wp2_with fail
 refine (CBR.out _ HX.out.below).mono ?_
 rintro e w1 ⟨rfl,hb1⟩
 replace HX:=hid (HX.out.step hb1)
 clear hb1
 obtain ⟨x0,x1,x2,x3,x4⟩:=bx_all HX.out
 cases bb
 ·
  go_wp2_with fail
  go_ret
  exact ⟨ret_bool (by rw [HD.out];simp),HX.out.below⟩
 by_cases hk1 : l.length = 1
 rotate_left
 ·
  have hj1 : ((l.length : Int) == 1) = false:=by simp;omega
  have HK1:=hid hk1
  clear hk1
  go_wp2_with fail
  go_ret
  exact ⟨ret_bool (by rw [HD.out];simp [HK1.out]),HX.out.below⟩
 have hj1 : ((l.length : Int) == 1) = true:=by simp;omega
 have HK1:=hid hk1
 clear hk1
 go_wp2_with fail
 refine (CBL.out _ HX.out.below).mono ?_
 rintro e w1 ⟨rfl,hb1⟩
 replace HX:=hid (HX.out.step hb1)
 clear hb1
 obtain ⟨x0,x1,x2,x3,x4⟩:=bx_all HX.out
 go_wp2_with fail
 go_ret
 exact ⟨ret_bool (by rw [HD.out];simp [HK1.out]),HX.out.below⟩
theorem s_48 {m : Nat} (CX : RL m 123 Sy.rXs) (n : Int) (nm t : List UInt8) (l : List N) (w : World) (S : Nat -> Prop) (A : Option Addr) (c : Nat) (hm : ∀ v ∈ l,v.size < m) (hv : NA w S (.agg #[.int .i64 48,.string ⟨nm.toArray⟩,.int .i64 n,.string ⟨t.toArray⟩,.slice A l.length c]) (.mk 48 nm n t l)) (hs : Sl w S (.slice A l.length c) l) :
  Calls Tryz.prog 158 #[.agg #[.int .i64 48,.string ⟨nm.toArray⟩,.int .i64 n,.string ⟨t.toArray⟩,.slice A l.length c]] w fun e w' => e = .returned (.bool (Sy.rS (.mk 48 nm n t l))) /\ Below w.heap.size w w':=by
 have hl:=hs.1
 have HS:=hid hs
 have CBR:=hid (fun W (hW : Below w.heap.size w W) => bare_any (.mk 48 nm n t l) true false _ W S (hv.below hW))
 have CEX:=hid (fun W (hW : Below w.heap.size w W) => CX l hm _ W S (hs.below hW))
 have HD : Hid (Sy.rS (.mk 48 nm n t l) = (Sy.bareN (.mk 48 nm n t l) true false && Sy.rXs l)):=by
  show _ = _
  rw [Sy.rS];simp
 generalize Sy.rS (.mk 48 nm n t l) = dd at HD |-
 generalize Sy.bareN (.mk 48 nm n t l) true false = bb at HD CBR
 generalize Sy.rXs l = xx at HD CEX
 have HX:=hid (Bx.refl (w:=w) (cs:=#[.int .i64 48,.string ⟨nm.toArray⟩,.int .i64 n,.string ⟨t.toArray⟩,.slice A l.length c]))
 clear hv hs hm
 go_enter Tryz.func158,Tryz.ntmps158
 go_wp2_with fail
 refine (CBR.out _ HX.out.below).mono ?_
 rintro e w1 ⟨rfl,hb1⟩
 replace HX:=hid (HX.out.step hb1)
 clear hb1
 obtain ⟨x0,x1,x2,x3,x4⟩:=bx_all HX.out
 cases bb
 ·
  go_wp2_with fail
  go_ret
  exact ⟨ret_bool (by rw [HD.out];simp),HX.out.below⟩
 go_wp2_with fail
 refine (CEX.out _ HX.out.below).mono ?_
 rintro e w1 ⟨rfl,hb1⟩
 replace HX:=hid (HX.out.step hb1)
 clear hb1
 obtain ⟨x0,x1,x2,x3,x4⟩:=bx_all HX.out
 go_wp2_with fail
 go_ret
 exact ⟨ret_bool (by rw [HD.out];simp),HX.out.below⟩
theorem s_49 {m : Nat} (CC : RL m 183 (Sy.rCs 0)) (n : Int) (nm t : List UInt8) (l : List N) (w : World) (S : Nat -> Prop) (A : Option Addr) (c : Nat) (hm : ∀ v ∈ l,v.size < m) (hv : NA w S (.agg #[.int .i64 49,.string ⟨nm.toArray⟩,.int .i64 n,.string ⟨t.toArray⟩,.slice A l.length c]) (.mk 49 nm n t l)) (hs : Sl w S (.slice A l.length c) l) :
  Calls Tryz.prog 158 #[.agg #[.int .i64 49,.string ⟨nm.toArray⟩,.int .i64 n,.string ⟨t.toArray⟩,.slice A l.length c]] w fun e w' => e = .returned (.bool (Sy.rS (.mk 49 nm n t l))) /\ Below w.heap.size w w':=by
 have hl:=hs.1
 have HS:=hid hs
 have CBR:=hid (fun W (hW : Below w.heap.size w W) => bare_any (.mk 49 nm n t l) false false _ W S (hv.below hW))
 have CCS:=hid (fun W (hW : Below w.heap.size w W) => CC l hm _ W S (hs.below hW))
 have HD : Hid (Sy.rS (.mk 49 nm n t l) = (Sy.bareN (.mk 49 nm n t l) false false && decide (0 < l.length) && Sy.rCs 0 l)):=by
  show _ = _
  rw [Sy.rS];simp
 generalize Sy.rS (.mk 49 nm n t l) = dd at HD |-
 generalize Sy.bareN (.mk 49 nm n t l) false false = bb at HD CBR
 generalize Sy.rCs 0 l = zz at HD CCS
 have HX:=hid (Bx.refl (w:=w) (cs:=#[.int .i64 49,.string ⟨nm.toArray⟩,.int .i64 n,.string ⟨t.toArray⟩,.slice A l.length c]))
 clear hv hs hm
 go_enter Tryz.func158,Tryz.ntmps158
 go_wp2_with fail
 refine (CBR.out _ HX.out.below).mono ?_
 rintro e w1 ⟨rfl,hb1⟩
 replace HX:=hid (HX.out.step hb1)
 clear hb1
 obtain ⟨x0,x1,x2,x3,x4⟩:=bx_all HX.out
 cases bb
 ·
  go_wp2_with fail
  go_ret
  exact ⟨ret_bool (by rw [HD.out];simp),HX.out.below⟩
 by_cases hk1 : 0 < l.length
 rotate_left
 ·
  have hj1 : ¬ (0 : Int) < (l.length : Int):=by omega
  have HK1:=hid hk1
  clear hk1
  go_wp2_with fail
  go_ret
  exact ⟨ret_bool (by rw [HD.out];simp [HK1.out]),HX.out.below⟩
 have hj1 : (0 : Int) < (l.length : Int):=by omega
 have HK1:=hid hk1
 clear hk1
 go_wp2_with fail
 refine (CCS.out _ HX.out.below).mono ?_
 rintro e w1 ⟨rfl,hb1⟩
 replace HX:=hid (HX.out.step hb1)
 clear hb1
 obtain ⟨x0,x1,x2,x3,x4⟩:=bx_all HX.out
 go_wp2_with fail
 go_ret
 exact ⟨ret_bool (by rw [HD.out];simp [HK1.out]),HX.out.below⟩
theorem s_no {m : Nat} (op n : Int) (nm t : List UInt8) (l : List N) (w : World) (S : Nat -> Prop) (A : Option Addr) (c : Nat) (hm : ∀ v ∈ l,v.size < m) (hv : NA w S (.agg #[.int .i64 op,.string ⟨nm.toArray⟩,.int .i64 n,.string ⟨t.toArray⟩,.slice A l.length c]) (.mk op nm n t l)) (hs : Sl w S (.slice A l.length c) l) (e40 : (op == 40) = false) (e41 : (op == 41) = false) (e42 : (op == 42) = false) (e43 : (op == 43) = false) (e44 : (op == 44) = false) (e45 : (op == 45) = false) (e46 : (op == 46) = false) (e47 : (op == 47) = false) (e48 : (op == 48) = false) (e49 : (op == 49) = false) (e52 : (op == 52) = false) :
  Calls Tryz.prog 158 #[.agg #[.int .i64 op,.string ⟨nm.toArray⟩,.int .i64 n,.string ⟨t.toArray⟩,.slice A l.length c]] w fun e w' => e = .returned (.bool (Sy.rS (.mk op nm n t l))) /\ Below w.heap.size w w':=by
 have hl:=hs.1
 have hf : Sy.rS (.mk op nm n t l) = false:=by
  have f : ∀ k : Int,(op == k) = false -> ¬ op = k:=fun k h => by simpa using h
  rw [Sy.rS,if_neg (fun h => h.elim (f 40 e40) (f 41 e41)),if_neg (f 42 e42),if_neg (f 43 e43),if_neg (f 44 e44),if_neg (fun h => h.elim (f 45 e45) (f 52 e52)),if_neg (f 46 e46),if_neg (f 47 e47),if_neg (f 48 e48),if_neg (f 49 e49)]
 rw [hf]
 clear hf hv hs hm
 go_enter Tryz.func158,Tryz.ntmps158
 go_wp2_with fail
 go_ret
 exact ⟨rfl,bl _⟩
theorem s_43 {m : Nat} (KX : RX m 74 Sy.rX) (KB : RX m 115 Sy.rB) (n : Int) (nm t : List UInt8) (l : List N) (w : World) (S : Nat -> Prop) (A : Option Addr) (c : Nat) (hm : ∀ v ∈ l,v.size < m) (hv : NA w S (.agg #[.int .i64 43,.string ⟨nm.toArray⟩,.int .i64 n,.string ⟨t.toArray⟩,.slice A l.length c]) (.mk 43 nm n t l)) (hs : Sl w S (.slice A l.length c) l) :
  Calls Tryz.prog 158 #[.agg #[.int .i64 43,.string ⟨nm.toArray⟩,.int .i64 n,.string ⟨t.toArray⟩,.slice A l.length c]] w fun e w' => e = .returned (.bool (Sy.rS (.mk 43 nm n t l))) /\ Below w.heap.size w w':=by
 have hl:=hs.1
 have HS:=hid hs
 have CBR:=hid (fun W (hW : Below w.heap.size w W) => bare_any (.mk 43 nm n t l) false false _ W S (hv.below hW))
 have HD : Hid (Sy.rS (.mk 43 nm n t l) = (Sy.bareN (.mk 43 nm n t l) false false && Sy.rWh l)):=by
  show _ = _
  rw [Sy.rS];simp
 generalize Sy.rS (.mk 43 nm n t l) = dd at HD |-
 generalize Sy.bareN (.mk 43 nm n t l) false false = bb at HD CBR
 have HX:=hid (Bx.refl (w:=w) (cs:=#[.int .i64 43,.string ⟨nm.toArray⟩,.int .i64 n,.string ⟨t.toArray⟩,.slice A l.length c]))
 by_cases h2 : l.length = 2
 rotate_left
 ·
  have hj : ((l.length : Int) == 2) = false:=by simp;omega
  have HF : Hid (dd = false):=by show _ = _;rw [HD.out,Sy.wh_no h2];simp
  clear hv hs hm h2
  go_enter Tryz.func158,Tryz.ntmps158
  go_wp2_with fail
  refine (CBR.out _ HX.out.below).mono ?_
  rintro e w1 ⟨rfl,hb1⟩
  replace HX:=hid (HX.out.step hb1)
  clear hb1
  obtain ⟨x0,x1,x2,x3,x4⟩:=bx_all HX.out
  cases bb
  ·
   go_wp2_with fail
   go_ret
   exact ⟨ret_bool HF.out.symm,HX.out.below⟩
  ·
   go_wp2_with fail
   go_ret
   exact ⟨ret_bool HF.out.symm,HX.out.below⟩
 obtain ⟨b,o,cc,he⟩:=hs.base (by omega)
 injection he with he1 he2 he3
 subst he1
 clear he2 he3
 have HL:=hid h2
 have hj : ((l.length : Int) == 2) = true:=by simp;omega
 have hp0 : (0 : Int) < (l.length : Int):=by omega
 have hp1 : (1 : Int) < (l.length : Int):=by omega
 have hn0 : 0 < l.length:=by omega
 have hn1 : 1 < l.length:=by omega
 have K0:=hid (KX (l[0]'hn0) (hm _ (List.getElem_mem _)))
 have K1:=hid (KB (l[1]'hn1) (hm _ (List.getElem_mem _)))
 rw [Sy.wh_at h2] at HD
 generalize Sy.rX (l[0]'hn0) = r0 at HD K0
 generalize Sy.rB (l[1]'hn1) = r1 at HD K1
 clear hv hs hm h2
 go_enter Tryz.func158,Tryz.ntmps158
 go_wp2_with fail
 refine (CBR.out _ HX.out.below).mono ?_
 rintro e w1 ⟨rfl,hb1⟩
 replace HX:=hid (HX.out.step hb1)
 clear hb1
 obtain ⟨x0,x1,x2,x3,x4⟩:=bx_all HX.out
 cases bb
 ·
  have HF : Hid (dd = false):=HD.out.trans rfl
  go_wp2_with fail
  go_ret
  exact ⟨ret_bool HF.out.symm,HX.out.below⟩
 obtain ⟨A0,c0,q0,q1,q2,q3,q4,hva0⟩:=(HS.out.below HX.out.below).kid 0 (by have:=HL.out;omega) o (by omega)
 have K0:=hid (K0.out _ _ S hva0)
 clear hva0
 go_wp2_with fail
 refine K0.out.mono ?_
 rintro e w1 ⟨rfl,hb1⟩
 replace HX:=hid (HX.out.step hb1)
 clear hb1 q0 q1 q2 q3 q4
 obtain ⟨x0,x1,x2,x3,x4⟩:=bx_all HX.out
 cases r0
 ·
  have HF : Hid (dd = false):=HD.out.trans rfl
  go_wp2_with fail
  go_ret
  exact ⟨ret_bool HF.out.symm,HX.out.below⟩
 obtain ⟨A1,c1,q0,q1,q2,q3,q4,hva1⟩:=(HS.out.below HX.out.below).kid 1 (by have:=HL.out;omega) (o + 5) (by omega)
 have K1:=hid (K1.out _ _ S hva1)
 clear hva1
 go_wp2_with fail
 refine K1.out.mono ?_
 rintro e w1 ⟨rfl,hb1⟩
 replace HX:=hid (HX.out.step hb1)
 clear hb1
 go_wp2_with fail
 go_ret
 exact ⟨ret_bool HD.out.symm,HX.out.below⟩
theorem s_42 {m : Nat} (KX : RX m 74 Sy.rX) (KB : RX m 115 Sy.rB) (KS : RX m 158 Sy.rS) (n : Int) (nm t : List UInt8) (l : List N) (w : World) (S : Nat -> Prop) (A : Option Addr) (c : Nat) (hm : ∀ v ∈ l,v.size < m) (hv : NA w S (.agg #[.int .i64 42,.string ⟨nm.toArray⟩,.int .i64 n,.string ⟨t.toArray⟩,.slice A l.length c]) (.mk 42 nm n t l)) (hs : Sl w S (.slice A l.length c) l) :
  Calls Tryz.prog 158 #[.agg #[.int .i64 42,.string ⟨nm.toArray⟩,.int .i64 n,.string ⟨t.toArray⟩,.slice A l.length c]] w fun e w' => e = .returned (.bool (Sy.rS (.mk 42 nm n t l))) /\ Below w.heap.size w w':=by
 have hl:=hs.1
 have HS:=hid hs
 have CBR:=hid (fun W (hW : Below w.heap.size w W) => bare_any (.mk 42 nm n t l) false false _ W S (hv.below hW))
 have HD : Hid (Sy.rS (.mk 42 nm n t l) = (Sy.bareN (.mk 42 nm n t l) false false && Sy.rIf l)):=by
  show _ = _
  rw [Sy.rS];simp
 generalize Sy.rS (.mk 42 nm n t l) = dd at HD |-
 generalize Sy.bareN (.mk 42 nm n t l) false false = bb at HD CBR
 have HX:=hid (Bx.refl (w:=w) (cs:=#[.int .i64 42,.string ⟨nm.toArray⟩,.int .i64 n,.string ⟨t.toArray⟩,.slice A l.length c]))
 by_cases hlo : l.length < 2
 ·
  have hj : (l.length : Int) < 2:=by omega
  have HF : Hid (dd = false):=by show _ = _;rw [HD.out,Sy.if_nil (by omega) (by omega)];simp
  clear hv hs hm hlo
  go_enter Tryz.func158,Tryz.ntmps158
  go_wp2_with fail
  refine (CBR.out _ HX.out.below).mono ?_
  rintro e w1 ⟨rfl,hb1⟩
  replace HX:=hid (HX.out.step hb1)
  clear hb1
  obtain ⟨x0,x1,x2,x3,x4⟩:=bx_all HX.out
  cases bb
  ·
   go_wp2_with fail
   go_ret
   exact ⟨ret_bool HF.out.symm,HX.out.below⟩
  ·
   go_wp2_with fail
   go_ret
   exact ⟨ret_bool HF.out.symm,HX.out.below⟩
 have hj : ¬ (l.length : Int) < 2:=by omega
 by_cases hhi : 3 < l.length
 ·
  have hj3 : (3 : Int) < (l.length : Int):=by omega
  have HF : Hid (dd = false):=by show _ = _;rw [HD.out,Sy.if_nil (by omega) (by omega)];simp
  clear hv hs hm hlo hhi
  go_enter Tryz.func158,Tryz.ntmps158
  go_wp2_with fail
  refine (CBR.out _ HX.out.below).mono ?_
  rintro e w1 ⟨rfl,hb1⟩
  replace HX:=hid (HX.out.step hb1)
  clear hb1
  obtain ⟨x0,x1,x2,x3,x4⟩:=bx_all HX.out
  cases bb
  ·
   go_wp2_with fail
   go_ret
   exact ⟨ret_bool HF.out.symm,HX.out.below⟩
  ·
   go_wp2_with fail
   go_ret
   exact ⟨ret_bool HF.out.symm,HX.out.below⟩
 have hj3 : ¬ (3 : Int) < (l.length : Int):=by omega
 obtain ⟨b,o,cc,he⟩:=hs.base (by omega)
 injection he with he1 he2 he3
 subst he1
 clear he2 he3
 have HL : Hid (2 <= l.length):=by show _ <= _;omega
 have hp0 : (0 : Int) < (l.length : Int):=by omega
 have hp1 : (1 : Int) < (l.length : Int):=by omega
 have hn0 : 0 < l.length:=by omega
 have hn1 : 1 < l.length:=by omega
 have K0:=hid (KX (l[0]'hn0) (hm _ (List.getElem_mem _)))
 have K1:=hid (KB (l[1]'hn1) (hm _ (List.getElem_mem _)))
 by_cases h2 : l.length = 2
 ·
  rw [Sy.if_two h2] at HD
  generalize Sy.rX (l[0]'hn0) = r0 at HD K0
  generalize Sy.rB (l[1]'hn1) = r1 at HD K1
  have hj2 : ((l.length : Int) == 2) = true:=by simp;omega
  clear hv hs hm h2
  go_enter Tryz.func158,Tryz.ntmps158
  go_wp2_with fail
  refine (CBR.out _ HX.out.below).mono ?_
  rintro e w1 ⟨rfl,hb1⟩
  replace HX:=hid (HX.out.step hb1)
  clear hb1
  obtain ⟨x0,x1,x2,x3,x4⟩:=bx_all HX.out
  cases bb
  ·
   have HF : Hid (dd = false):=HD.out.trans rfl
   go_wp2_with fail
   go_ret
   exact ⟨ret_bool HF.out.symm,HX.out.below⟩
  obtain ⟨A0,c0,q0,q1,q2,q3,q4,hva0⟩:=(HS.out.below HX.out.below).kid 0 (by have:=HL.out;omega) o (by omega)
  have K0:=hid (K0.out _ _ S hva0)
  clear hva0
  go_wp2_with fail
  refine K0.out.mono ?_
  rintro e w1 ⟨rfl,hb1⟩
  replace HX:=hid (HX.out.step hb1)
  clear hb1 q0 q1 q2 q3 q4
  obtain ⟨x0,x1,x2,x3,x4⟩:=bx_all HX.out
  cases r0
  ·
   have HF : Hid (dd = false):=HD.out.trans rfl
   go_wp2_with fail
   go_ret
   exact ⟨ret_bool HF.out.symm,HX.out.below⟩
  obtain ⟨A1,c1,q0,q1,q2,q3,q4,hva1⟩:=(HS.out.below HX.out.below).kid 1 (by have:=HL.out;omega) (o + 5) (by omega)
  have K1:=hid (K1.out _ _ S hva1)
  clear hva1
  go_wp2_with fail
  refine K1.out.mono ?_
  rintro e w1 ⟨rfl,hb1⟩
  replace HX:=hid (HX.out.step hb1)
  clear hb1
  cases r1
  ·
   go_wp2_with fail
   go_ret
   exact ⟨ret_bool HD.out.symm,HX.out.below⟩
  ·
   go_wp2_with fail
   go_ret
   exact ⟨ret_bool HD.out.symm,HX.out.below⟩
 have h3 : l.length = 3:=by omega
 have hn2 : 2 < l.length:=by omega
 have hp2 : (2 : Int) < (l.length : Int):=by omega
 have HL2:=hid h3
 have K2:=hid (KB (l[2]'hn2) (hm _ (List.getElem_mem _)))
 have K3:=hid (KS (l[2]'hn2) (hm _ (List.getElem_mem _)))
 rw [Sy.if_three h3] at HD
 generalize Sy.rX (l[0]'hn0) = r0 at HD K0
 generalize Sy.rB (l[1]'hn1) = r1 at HD K1
 generalize Sy.rB (l[2]'hn2) = r2 at HD K2
 generalize Sy.rS (l[2]'hn2) = r3 at HD K3
 replace HD : Hid (dd = (bb && (r0 && r1 && (r2 || (l[2]'hn2).op == 42 && r3)))):=HD
 have hj2 : ((l.length : Int) == 2) = false:=by simp;omega
 clear hv hs hm h2 h3
 go_enter Tryz.func158,Tryz.ntmps158
 go_wp2_with fail
 refine (CBR.out _ HX.out.below).mono ?_
 rintro e w1 ⟨rfl,hb1⟩
 replace HX:=hid (HX.out.step hb1)
 clear hb1
 obtain ⟨x0,x1,x2,x3,x4⟩:=bx_all HX.out
 cases bb
 ·
  have HF : Hid (dd = false):=HD.out.trans rfl
  go_wp2_with fail
  go_ret
  exact ⟨ret_bool HF.out.symm,HX.out.below⟩
 obtain ⟨A0,c0,q0,q1,q2,q3,q4,hva0⟩:=(HS.out.below HX.out.below).kid 0 (by have:=HL.out;omega) o (by omega)
 have K0:=hid (K0.out _ _ S hva0)
 clear hva0
 go_wp2_with fail
 refine K0.out.mono ?_
 rintro e w1 ⟨rfl,hb1⟩
 replace HX:=hid (HX.out.step hb1)
 clear hb1 q0 q1 q2 q3 q4
 obtain ⟨x0,x1,x2,x3,x4⟩:=bx_all HX.out
 cases r0
 ·
  have HF : Hid (dd = false):=HD.out.trans rfl
  go_wp2_with fail
  go_ret
  exact ⟨ret_bool HF.out.symm,HX.out.below⟩
 obtain ⟨A1,c1,q0,q1,q2,q3,q4,hva1⟩:=(HS.out.below HX.out.below).kid 1 (by have:=HL.out;omega) (o + 5) (by omega)
 have K1:=hid (K1.out _ _ S hva1)
 clear hva1
 go_wp2_with fail
 refine K1.out.mono ?_
 rintro e w1 ⟨rfl,hb1⟩
 replace HX:=hid (HX.out.step hb1)
 clear hb1 q0 q1 q2 q3 q4
 obtain ⟨x0,x1,x2,x3,x4⟩:=bx_all HX.out
 cases r1
 ·
  have HF : Hid (dd = false):=HD.out.trans rfl
  go_wp2_with fail
  go_ret
  exact ⟨ret_bool HF.out.symm,HX.out.below⟩
 obtain ⟨A2,c2,q0,q1,q2,q3,q4,hva2⟩:=(HS.out.below HX.out.below).kid 2 hn2 (o + 10) (by omega)
 have K2:=hid (K2.out _ _ S hva2)
 clear hva2
 go_wp2_with fail
 refine K2.out.mono ?_
 rintro e w1 ⟨rfl,hb1⟩
 replace HX:=hid (HX.out.step hb1)
 clear hb1 q0 q1 q2 q3 q4
 obtain ⟨x0,x1,x2,x3,x4⟩:=bx_all HX.out
 cases r2
 rotate_left
 ·
  go_wp2_with fail
  go_ret
  exact ⟨ret_bool HD.out.symm,HX.out.below⟩
 obtain ⟨A3,c3,q0,q1,q2,q3,q4,hva3⟩:=(HS.out.below HX.out.below).kid 2 hn2 (o + 10) (by omega)
 have K3:=hid (K3.out _ _ S hva3)
 clear hva3
 generalize (l[2]'hn2).op = kop at *
 cases h42 : (kop == 42)
 ·
  have HF : Hid (dd = false):=by show _ = _;rw [HD.out,h42];rfl
  go_wp2_with fail
  go_ret
  exact ⟨ret_bool HF.out.symm,HX.out.below⟩
 go_wp2_with fail
 refine K3.out.mono ?_
 rintro e w1 ⟨rfl,hb1⟩
 replace HX:=hid (HX.out.step hb1)
 clear hb1
 go_wp2_with fail
 go_ret
 exact ⟨ret_bool (by rw [HD.out,h42];simp),HX.out.below⟩
end Go.Proofs.YtgeppafcemeidaaGreatDoor
namespace Go.Proofs.YtgeppafcemeidaaGreatDoor
open Go.RowKit
open Sy (N)
open Tk (T)
namespace Sy
def cP (i n : Nat) (v : N) : Bool:=(v.op == 51 && decide (i + 1 = n) && bareN v false false && rEl v.l) || (v.op == 50 && decide (i < 16) && bareN v (v.nm != []) false && rWh v.l)
theorem cs_at {l : List N} {i : Nat} (h : i < l.length) : rCs i (l.drop i) = (cP i l.length l[i] && rCs (i + 1) (l.drop (i + 1))):=by
 rw [List.drop_eq_getElem_cons h]
 have he : (l.drop (i + 1)).isEmpty = decide (i + 1 = l.length):=by
  rw [Bool.eq_iff_iff];simp;omega
 generalize l.drop (i + 1) = r at *
 obtain ⟨op,nm,n,t,k⟩:=l[i]
 rw [rCs,he]
 rfl
end Sy
theorem cases_any {m : Nat} (KX : RX m 74 Sy.rX) (KB : RX m 115 Sy.rB) : RL m 183 (Sy.rCs 0):=by
 intro l hm iv w S hs
 obtain ⟨A,c,rfl⟩:=hs.form
 have hl:=hs.1
 have HS:=hid hs
 have HMM : Hid (∀ (i : Nat) (hi : i < l.length),∀ u ∈ l[i].l,u.size < m):=fun i hi u hu => by
  have h1:=hm _ (List.getElem_mem hi)
  have h2:=Sy.N.size_mem hu
  rw [Sy.N.size_l] at h1;omega
 have CX:=hid KX
 have CB:=hid KB
 clear hs hm KX KB
 have H0 : Hid (Sy.rCs 0 l = Sy.rCs 0 (l.drop 0)):=rfl
 generalize Sy.rCs 0 l = dd at H0 |-
 go_enter Tryz.func183,Tryz.ntmps183
 go_wp2_with fail
 go_loopw [3] (fun v3 wr => ∃ i : Nat,i <= l.length /\ v3 = .int .i64 (i : Int) /\ Hid (dd = Sy.rCs i (l.drop i)) /\ Below w.heap.size w wr) (fun v3 _ => l.length - (intOf v3).toNat)
 case atStart => exact ⟨0,Nat.zero_le _,rfl,H0.out,Below.refl _ _⟩
 case round =>
  obtain ⟨i,hi,rfl,HA,hbx⟩:=hrel
  have HX:=hid hbx
  clear hbx
  by_cases hlt : i < l.length
  ·
   obtain ⟨b,o,cc,A1,c1,he,q0,q1,q2,q3,q4,hva⟩:=(HS.out.below HX.out).kids i hlt
   injection he with he1 he2 he3
   subst he1
   clear he2 he3
   have hjl : (i : Int) < (l.length : Int):=by omega
   have C1:=hid (fun W (hW : Below wr.heap.size wr W) => bare_any l[i] false false _ W S (hva.below hW))
   have C2:=hid (fun W (hW : Below wr.heap.size wr W) => bare_any l[i] (l[i].nm != []) false _ W S (hva.below hW))
   obtain ⟨A2,c2,heq,ho2,hk2⟩:=hva.open_
   have he4 : (Value.slice A1 l[i].l.length c1) = .slice A2 l[i].l.length c2:=by
    injection heq with heq
    have:=congrArg (fun x : Array Value => x[4]?) heq
    simpa using this
   rw [<- he4] at hk2
   have HSK : Hid (Sl wr S (.slice A1 l[i].l.length c1) l[i].l):=⟨ho2.2.2.2.2.2.2,hk2⟩
   have HK:=hid (HMM.out i hlt)
   have hl2:=ho2.2.2.2.2.2.2
   clear hva heq ho2 hk2 he4
   have HP : Hid (Sy.cP i l.length l[i] = ((l[i].op == 51 && decide (i + 1 = l.length) && Sy.bareN l[i] false false && Sy.rEl l[i].l) || (l[i].op == 50 && decide (i < 16) && Sy.bareN l[i] (l[i].nm != []) false && Sy.rWh l[i].l))):=rfl
   have HE:=hid (Sy.cs_at hlt)
   replace HA:=hid (HA.out.trans HE.out)
   have HY : Hid (Sy.cP i l.length l[i] = true -> dd = Sy.rCs (i + 1) (l.drop (i + 1))):=fun h => by rw [HA.out,h];rfl
   have HZ : Hid (Sy.cP i l.length l[i] = false -> dd = false):=fun h => by rw [HA.out,h];rfl
   clear HE HA
   generalize Sy.cP i l.length l[i] = pp at HP HY HZ
   generalize Sy.bareN l[i] false false = b1 at HP C1
   generalize Sy.bareN l[i] (l[i].nm != []) false = b2 at HP C2
   generalize l[i].op = kop at *
   generalize l[i].nm = knm at *
   generalize l[i].n = kn at *
   generalize l[i].t = kt at *
   generalize l[i].l = kl at *
   have HQ:=hid (Bx.refl (w:=wr) (cs:=#[.int .i64 kop,.string ⟨knm.toArray⟩,.int .i64 kn,.string ⟨kt.toArray⟩,.slice A1 kl.length c1]))
   cases h51 : (kop == 51)
   ·
    cases h50 : (kop == 50)
    ·
     have hne : (kop != 50) = true:=by simp at h50 |-;exact h50
     replace HZ:=hid (HZ.out (by rw [HP.out];rw [h51,h50];rfl))
     go_wp2_with fail
     go_ret
     exact ⟨ret_bool HZ.out.symm,bstep HX.out HQ.out.below⟩
    have hne : (kop != 50) = false:=by simp at h50 |-;exact h50
    by_cases h16 : i < 16
    rotate_left
    ·
     have hj : (16 : Int) <= (i : Int):=by omega
     replace HZ:=hid (HZ.out (by rw [HP.out];rw [h51,h50,decide_eq_false h16];rfl))
     go_wp2_with fail
     go_ret
     exact ⟨ret_bool HZ.out.symm,bstep HX.out HQ.out.below⟩
    have hj : ¬ (16 : Int) <= (i : Int):=by omega
    replace HP : Hid (pp = (b2 && Sy.rWh kl)):=by show _ = _;rw [HP.out,h51,h50,decide_eq_true h16];simp
    have HQQ : Hid (∀ q,(knm != []) = q -> ∀ W,Below wr.heap.size wr W -> Calls Tryz.prog 64 #[.agg #[.int .i64 kop,.string ⟨knm.toArray⟩,.int .i64 kn,.string ⟨kt.toArray⟩,.slice A1 kl.length c1],.bool q,.bool false] W fun e w' => e = .returned (.bool b2) /\ Below W.heap.size W w'):=fun q hq W hW => hq ▸ C2.out W hW
    clear h16 h50
    cases hnm : (knm == [])
    all_goals
     replace HQQ:=hid (HQQ.out _ (by rw [bne,hnm]))
     try simp only [Bool.not_false,Bool.not_true] at HQQ
     go_wp2_with fail
     refine (HQQ.out _ HQ.out.below).mono ?_
     rintro e w1 ⟨rfl,hb1⟩
     replace HQ:=hid (HQ.out.step hb1)
     clear hb1
     obtain ⟨y0,y1,y2,y3,y4⟩:=bx_all HQ.out
     cases b2
     ·
      replace HZ:=hid (HZ.out (by rw [HP.out];rfl))
      go_wp2_with fail
      go_ret
      exact ⟨ret_bool HZ.out.symm,bstep HX.out HQ.out.below⟩
     by_cases hk2 : kl.length = 2
     rotate_left
     ·
      have hj2 : ((kl.length : Int) != 2) = true:=by simp;omega
      replace HZ:=hid (HZ.out (by rw [HP.out,Sy.wh_no hk2];rfl))
      clear hk2
      go_wp2_with fail
      go_ret
      exact ⟨ret_bool HZ.out.symm,bstep HX.out HQ.out.below⟩
     have hj2 : ((kl.length : Int) != 2) = false:=by simp;omega
     have hn0 : 0 < kl.length:=by omega
     have hn1 : 1 < kl.length:=by omega
     have hp0 : (0 : Int) < (kl.length : Int):=by omega
     have hp1 : (1 : Int) < (kl.length : Int):=by omega
     obtain ⟨b',o',c',he⟩:=HSK.out.base hn0
     injection he with he1 he2 he3
     subst he1
     clear he2 he3
     have K0:=hid (CX.out (kl[0]'hn0) (HK.out _ (List.getElem_mem _)))
     have K1:=hid (CB.out (kl[1]'hn1) (HK.out _ (List.getElem_mem _)))
     rw [Sy.wh_at hk2] at HP
     generalize Sy.rX (kl[0]'hn0) = r0 at HP K0
     generalize Sy.rB (kl[1]'hn1) = r1 at HP K1
     clear hk2
     obtain ⟨A5,c5,p0,p1,p2,p3,p4,hv5⟩:=(HSK.out.below HQ.out.below).kid 0 hn0 o' (by omega)
     replace K0:=hid (K0.out _ _ S hv5)
     clear hv5
     go_wp2_with fail
     refine (K0.out).mono ?_
     rintro e w1 ⟨rfl,hb1⟩
     replace HQ:=hid (HQ.out.step hb1)
     clear hb1
     obtain ⟨y0,y1,y2,y3,y4⟩:=bx_all HQ.out
     clear p0 p1 p2 p3 p4
     cases r0
     ·
      replace HZ:=hid (HZ.out (by rw [HP.out];rfl))
      go_wp2_with fail
      go_ret
      exact ⟨ret_bool HZ.out.symm,bstep HX.out HQ.out.below⟩
     obtain ⟨A6,c6,p0,p1,p2,p3,p4,hv6⟩:=(HSK.out.below HQ.out.below).kid 1 hn1 (o' + 5) (by omega)
     replace K1:=hid (K1.out _ _ S hv6)
     clear hv6
     go_wp2_with fail
     refine (K1.out).mono ?_
     rintro e w1 ⟨rfl,hb1⟩
     replace HQ:=hid (HQ.out.step hb1)
     clear hb1
     obtain ⟨y0,y1,y2,y3,y4⟩:=bx_all HQ.out
     cases r1
     ·
      replace HZ:=hid (HZ.out (by rw [HP.out];rfl))
      go_wp2_with fail
      go_ret
      exact ⟨ret_bool HZ.out.symm,bstep HX.out HQ.out.below⟩
     ·
      replace HY:=hid (HY.out (by rw [HP.out];rfl))
      have HXB:=hid (bstep HX.out HQ.out.below)
      go_wp2_with fail
      go_roundw
      case rel => exact ⟨i + 1,by omega,by go_num,HY.out,HXB.out⟩
      case measure => simp [intOf];omega
   ·
    have hk51 : kop = 51:=by simpa using h51
    have h50 : (kop == 50) = false:=by rw [hk51];rfl
    have hne : (kop != 50) = true:=by rw [hk51];rfl
    clear hk51
    by_cases hla : i + 1 = l.length
    rotate_left
    ·
     have hj : ((i : Int) == (l.length : Int) - 1) = false:=by simp;omega
     replace HZ:=hid (HZ.out (by rw [HP.out];rw [h51,h50,decide_eq_false hla];rfl))
     go_wp2_with fail
     go_ret
     exact ⟨ret_bool HZ.out.symm,bstep HX.out HQ.out.below⟩
    have hj : ((i : Int) == (l.length : Int) - 1) = true:=by simp;omega
    replace HP : Hid (pp = (b1 && Sy.rEl kl)):=by show _ = _;rw [HP.out,h51,h50,decide_eq_true hla];simp
    clear h50
    have HLA:=hid hla
    clear hla
    go_wp2_with fail
    refine (C1.out _ HQ.out.below).mono ?_
    rintro e w1 ⟨rfl,hb1⟩
    replace HQ:=hid (HQ.out.step hb1)
    clear hb1
    obtain ⟨y0,y1,y2,y3,y4⟩:=bx_all HQ.out
    cases b1
    ·
     replace HZ:=hid (HZ.out (by rw [HP.out];rfl))
     go_wp2_with fail
     go_ret
     exact ⟨ret_bool HZ.out.symm,bstep HX.out HQ.out.below⟩
    by_cases hk1 : kl.length = 1
    rotate_left
    ·
     have hj2 : ((kl.length : Int) == 1) = false:=by simp;omega
     replace HZ:=hid (HZ.out (by rw [HP.out,Sy.el_no hk1];rfl))
     clear hk1
     go_wp2_with fail
     go_ret
     exact ⟨ret_bool HZ.out.symm,bstep HX.out HQ.out.below⟩
    have hj2 : ((kl.length : Int) == 1) = true:=by simp;omega
    have hn0 : 0 < kl.length:=by omega
    have hp0 : (0 : Int) < (kl.length : Int):=by omega
    obtain ⟨b',o',c',he⟩:=HSK.out.base hn0
    injection he with he1 he2 he3
    subst he1
    clear he2 he3
    have K0:=hid (CB.out (kl[0]'hn0) (HK.out _ (List.getElem_mem _)))
    rw [Sy.el_at hk1] at HP
    generalize Sy.rB (kl[0]'hn0) = r0 at HP K0
    clear hk1
    obtain ⟨A5,c5,p0,p1,p2,p3,p4,hv5⟩:=(HSK.out.below HQ.out.below).kid 0 hn0 o' (by omega)
    replace K0:=hid (K0.out _ _ S hv5)
    clear hv5
    go_wp2_with fail
    refine (K0.out).mono ?_
    rintro e w1 ⟨rfl,hb1⟩
    replace HQ:=hid (HQ.out.step hb1)
    clear hb1
    obtain ⟨y0,y1,y2,y3,y4⟩:=bx_all HQ.out
    cases r0
    ·
     replace HZ:=hid (HZ.out (by rw [HP.out];rfl))
     go_wp2_with fail
     go_ret
     exact ⟨ret_bool HZ.out.symm,bstep HX.out HQ.out.below⟩
    ·
     replace HY:=hid (HY.out (by rw [HP.out];rfl))
     have HXB:=hid (bstep HX.out HQ.out.below)
     go_wp2_with fail
     go_roundw
     case rel => exact ⟨i + 1,by omega,by go_num,HY.out,HXB.out⟩
     case measure => simp [intOf];omega
  ·
   have h2 : l.drop i = []:=List.drop_eq_nil_of_le (by omega)
   rw [h2,Sy.rCs] at HA
   go_wp2_with fail
   go_ret
   exact ⟨ret_bool HA.out.symm,HX.out⟩
end Go.Proofs.YtgeppafcemeidaaGreatDoor
namespace Go.Proofs.YtgeppafcemeidaaGreatDoor
open Go.RowKit
open Sy (N)
open Tk (T)
theorem isStmt_any {m : Nat} (CX : RL m 123 Sy.rXs) (CB : RL m 116 Sy.rBs) (CC : RL m 183 (Sy.rCs 0)) (KX : RX m 74 Sy.rX) (KB : RX m 115 Sy.rB) (KS : RX m 158 Sy.rS) : RX (m + 1) 158 Sy.rS:=by
 intro v hsz a w S hv
 obtain ⟨op,nm,n,t,l⟩:=v
 obtain ⟨A,c,xs,rfl,ho,hl,hr,hvs⟩:=hv.open2
 have hm : ∀ v ∈ l,v.size < m:=Sy.kids_lt hsz
 have hs : Sl w S (.slice A l.length c) l:=Sl.of ho hr hvs
 by_cases hg1 : op = 40 \/ op = 41
 ·
  exact s_g1 CX op hg1 n nm t l w S A c hm hv hs
 by_cases h42 : op = 42
 ·
  subst h42;exact s_42 KX KB KS n nm t l w S A c hm hv hs
 by_cases h43 : op = 43
 ·
  subst h43;exact s_43 KX KB n nm t l w S A c hm hv hs
 by_cases h44 : op = 44
 ·
  subst h44;exact s_44 CX n nm t l w S A c hm hv hs
 by_cases hg2 : op = 45 \/ op = 52
 ·
  exact s_g2 CX op hg2 n nm t l w S A c hm hv hs
 by_cases h46 : op = 46
 ·
  subst h46;exact s_46 CB n nm t l w S A c hm hv hs
 by_cases h47 : op = 47
 ·
  subst h47;exact s_47 CB n nm t l w S A c hm hv hs
 by_cases h48 : op = 48
 ·
  subst h48;exact s_48 CX n nm t l w S A c hm hv hs
 by_cases h49 : op = 49
 ·
  subst h49;exact s_49 CC n nm t l w S A c hm hv hs
 have e : ∀ k : Int,¬ op = k -> (op == k) = false:=fun k h => by simpa using h
 exact s_no op n nm t l w S A c hm hv hs (e 40 (by omega)) (e 41 (by omega)) (e 42 (by omega)) (e 43 (by omega)) (e 44 (by omega)) (e 45 (by omega)) (e 46 (by omega)) (e 47 (by omega)) (e 48 (by omega)) (e 49 (by omega)) (e 52 (by omega))
structure AllR (m : Nat) : Prop where
 x : RX m 74 Sy.rX
 b : RX m 115 Sy.rB
 s : RX m 158 Sy.rS
theorem allR : ∀ m,AllR m
 | 0 => ⟨fun _ h => absurd h (Nat.not_lt_zero _),fun _ h => absurd h (Nat.not_lt_zero _),fun _ h => absurd h (Nat.not_lt_zero _)⟩
 | m + 1 => ⟨isExpr_any (exprs_any (allR m).x),isBlock_any (allR m).s,isStmt_any (exprs_any (allR m).x) (blocks_any (allR m).b) (cases_any (allR m).x (allR m).b) (allR m).x (allR m).b (allR m).s⟩
theorem rX_any (v : N) (a : Value) (w : World) (S : Nat -> Prop) (hv : NA w S a v) : Calls Tryz.prog 74 #[a] w fun e w' => e = .returned (.bool (Sy.rX v)) /\ Below w.heap.size w w':=(allR _).x v (Nat.lt_succ_self _) a w S hv
theorem rB_any (v : N) (a : Value) (w : World) (S : Nat -> Prop) (hv : NA w S a v) : Calls Tryz.prog 115 #[a] w fun e w' => e = .returned (.bool (Sy.rB v)) /\ Below w.heap.size w w':=(allR _).b v (Nat.lt_succ_self _) a w S hv
theorem rBs_any {m : Nat} : RL m 116 Sy.rBs:=blocks_any (allR m).b
namespace Sy
theorem oneInt_at {l : List N} (h : l.length = 1) : oneInt l = ((l[0]'(by omega)).op == 4):=by
 match l,h with
 | [k],_ => rfl
theorem rX_14 {n : Int} {nm t : List UInt8} {l : List N} (h : rX (.mk 14 nm n t l) = true) : l.length = 1:=by
 rw [rX] at h
 simp at h
 exact h.1.2
end Sy
theorem const_14 (n : Int) (nm t : List UInt8) (l : List N) (w : World) (S : Nat -> Prop) (A : Option Addr) (c : Nat) (hv : NA w S (.agg #[.int .i64 14,.string ⟨nm.toArray⟩,.int .i64 n,.string ⟨t.toArray⟩,.slice A l.length c]) (.mk 14 nm n t l)) (hs : Sl w S (.slice A l.length c) l) :
  Calls Tryz.prog 114 #[.agg #[.int .i64 14,.string ⟨nm.toArray⟩,.int .i64 n,.string ⟨t.toArray⟩,.slice A l.length c]] w fun e w' => e = .returned (.bool (Sy.rK (.mk 14 nm n t l))) /\ Below w.heap.size w w':=by
 have hl:=hs.1
 have HS:=hid hs
 have HD : Hid (Sy.rK (.mk 14 nm n t l) = (Sy.rX (.mk 14 nm n t l) && Sy.oneInt l)):=rfl
 have C1:=hid (fun W (hW : Below w.heap.size w W) => rX_any (.mk 14 nm n t l) _ W S (hv.below hW))
 have H14:=hid (fun h => Sy.rX_14 (n:=n) (nm:=nm) (t:=t) (l:=l) h)
 generalize Sy.rK (.mk 14 nm n t l) = dd at HD |-
 generalize Sy.rX (.mk 14 nm n t l) = bb at HD C1 H14
 have HX:=hid (Bx.refl (w:=w) (cs:=#[.int .i64 14,.string ⟨nm.toArray⟩,.int .i64 n,.string ⟨t.toArray⟩,.slice A l.length c]))
 clear hv
 cases bb
 ·
  clear hs
  go_enter Tryz.func114,Tryz.ntmps114
  go_wp2_with fail
  refine (C1.out _ HX.out.below).mono ?_
  rintro e w1 ⟨rfl,hb1⟩
  replace HX:=hid (HX.out.step hb1)
  clear hb1
  obtain ⟨x0,x1,x2,x3,x4⟩:=bx_all HX.out
  go_wp2_with fail
  go_ret
  exact ⟨ret_bool (by rw [HD.out];rfl),HX.out.below⟩
 have h1:=H14.out rfl
 obtain ⟨b,o,cc,he⟩:=hs.base (by omega)
 injection he with he1 he2 he3
 subst he1
 clear he2 he3 hs
 have hn0 : 0 < l.length:=by omega
 have hp0 : (0 : Int) < (l.length : Int):=by omega
 have HO : Hid (Sy.oneInt l = ((l[0]'hn0).op == 4)):=Sy.oneInt_at h1
 clear h1
 generalize Sy.oneInt l = oo at HD HO
 go_enter Tryz.func114,Tryz.ntmps114
 go_wp2_with fail
 refine (C1.out _ HX.out.below).mono ?_
 rintro e w1 ⟨rfl,hb1⟩
 replace HX:=hid (HX.out.step hb1)
 clear hb1
 obtain ⟨x0,x1,x2,x3,x4⟩:=bx_all HX.out
 obtain ⟨A5,c5,p0,p1,p2,p3,p4,hv5⟩:=(HS.out.below HX.out.below).kid 0 hn0 o (by omega)
 clear hv5 p1 p2 p3 p4
 generalize (l[0]'hn0).op = kop at *
 go_wp2_with fail
 go_ret
 exact ⟨ret_bool (by rw [HD.out,HO.out];rfl),HX.out.below⟩
theorem const_no (op n : Int) (nm t : List UInt8) (l : List N) (w : World) (S : Nat -> Prop) (A : Option Addr) (c : Nat) (h14 : ¬ op = 14) (hl : l.length <= 9223372036854775807) (hv : NA w S (.agg #[.int .i64 op,.string ⟨nm.toArray⟩,.int .i64 n,.string ⟨t.toArray⟩,.slice A l.length c]) (.mk op nm n t l)) :
  Calls Tryz.prog 114 #[.agg #[.int .i64 op,.string ⟨nm.toArray⟩,.int .i64 n,.string ⟨t.toArray⟩,.slice A l.length c]] w fun e w' => e = .returned (.bool (Sy.rK (.mk op nm n t l))) /\ Below w.heap.size w w':=by
 have HD : Hid (Sy.rK (.mk op nm n t l) = (Sy.rX (.mk op nm n t l) && decide (1 <= op) && decide (op <= 5))):=by
  show _ = _
  unfold Sy.rK
  rw [show (N.mk op nm n t l).op = op from rfl,if_neg h14]
 have e14 : (op == 14) = false:=by simpa using h14
 have C1:=hid (fun W (hW : Below w.heap.size w W) => rX_any (.mk op nm n t l) _ W S (hv.below hW))
 generalize Sy.rK (.mk op nm n t l) = dd at HD |-
 generalize Sy.rX (.mk op nm n t l) = bb at HD C1
 have HX:=hid (Bx.refl (w:=w) (cs:=#[.int .i64 op,.string ⟨nm.toArray⟩,.int .i64 n,.string ⟨t.toArray⟩,.slice A l.length c]))
 clear hv h14
 go_enter Tryz.func114,Tryz.ntmps114
 go_wp2_with fail
 refine (C1.out _ HX.out.below).mono ?_
 rintro e w1 ⟨rfl,hb1⟩
 replace HX:=hid (HX.out.step hb1)
 clear hb1
 obtain ⟨x0,x1,x2,x3,x4⟩:=bx_all HX.out
 cases bb
 ·
  go_wp2_with fail
  go_ret
  exact ⟨ret_bool (by rw [HD.out];rfl),HX.out.below⟩
 by_cases h1 : 1 <= op
 ·
  go_wp2_with fail
  go_ret
  exact ⟨ret_bool (by rw [HD.out];simp [h1]),HX.out.below⟩
 ·
  go_wp2_with fail
  go_ret
  exact ⟨ret_bool (by rw [HD.out];simp;omega),HX.out.below⟩
theorem isConst_any (v : N) (a : Value) (w : World) (S : Nat -> Prop) (hv : NA w S a v) : Calls Tryz.prog 114 #[a] w fun e w' => e = .returned (.bool (Sy.rK v)) /\ Below w.heap.size w w':=by
 obtain ⟨op,nm,n,t,l⟩:=v
 obtain ⟨A,c,xs,rfl,ho,hl,hr,hvs⟩:=hv.open2
 by_cases h : op = 14
 ·
  subst h;exact const_14 n nm t l w S A c hv (Sl.of ho hr hvs)
 ·
  exact const_no op n nm t l w S A c h hl hv
end Go.Proofs.YtgeppafcemeidaaGreatDoor
namespace Go.Proofs.YtgeppafcemeidaaGreatDoor
open Go.RowKit
open Sy (N)
open Tk (T)
theorem d_g1 {m : Nat} (CB : RL m 116 Sy.rBs) (op : Int) (hop : op = 63 \/ op = 64) (n : Int) (nm t : List UInt8) (l : List N) (w : World) (S : Nat -> Prop) (A : Option Addr) (c : Nat) (hm : ∀ v ∈ l,v.size < m) (hv : NA w S (.agg #[.int .i64 op,.string ⟨nm.toArray⟩,.int .i64 n,.string ⟨t.toArray⟩,.slice A l.length c]) (.mk op nm n t l)) (hs : Sl w S (.slice A l.length c) l) :
  Calls Tryz.prog 66 #[.agg #[.int .i64 op,.string ⟨nm.toArray⟩,.int .i64 n,.string ⟨t.toArray⟩,.slice A l.length c]] w fun e w' => e = .returned (.bool (Sy.rD (.mk op nm n t l))) /\ Below w.heap.size w w':=by
 have hl:=hs.1
 have HS:=hid hs
 have CBR:=hid (fun W (hW : Below w.heap.size w W) => bare_any (.mk op nm n t l) true true _ W S (hv.below hW))
 have htl : t.length <= 9223372036854775807:=by obtain ⟨_,_,_,_,ho,_⟩:=hv.open2;exact ho.2.2.2.2.2.1
 have CNM:=hid (fun (W : World) => named8_any t W htl)
 have CBL:=hid (fun W (hW : Below w.heap.size w W) => CB l hm _ W S (hs.below hW))
 have HD : Hid (Sy.rD (.mk op nm n t l) = (Sy.bareN (.mk op nm n t l) true true && Sy.named t && l.length == 1 && Sy.rBs l)):=by
  show _ = _
  rcases hop with rfl | rfl <;> (rfl)
 generalize Sy.rD (.mk op nm n t l) = dd at HD |-
 generalize Sy.bareN (.mk op nm n t l) true true = bb at HD CBR
 generalize Sy.named t = nn at HD CNM
 generalize Sy.rBs l = yy at HD CBL
 have HX:=hid (Bx.refl (w:=w) (cs:=#[.int .i64 op,.string ⟨nm.toArray⟩,.int .i64 n,.string ⟨t.toArray⟩,.slice A l.length c]))
 clear hv hs hm
 rcases hop with rfl | rfl
 all_goals
  go_enter Tryz.func66,Tryz.ntmps66
  go_wp2_with fail
  refine (CBR.out _ HX.out.below).mono ?_
  rintro e w1 ⟨rfl,hb1⟩
  replace HX:=hid (HX.out.step hb1)
  clear hb1
  obtain ⟨x0,x1,x2,x3,x4⟩:=bx_all HX.out
  cases bb
  ·
   go_wp2_with fail
   go_ret
   exact ⟨ret_bool (by rw [HD.out];simp),HX.out.below⟩
  go_wp2_with fail
  refine (CNM.out _).mono ?_
  rintro e w1 ⟨rfl,hb1⟩
  replace HX:=hid (HX.out.step hb1)
  clear hb1
  obtain ⟨x0,x1,x2,x3,x4⟩:=bx_all HX.out
  cases nn
  ·
   go_wp2_with fail
   go_ret
   exact ⟨ret_bool (by rw [HD.out];simp),HX.out.below⟩
  by_cases hk2 : l.length = 1
  rotate_left
  ·
   have hj2 : ((l.length : Int) == 1) = false:=by simp;omega
   have HK2:=hid hk2
   clear hk2
   go_wp2_with fail
   go_ret
   exact ⟨ret_bool (by rw [HD.out];simp [HK2.out]),HX.out.below⟩
  have hj2 : ((l.length : Int) == 1) = true:=by simp;omega
  have HK2:=hid hk2
  clear hk2
  go_wp2_with fail
  refine (CBL.out _ HX.out.below).mono ?_
  rintro e w1 ⟨rfl,hb1⟩
  replace HX:=hid (HX.out.step hb1)
  clear hb1
  obtain ⟨x0,x1,x2,x3,x4⟩:=bx_all HX.out
  go_wp2_with fail
  go_ret
  exact ⟨ret_bool (by rw [HD.out];simp [HK2.out]),HX.out.below⟩
theorem d_65 {m : Nat} (CB : RL m 116 Sy.rBs) (n : Int) (nm t : List UInt8) (l : List N) (w : World) (S : Nat -> Prop) (A : Option Addr) (c : Nat) (hm : ∀ v ∈ l,v.size < m) (hv : NA w S (.agg #[.int .i64 65,.string ⟨nm.toArray⟩,.int .i64 n,.string ⟨t.toArray⟩,.slice A l.length c]) (.mk 65 nm n t l)) (hs : Sl w S (.slice A l.length c) l) :
  Calls Tryz.prog 66 #[.agg #[.int .i64 65,.string ⟨nm.toArray⟩,.int .i64 n,.string ⟨t.toArray⟩,.slice A l.length c]] w fun e w' => e = .returned (.bool (Sy.rD (.mk 65 nm n t l))) /\ Below w.heap.size w w':=by
 have hl:=hs.1
 have HS:=hid hs
 have CBR:=hid (fun W (hW : Below w.heap.size w W) => bare_any (.mk 65 nm n t l) true true _ W S (hv.below hW))
 have htl : t.length <= 9223372036854775807:=by obtain ⟨_,_,_,_,ho,_⟩:=hv.open2;exact ho.2.2.2.2.2.1
 have CNM:=hid (fun (W : World) => named8_any t W htl)
 have CBL:=hid (fun W (hW : Below w.heap.size w W) => CB l hm _ W S (hs.below hW))
 have HD : Hid (Sy.rD (.mk 65 nm n t l) = (Sy.bareN (.mk 65 nm n t l) true true && Sy.named t && decide (1 <= l.length) && decide (l.length <= 2) && Sy.rBs l)):=by
  show _ = _
  rfl
 generalize Sy.rD (.mk 65 nm n t l) = dd at HD |-
 generalize Sy.bareN (.mk 65 nm n t l) true true = bb at HD CBR
 generalize Sy.named t = nn at HD CNM
 generalize Sy.rBs l = yy at HD CBL
 have HX:=hid (Bx.refl (w:=w) (cs:=#[.int .i64 65,.string ⟨nm.toArray⟩,.int .i64 n,.string ⟨t.toArray⟩,.slice A l.length c]))
 clear hv hs hm
 go_enter Tryz.func66,Tryz.ntmps66
 go_wp2_with fail
 refine (CBR.out _ HX.out.below).mono ?_
 rintro e w1 ⟨rfl,hb1⟩
 replace HX:=hid (HX.out.step hb1)
 clear hb1
 obtain ⟨x0,x1,x2,x3,x4⟩:=bx_all HX.out
 cases bb
 ·
  go_wp2_with fail
  go_ret
  exact ⟨ret_bool (by rw [HD.out];simp),HX.out.below⟩
 go_wp2_with fail
 refine (CNM.out _).mono ?_
 rintro e w1 ⟨rfl,hb1⟩
 replace HX:=hid (HX.out.step hb1)
 clear hb1
 obtain ⟨x0,x1,x2,x3,x4⟩:=bx_all HX.out
 cases nn
 ·
  go_wp2_with fail
  go_ret
  exact ⟨ret_bool (by rw [HD.out];simp),HX.out.below⟩
 by_cases hk2 : 1 <= l.length
 rotate_left
 ·
  have hj2 : ¬ (1 : Int) <= (l.length : Int):=by omega
  have HK2:=hid hk2
  clear hk2
  go_wp2_with fail
  go_ret
  exact ⟨ret_bool (by rw [HD.out];simp [HK2.out]),HX.out.below⟩
 have hj2 : (1 : Int) <= (l.length : Int):=by omega
 have HK2:=hid hk2
 clear hk2
 by_cases hk3 : l.length <= 2
 rotate_left
 ·
  have hj3 : ¬ (l.length : Int) <= 2:=by omega
  have HK3:=hid hk3
  clear hk3
  go_wp2_with fail
  go_ret
  exact ⟨ret_bool (by rw [HD.out];simp [HK3.out]),HX.out.below⟩
 have hj3 : (l.length : Int) <= 2:=by omega
 have HK3:=hid hk3
 clear hk3
 go_wp2_with fail
 refine (CBL.out _ HX.out.below).mono ?_
 rintro e w1 ⟨rfl,hb1⟩
 replace HX:=hid (HX.out.step hb1)
 clear hb1
 obtain ⟨x0,x1,x2,x3,x4⟩:=bx_all HX.out
 go_wp2_with fail
 go_ret
 exact ⟨ret_bool (by rw [HD.out];simp [HK2.out,HK3.out]),HX.out.below⟩
theorem d_no {m : Nat} (op n : Int) (nm t : List UInt8) (l : List N) (w : World) (S : Nat -> Prop) (A : Option Addr) (c : Nat) (hm : ∀ v ∈ l,v.size < m) (hv : NA w S (.agg #[.int .i64 op,.string ⟨nm.toArray⟩,.int .i64 n,.string ⟨t.toArray⟩,.slice A l.length c]) (.mk op nm n t l)) (hs : Sl w S (.slice A l.length c) l) (e61 : (op == 61) = false) (e62 : (op == 62) = false) (e63 : (op == 63) = false) (e64 : (op == 64) = false) (e65 : (op == 65) = false) :
  Calls Tryz.prog 66 #[.agg #[.int .i64 op,.string ⟨nm.toArray⟩,.int .i64 n,.string ⟨t.toArray⟩,.slice A l.length c]] w fun e w' => e = .returned (.bool (Sy.rD (.mk op nm n t l))) /\ Below w.heap.size w w':=by
 have hl:=hs.1
 have hf : Sy.rD (.mk op nm n t l) = false:=by
  have f : ∀ k : Int,(op == k) = false -> ¬ op = k:=fun k h => by simpa using h
  unfold Sy.rD
  rw [show (N.mk op nm n t l).op = op from rfl,if_neg (f 61 e61),if_neg (f 62 e62),if_neg (fun h => h.elim (f 63 e63) (f 64 e64)),if_neg (f 65 e65)]
 rw [hf]
 clear hf hv hs hm
 go_enter Tryz.func66,Tryz.ntmps66
 go_wp2_with fail
 go_ret
 exact ⟨rfl,bl _⟩
namespace Sy
theorem var_at {l : List N} (h : l.length = 1) : rVar l = rK (l[0]'(by omega)):=by
 match l,h with
 | [k],_ => rfl
theorem var_no {l : List N} (h : l.length ≠ 1) : rVar l = false:=by
 match l,h with
 | [],_ => rfl
 | [a],h => simp at h
 | a :: b :: l,_ => rfl
theorem par_step {l : List N} {i : Nat} (h : i + 1 < l.length) : rPar (l.drop i) = ((l[i].op == 6 && rX l[i]) && rPar (l.drop (i + 1))):=by
 rw [List.drop_eq_getElem_cons (by omega : i < l.length)]
 rw [List.drop_eq_getElem_cons h]
 rw [rPar]
 simpa using h
theorem par_last {l : List N} {i : Nat} (h : i + 1 = l.length) : rPar (l.drop i) = rB (l[i]'(by omega)):=by
 rw [List.drop_eq_getElem_cons (by omega : i < l.length),List.drop_eq_nil_of_le (by omega),rPar]
end Sy
theorem d_61 {m : Nat} (n : Int) (nm t : List UInt8) (l : List N) (w : World) (S : Nat -> Prop) (A : Option Addr) (c : Nat) (hm : ∀ v ∈ l,v.size < m) (hv : NA w S (.agg #[.int .i64 61,.string ⟨nm.toArray⟩,.int .i64 n,.string ⟨t.toArray⟩,.slice A l.length c]) (.mk 61 nm n t l)) (hs : Sl w S (.slice A l.length c) l) :
  Calls Tryz.prog 66 #[.agg #[.int .i64 61,.string ⟨nm.toArray⟩,.int .i64 n,.string ⟨t.toArray⟩,.slice A l.length c]] w fun e w' => e = .returned (.bool (Sy.rD (.mk 61 nm n t l))) /\ Below w.heap.size w w':=by
 have hl:=hs.1
 have HS:=hid hs
 have CBR:=hid (fun W (hW : Below w.heap.size w W) => bare_any (.mk 61 nm n t l) true false _ W S (hv.below hW))
 have HD : Hid (Sy.rD (.mk 61 nm n t l) = (Sy.bareN (.mk 61 nm n t l) true false && Sy.rVar l)):=rfl
 generalize Sy.rD (.mk 61 nm n t l) = dd at HD |-
 generalize Sy.bareN (.mk 61 nm n t l) true false = bb at HD CBR
 have HX:=hid (Bx.refl (w:=w) (cs:=#[.int .i64 61,.string ⟨nm.toArray⟩,.int .i64 n,.string ⟨t.toArray⟩,.slice A l.length c]))
 by_cases h1 : l.length = 1
 rotate_left
 ·
  have hj : ((l.length : Int) == 1) = false:=by simp;omega
  have HF : Hid (dd = false):=by show _ = _;rw [HD.out,Sy.var_no h1];simp
  clear hv hs hm h1
  go_enter Tryz.func66,Tryz.ntmps66
  go_wp2_with fail
  refine (CBR.out _ HX.out.below).mono ?_
  rintro e w1 ⟨rfl,hb1⟩
  replace HX:=hid (HX.out.step hb1)
  clear hb1
  obtain ⟨x0,x1,x2,x3,x4⟩:=bx_all HX.out
  cases bb
  ·
   go_wp2_with fail
   go_ret
   exact ⟨ret_bool HF.out.symm,HX.out.below⟩
  ·
   go_wp2_with fail
   go_ret
   exact ⟨ret_bool HF.out.symm,HX.out.below⟩
 obtain ⟨b,o,cc,he⟩:=hs.base (by omega)
 injection he with he1 he2 he3
 subst he1
 clear he2 he3
 have hj : ((l.length : Int) == 1) = true:=by simp;omega
 have hp0 : (0 : Int) < (l.length : Int):=by omega
 have hn0 : 0 < l.length:=by omega
 have K0:=hid (fun a w S => isConst_any (l[0]'hn0) a w S)
 rw [Sy.var_at h1] at HD
 generalize Sy.rK (l[0]'hn0) = r0 at HD K0
 clear hv hs hm h1
 go_enter Tryz.func66,Tryz.ntmps66
 go_wp2_with fail
 refine (CBR.out _ HX.out.below).mono ?_
 rintro e w1 ⟨rfl,hb1⟩
 replace HX:=hid (HX.out.step hb1)
 clear hb1
 obtain ⟨x0,x1,x2,x3,x4⟩:=bx_all HX.out
 cases bb
 ·
  have HF : Hid (dd = false):=HD.out.trans rfl
  go_wp2_with fail
  go_ret
  exact ⟨ret_bool HF.out.symm,HX.out.below⟩
 obtain ⟨A0,c0,q0,q1,q2,q3,q4,hva0⟩:=(HS.out.below HX.out.below).kid 0 hn0 o (by omega)
 have K0:=hid (K0.out _ _ S hva0)
 clear hva0
 go_wp2_with fail
 refine K0.out.mono ?_
 rintro e w1 ⟨rfl,hb1⟩
 replace HX:=hid (HX.out.step hb1)
 clear hb1
 go_wp2_with fail
 go_ret
 exact ⟨ret_bool HD.out.symm,HX.out.below⟩
theorem d_62 {m : Nat} (n : Int) (nm t : List UInt8) (l : List N) (w : World) (S : Nat -> Prop) (A : Option Addr) (c : Nat) (hm : ∀ v ∈ l,v.size < m) (hv : NA w S (.agg #[.int .i64 62,.string ⟨nm.toArray⟩,.int .i64 n,.string ⟨t.toArray⟩,.slice A l.length c]) (.mk 62 nm n t l)) (hs : Sl w S (.slice A l.length c) l) :
  Calls Tryz.prog 66 #[.agg #[.int .i64 62,.string ⟨nm.toArray⟩,.int .i64 n,.string ⟨t.toArray⟩,.slice A l.length c]] w fun e w' => e = .returned (.bool (Sy.rD (.mk 62 nm n t l))) /\ Below w.heap.size w w':=by
 have hl:=hs.1
 have HS:=hid hs
 have CBR:=hid (fun W (hW : Below w.heap.size w W) => bare_any (.mk 62 nm n t l) true false _ W S (hv.below hW))
 have HD : Hid (Sy.rD (.mk 62 nm n t l) = (Sy.bareN (.mk 62 nm n t l) true false && Sy.rPar l)):=rfl
 generalize Sy.rD (.mk 62 nm n t l) = dd at HD |-
 generalize Sy.bareN (.mk 62 nm n t l) true false = bb at HD CBR
 have H0 : Hid (Sy.rPar l = Sy.rPar (l.drop 0)):=rfl
 generalize Sy.rPar l = pr at HD H0
 clear hv hs hm
 go_enter Tryz.func66,Tryz.ntmps66
 go_wp2_with fail
 go_loopw [4] (fun v4 wr => ∃ i : Nat,i <= l.length /\ (i = 0 \/ i < l.length) /\ v4 = .int .i64 (i : Int) /\ Hid (pr = Sy.rPar (l.drop i)) /\ Bx w #[.int .i64 62,.string ⟨nm.toArray⟩,.int .i64 n,.string ⟨t.toArray⟩,.slice A l.length c] wr) (fun v4 _ => l.length - (intOf v4).toNat)
 case atStart => exact ⟨0,Nat.zero_le _,.inl rfl,rfl,H0.out,Bx.refl⟩
 case round =>
  obtain ⟨i,hi,hi2,rfl,HA,hbx⟩:=hrel
  have HX:=hid hbx
  obtain ⟨x0,x1,x2,x3,x4⟩:=bx_all hbx
  clear hbx
  by_cases hlt : i + 1 < l.length
  ·
   have hn : i < l.length:=by omega
   obtain ⟨b,o,cc,A1,c1,he,q0,q1,q2,q3,q4,hva⟩:=(HS.out.below HX.out.below).kids i hn
   injection he with he1 he2 he3
   subst he1
   clear he2 he3
   have hjl : (i : Int) < (l.length : Int) - 1:=by omega
   have hjl2 : (i : Int) < (l.length : Int):=by omega
   have CI:=hid (rX_any l[i] _ wr S hva)
   have HN:=hid (HA.out.trans (Sy.par_step hlt))
   clear hva
   generalize Sy.rX l[i] = r0 at HN CI
   generalize l[i].op = kop at *
   generalize l[i].nm = knm at *
   generalize l[i].n = kn at *
   generalize l[i].t = kt at *
   generalize l[i].l = kl at *
   cases h6 : (kop == 6)
   ·
    have hne : (kop != 6) = true:=by simp at h6 |-;exact h6
    have HF : Hid (dd = false):=by show _ = _;rw [HD.out,HN.out,h6];simp
    clear h6
    go_wp2_with fail
    go_ret
    exact ⟨ret_bool HF.out.symm,HX.out.below⟩
   have hne : (kop != 6) = false:=by simp at h6 |-;exact h6
   replace HN : Hid (pr = (r0 && Sy.rPar (l.drop (i + 1)))):=by show _ = _;rw [HN.out,h6];simp
   clear h6
   go_wp2_with fail
   refine CI.out.mono ?_
   rintro e w1 ⟨rfl,hb1⟩
   replace HX:=hid (HX.out.step hb1)
   clear hb1
   cases r0
   ·
    have HF : Hid (dd = false):=by show _ = _;rw [HD.out,HN.out];simp
    go_wp2_with fail
    go_ret
    exact ⟨ret_bool HF.out.symm,HX.out.below⟩
   ·
    replace HN : Hid (pr = Sy.rPar (l.drop (i + 1))):=by show _ = _;rw [HN.out];rfl
    go_wp2_with fail
    go_roundw
    case rel => exact ⟨i + 1,by omega,.inr hlt,by go_num,HN.out,HX.out⟩
    case measure => simp [intOf];omega
  ·
   have hjl : ¬ (i : Int) < (l.length : Int) - 1:=by omega
   by_cases h0 : l.length = 0
   ·
    have HF : Hid (dd = false):=by
     show _ = _
     have hnil : l = []:=List.eq_nil_of_length_eq_zero h0
     rw [HD.out,HA.out,hnil,List.drop_nil,Sy.rPar];simp
    have hj0 : ¬ (0 : Int) < (l.length : Int):=by omega
    clear h0
    go_wp2_with fail
    refine (CBR.out _ HX.out.below).mono ?_
    rintro e w1 ⟨rfl,hb1⟩
    replace HX:=hid (HX.out.step hb1)
    clear hb1
    cases bb
    ·
     go_wp2_with fail
     go_ret
     exact ⟨ret_bool HF.out.symm,HX.out.below⟩
    ·
     go_wp2_with fail
     go_ret
     exact ⟨ret_bool HF.out.symm,HX.out.below⟩
   have hj0 : (0 : Int) < (l.length : Int):=by omega
   have hn0 : 0 < l.length:=by omega
   have hle : i + 1 = l.length:=by omega
   have hn : i < l.length:=by omega
   obtain ⟨b,o,cc,he⟩:=HS.out.base hn0
   injection he with he1 he2 he3
   subst he1
   clear he2 he3
   have HN:=hid (HA.out.trans (Sy.par_last hle))
   have CI:=hid (fun a w S => rB_any (l[i]'hn) a w S)
   generalize Sy.rB (l[i]'hn) = r0 at HN CI
   have HLE:=hid hle
   have hsub : (l.length : Int) - 1 = (i : Int):=by omega
   have HSUB:=hid hsub
   clear hle h0 hsub
   go_wp2_with fail
   refine (CBR.out _ HX.out.below).mono ?_
   rintro e w1 ⟨rfl,hb1⟩
   replace HX:=hid (HX.out.step hb1)
   clear hb1
   clear x0 x1 x2 x3 x4
   obtain ⟨x0,x1,x2,x3,x4⟩:=bx_all HX.out
   cases bb
   ·
    have HF : Hid (dd = false):=HD.out.trans rfl
    go_wp2_with fail
    go_ret
    exact ⟨ret_bool HF.out.symm,HX.out.below⟩
   obtain ⟨A0,c0,q0,q1,q2,q3,q4,hva0⟩:=(HS.out.below HX.out.below).kid i hn (o + (l.length - 1) * 5) (by have:=HLE.out;omega)
   have K0:=hid (CI.out _ _ S hva0)
   clear hva0
   go_wp2_with fail
   refine K0.out.mono ?_
   rintro e w1 ⟨rfl,hb1⟩
   replace HX:=hid (HX.out.step hb1)
   clear hb1
   go_wp2_with fail
   go_ret
   exact ⟨ret_bool (by rw [HD.out,HN.out];rfl),HX.out.below⟩
end Go.Proofs.YtgeppafcemeidaaGreatDoor
namespace Go.Proofs.YtgeppafcemeidaaGreatDoor
open Go.RowKit
open Sy (N)
open Tk (T)
theorem isDecl_any (v : N) (a : Value) (w : World) (S : Nat -> Prop) (hv : NA w S a v) : Calls Tryz.prog 66 #[a] w fun e w' => e = .returned (.bool (Sy.rD v)) /\ Below w.heap.size w w':=by
 obtain ⟨op,nm,n,t,l⟩:=v
 obtain ⟨A,c,xs,rfl,ho,hl,hr,hvs⟩:=hv.open2
 have hm : ∀ v ∈ l,v.size < (N.mk op nm n t l).size:=Sy.kids_lt (Nat.lt_succ_self _)
 have hs : Sl w S (.slice A l.length c) l:=Sl.of ho hr hvs
 generalize (N.mk op nm n t l).size = m at hm
 by_cases h61 : op = 61
 ·
  subst h61;exact d_61 n nm t l w S A c hm hv hs
 by_cases h62 : op = 62
 ·
  subst h62;exact d_62 n nm t l w S A c hm hv hs
 by_cases hg1 : op = 63 \/ op = 64
 ·
  exact d_g1 rBs_any op hg1 n nm t l w S A c hm hv hs
 by_cases h65 : op = 65
 ·
  subst h65;exact d_65 rBs_any n nm t l w S A c hm hv hs
 have e : ∀ k : Int,¬ op = k -> (op == k) = false:=fun k h => by simpa using h
 exact d_no op n nm t l w S A c hm hv hs (e 61 (by omega)) (e 62 (by omega)) (e 63 (by omega)) (e 64 (by omega)) (e 65 (by omega))
theorem rrightX_any (v : N) (a : Value) (w : World) (S : Nat -> Prop) (hsz : v.size <= 1099511627776) (hv : NA w S a v) : Calls Tryz.prog 42 #[a] w fun e w' => e = .returned (.bool (Sy.rightX v)) /\ Below w.heap.size w w':=by
 rw [<- Sy.rRightX_eq]
 have C1:=hid (fun W (hW : Below w.heap.size w W) => small_any v a W S hsz (hv.below hW))
 have C2:=hid (fun W (hW : Below w.heap.size w W) => rX_any v a W S (hv.below hW))
 have HD : Hid (Sy.rRightX v = (decide (v.size <= 4000 /\ v.depth <= 40) && Sy.rX v)):=rfl
 generalize Sy.rRightX v = dd at HD |-
 generalize decide (v.size <= 4000 /\ v.depth <= 40) = sm at HD C1
 generalize Sy.rX v = xx at HD C2
 obtain ⟨op,nm,n,t,l⟩:=v
 obtain ⟨A,c,xs,rfl,ho,hl,hr,hvs⟩:=hv.open2
 clear hv ho hr hvs hsz
 have HX:=hid (Bx.refl (w:=w) (cs:=#[.int .i64 op,.string ⟨nm.toArray⟩,.int .i64 n,.string ⟨t.toArray⟩,.slice A l.length c]))
 go_enter Tryz.func42,Tryz.ntmps42
 go_wp2_with fail
 refine (C1.out _ HX.out.below).mono ?_
 rintro e w1 ⟨rfl,hb1⟩
 replace HX:=hid (HX.out.step hb1)
 clear hb1
 obtain ⟨x0,x1,x2,x3,x4⟩:=bx_all HX.out
 cases sm
 ·
  go_wp2_with fail
  go_ret
  exact ⟨ret_bool HD.out.symm,HX.out.below⟩
 go_wp2_with fail
 refine (C2.out _ HX.out.below).mono ?_
 rintro e w1 ⟨rfl,hb1⟩
 replace HX:=hid (HX.out.step hb1)
 clear hb1
 obtain ⟨x0,x1,x2,x3,x4⟩:=bx_all HX.out
 go_wp2_with fail
 go_ret
 exact ⟨ret_bool (by rw [HD.out];rfl),HX.out.below⟩
theorem rright_any (v : N) (a : Value) (w : World) (S : Nat -> Prop) (hsz : v.size <= 1099511627776) (hv : NA w S a v) : Calls Tryz.prog 39 #[a] w fun e w' => e = .returned (.bool (Sy.right v)) /\ Below w.heap.size w w':=by
 rw [<- Sy.rRight_eq]
 have C1:=hid (fun W (hW : Below w.heap.size w W) => bare_any v false false a W S (hv.below hW))
 have C2:=hid (fun W (hW : Below w.heap.size w W) => small_any v a W S hsz (hv.below hW))
 have HD : Hid (Sy.rRight v = (v.op == 60 && Sy.bareN v false false && decide (v.size <= 4000 /\ v.depth <= 40) && v.l.all Sy.rD)):=rfl
 generalize Sy.rRight v = dd at HD |-
 generalize decide (v.size <= 4000 /\ v.depth <= 40) = sm at HD C2
 generalize Sy.bareN v false false = bb at HD C1
 obtain ⟨op,nm,n,t,l⟩:=v
 obtain ⟨A,c,xs,rfl,ho,hl,hr,hvs⟩:=hv.open2
 have HS:=hid (Sl.of ho hr hvs)
 clear hv ho hr hvs hsz
 replace HD : Hid (dd = (op == 60 && bb && sm && l.all Sy.rD)):=HD
 have HX:=hid (Bx.refl (w:=w) (cs:=#[.int .i64 op,.string ⟨nm.toArray⟩,.int .i64 n,.string ⟨t.toArray⟩,.slice A l.length c]))
 cases h60 : (op == 60)
 ·
  have hne : (op != 60) = true:=by simp at h60 |-;exact h60
  have HF : Hid (dd = false):=by show _ = _;rw [HD.out,h60];rfl
  clear h60
  go_enter Tryz.func39,Tryz.ntmps39
  go_wp2_with fail
  go_ret
  exact ⟨ret_bool HF.out.symm,HX.out.below⟩
 have hne : (op != 60) = false:=by simp at h60 |-;exact h60
 replace HD : Hid (dd = (bb && sm && l.all Sy.rD)):=by show _ = _;rw [HD.out,h60];rfl
 clear h60
 go_enter Tryz.func39,Tryz.ntmps39
 go_wp2_with fail
 refine (C1.out _ HX.out.below).mono ?_
 rintro e w1 ⟨rfl,hb1⟩
 replace HX:=hid (HX.out.step hb1)
 clear hb1
 obtain ⟨x0,x1,x2,x3,x4⟩:=bx_all HX.out
 cases bb
 ·
  go_wp2_with fail
  go_ret
  exact ⟨ret_bool (by rw [HD.out];rfl),HX.out.below⟩
 go_wp2_with fail
 refine (C2.out _ HX.out.below).mono ?_
 rintro e w1 ⟨rfl,hb1⟩
 replace HX:=hid (HX.out.step hb1)
 clear hb1
 obtain ⟨x0,x1,x2,x3,x4⟩:=bx_all HX.out
 cases sm
 ·
  go_wp2_with fail
  go_ret
  exact ⟨ret_bool (by rw [HD.out];rfl),HX.out.below⟩
 replace HD : Hid (dd = l.all Sy.rD):=by show _ = _;rw [HD.out];rfl
 go_wp2_with fail
 go_loopw [3] (fun v3 wr => ∃ i : Nat,i <= l.length /\ v3 = .int .i64 (i : Int) /\ Hid ((l.take i).all Sy.rD = true) /\ Bx w #[.int .i64 op,.string ⟨nm.toArray⟩,.int .i64 n,.string ⟨t.toArray⟩,.slice A l.length c] wr) (fun v3 _ => l.length - (intOf v3).toNat)
 case atStart => exact ⟨0,Nat.zero_le _,rfl,rfl,HX.out⟩
 case round =>
  obtain ⟨i,hi,rfl,HA,hbx⟩:=hrel
  clear x0 x1 x2 x3 x4
  have HX:=hid hbx
  obtain ⟨x0,x1,x2,x3,x4⟩:=bx_all hbx
  clear hbx
  by_cases hlt : i < l.length
  ·
   obtain ⟨b,o,cc,A1,c1,he,q0,q1,q2,q3,q4,hva⟩:=(HS.out.below HX.out.below).kids i hlt
   injection he with he1 he2 he3
   subst he1
   clear he2 he3
   have hjl : (i : Int) < (l.length : Int):=by omega
   have CI:=hid (isDecl_any l[i] _ wr S hva)
   clear hva
   by_cases hp : Sy.rD l[i] = true
   ·
    have HN:=hid (all_take HA.out hlt hp)
    rw [hp] at CI
    clear hp
    go_wp2_with fail
    refine CI.out.mono ?_
    rintro e w2 ⟨rfl,hb2⟩
    have HXB:=hid (HX.out.step hb2)
    clear hb2
    go_wp2_with fail
    go_roundw
    case rel => exact ⟨i + 1,by omega,by go_num,HN.out,HXB.out⟩
    case measure => simp [intOf];omega
   ·
    have hp' : Sy.rD l[i] = false:=by simpa using hp
    rw [hp'] at CI
    have HN : Hid (dd = false):=HD.out.trans (all_no hlt hp')
    clear hp hp'
    go_wp2_with fail
    refine CI.out.mono ?_
    rintro e w2 ⟨rfl,hb2⟩
    go_wp2_with fail
    go_ret
    exact ⟨ret_bool HN.out.symm,bstep HX.out.below hb2⟩
  ·
   have h2 : l.take i = l:=List.take_of_length_le (by omega)
   rw [h2] at HA
   go_wp2_with fail
   go_ret
   exact ⟨ret_bool (by rw [HD.out,HA.out]),HX.out.below⟩
end Go.Proofs.YtgeppafcemeidaaGreatDoor
